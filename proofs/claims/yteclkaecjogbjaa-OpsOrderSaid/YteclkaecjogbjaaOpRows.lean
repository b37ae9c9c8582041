/-
  Slices of operations, kept as letters; an operation copied into a block of its own.
-/
import Derived.Test.YteclkaecjogbjaaOpLaws
import Derived.Test.YteclkaecjogbjaaOpWide
import Derived.Test.YteclkaecjogbjaaOpOpen
import Derived.Deep.Slices
import Derived.Deep.Fields
namespace Go.Proofs.Yteclkaecjogbjaa
open Go.RowKit Go.Sort

def opL (o : OpV) : List Value := (OpC o).toList
theorem elemO : ElemK Try.prog 34 31 (.agg #[.int .i64 0, .int .i64 0, .int .i64 0, .int .i64 0, .int .i64 0, .int .i64 0, .int .i64 0, .int .i64 0, .int .i64 0, .int .i64 0, .int .i64 0, .int .i64 0, .int .i64 0, .int .i64 0, .int .i64 0, .int .i64 0, .int .i64 0, .string { data := #[] }, .string { data := #[] }, .string { data := #[] }, .int .i64 0, .int .i64 0, .bool false, .int .i64 0, .int .i64 0, .bool false]) 26 232 := ⟨Try.underlying34, by kernel_rfl, rfl, by omega, by omega, fun W => by kernel_rfl⟩
/-- A slice of operations. -/
def OpsAt (w : World) (v : Value) (l : List OpV) : Prop := RowsAt 26 w v (l.map opL)
theorem ops_at {l : List OpV} {i : Nat} {o : OpV} (h : l[i]? = some o) : (l.map opL)[i]? = some (opL o) := by rw [List.getElem?_map, h]; rfl
theorem OpsAt.below {w w' : World} {v : Value} {l : List OpV} (h : OpsAt w v l) (hb : Below w.heap.size w w') : OpsAt w' v l := RowsAt.below h hb
theorem OpsAt.len {w : World} {v : Value} {l : List OpV} (h : OpsAt w v l) (ty : TypeId) (W : World) : (Builtin.len_ #[34] ty #[v]).run Try.prog W = .ok (.int .i64 (l.length : Nat)) W := by
  have := RowsAt.len h elemO.ht (ty := ty) W
  rwa [List.length_map] at this
theorem OpsAt.le {w : World} {v : Value} {l : List OpV} (h : OpsAt w v l) : (l.length : Int) ≤ 9223372036854775807 := by
  have := RowsAt.le h
  rwa [List.length_map] at this
theorem opL_one (o : OpV) : ∀ u ∈ opL o, u.oneCell' = true := by
  intro u hu
  have := OpC_one o
  rw [Array.all_eq_true_iff_forall_mem] at this
  exact this u (Array.mem_toList_iff.1 hu)

/-- An element's address; the element. -/
theorem OpsAt.index {w : World} {v : Value} {l : List OpV} (h : OpsAt w v l) {i : Nat} {o : OpV} (hi : l[i]? = some o) :
    ∃ b off, (∀ W, (Instr.indexAt 34 v (.int .i64 (i : Int))).run Try.prog W = .ok (.pointer (some ⟨b, off, none⟩)) W) ∧ w.rangeAt b off (opL o) ∧ b < w.heap.size := by
  obtain ⟨b, off, h1, h2, h3, _⟩ := RowsAt.index h elemO.ht elemO.hs (ops_at hi)
  exact ⟨b, off, h1, h2, h3⟩

theorem range_after {w w' : World} {b off : Nat} {cs : List Value} (h : w.rangeAt b off cs) (hb : Below w.heap.size w w') (hlt : b < w.heap.size) : w'.rangeAt b off cs := fun j u hu => by
  rw [hb.cell (p := ⟨b, off + j, none⟩) hlt]; exact h j u hu
theorem run_loadOpMid {w : World} {b off : Nat} {o : OpV} (h : w.rangeAt b off (opL o)) : (loadVar 31 ⟨b, off, none⟩).run Try.prog w = .ok (.agg (OpC o)) w := by
  have := run_loadVar_mid (P := Try.prog) w b off 31 (opL o) _ h Try.underlying31 rfl infoO
  rw [this]
  unfold opL
  rw [Array.toArray_toList]

/-- An element is read, whole. -/
theorem load_mid {ops : Array Oper} {Q : Exit → Act → World → Prop} {rest : List Oper} {a : Act} {w : World} {d : Option Tmp} {t : Tmp} {ty : TypeId} {pos : String} {after : Array Edge} {g : Option (Nat × Bool)} {b off : Nat} {o : OpV}
    (hA : w.rangeAt b off (opL o)) (hw : Region.wanted { dst := d, op := .load 31 (.tmp t), type := ty, pos := pos, after := after, guard := g } (yielded ops a.tmps) = true) (hx : a.tmps.getD t undef = .pointer (some ⟨b, off, none⟩))
    (h : wpList Try.prog ops Q rest (a.put d (.agg (OpC o))) w) : wpList Try.prog ops Q ({ dst := d, op := .load 31 (.tmp t), type := ty, pos := pos, after := after, guard := g } :: rest) a w :=
  BigFrame.wpList_want hw fun K hK => by
    unfold Oper.wp execOp
    have hx' : a.eval (.tmp t) = .pointer (some ⟨b, off, none⟩) := hx
    simp only [hx', Instr.loadAt, Instr.sureAddr, Sem.run_bind, Sem.run_pure, Result.andThen_ok, run_loadOpMid hA]
    exact hK _ _ h

/-- An operation copied into a block of its own. -/
theorem new_op (W : World) (o : OpV) : ∃ p W2, W.heap.size = p ∧ OpAt (W.alloc (.cells #[.int .i64 0, .int .i64 0, .int .i64 0, .int .i64 0, .int .i64 0, .int .i64 0, .int .i64 0, .int .i64 0, .int .i64 0, .int .i64 0, .int .i64 0, .int .i64 0, .int .i64 0, .int .i64 0, .int .i64 0, .int .i64 0, .int .i64 0, .string { data := #[] }, .string { data := #[] }, .string { data := #[] }, .int .i64 0, .int .i64 0, .bool false, .int .i64 0, .int .i64 0, .bool false] 31)) p zeroO ∧ (W.alloc (.cells #[.int .i64 0, .int .i64 0, .int .i64 0, .int .i64 0, .int .i64 0, .int .i64 0, .int .i64 0, .int .i64 0, .int .i64 0, .int .i64 0, .int .i64 0, .int .i64 0, .int .i64 0, .int .i64 0, .int .i64 0, .int .i64 0, .int .i64 0, .string { data := #[] }, .string { data := #[] }, .string { data := #[] }, .int .i64 0, .int .i64 0, .bool false, .int .i64 0, .int .i64 0, .bool false] 31)).setRow p (OpC o) = W2 ∧ Below W.heap.size W W2 ∧ OpAt W2 p o :=
  ⟨_, _, rfl, OpAt.new W zeroO, rfl, below_setRow (below_box1 _ _) (Nat.le_refl _) _, (OpAt.new W zeroO).row _⟩

theorem new_op_of {B : Nat} {w W : World} (_ : Below B w W) (o : OpV) : ∃ p W2, W.heap.size = p ∧ OpAt (W.alloc (.cells #[.int .i64 0, .int .i64 0, .int .i64 0, .int .i64 0, .int .i64 0, .int .i64 0, .int .i64 0, .int .i64 0, .int .i64 0, .int .i64 0, .int .i64 0, .int .i64 0, .int .i64 0, .int .i64 0, .int .i64 0, .int .i64 0, .int .i64 0, .string { data := #[] }, .string { data := #[] }, .string { data := #[] }, .int .i64 0, .int .i64 0, .bool false, .int .i64 0, .int .i64 0, .bool false] 31)) p zeroO ∧ (W.alloc (.cells #[.int .i64 0, .int .i64 0, .int .i64 0, .int .i64 0, .int .i64 0, .int .i64 0, .int .i64 0, .int .i64 0, .int .i64 0, .int .i64 0, .int .i64 0, .int .i64 0, .int .i64 0, .int .i64 0, .int .i64 0, .int .i64 0, .int .i64 0, .string { data := #[] }, .string { data := #[] }, .string { data := #[] }, .int .i64 0, .int .i64 0, .bool false, .int .i64 0, .int .i64 0, .bool false] 31)).setRow p (OpC o) = W2 ∧ Below W.heap.size W W2 ∧ OpAt W2 p o := new_op W o

set_option maxRecDepth 20000 in
open Go.ChangeShapes Go.WideShapes Go.ChangeAt Go.Joins in
/-- A slice of operations that is handed in. -/
theorem open_ops {H : Type} {enc : TypeId × Value → H} {W : World} {b0 : Nat} {v : Value} {d : DataW H} {p : List MemPlace} (hv : Value.okWide Try.prog W .any b0 34 v) (h : DataW.Trod enc Try.prog W 0 (fun _ => true) true 34 v d p) :
    ∃ l, OpsAt W v l ∧ ∀ o ∈ l, o.Fits ∧ o.Wf := by
  obtain ⟨A, n, c, rfl⟩ := okWide_slice Try.underlying34 hv
  obtain ⟨fuel, hf⟩ := h
  rcases Go.Deep.open_slice Try.underlying34 hf with ⟨hcs, _⟩ | ⟨a, len', cap', m, q, D, Pl, hcs, _, hl, hm, hmm, _, hi⟩
  · simp [Value.cells] at hcs
    obtain ⟨rfl, rfl, rfl⟩ := hcs
    exact ⟨[], ⟨none, 0, rfl, Nat.le_refl _, Nat.zero_le _, by simp, fun h => absurd h (by simp), fun _ => rfl⟩, by simp⟩
  · simp [Value.cells] at hcs
    obtain ⟨rfl, rfl, rfl⟩ := hcs
    simp only [if_true] at hmm
    subst hmm
    rw [cellsOfO] at hi
    have hall : ∀ i, i < n → ∃ o : OpV, W.cells? 0 (a.add (i * 26)) 26 = some (opL o) ∧ o.Fits ∧ o.Wf := fun i hin => by
      obtain ⟨cs', h1, h2⟩ := hi i (by omega)
      obtain ⟨o, rfl, ho⟩ := open_op_cells h2
      exact ⟨o, h1, ho⟩
    have hsome : Inhabited OpV := ⟨zeroO⟩
    obtain ⟨f, hf⟩ := Go.Deep.choose_lt hall
    refine ⟨(List.range n).map f, ⟨some a, _, by rw [List.length_map, List.length_map, List.length_range], by simpa using hl, hm, ?_, fun hpos => ?_, fun h => by cases h⟩, ?_⟩
    · intro x hx
      obtain ⟨o, _, rfl⟩ := List.mem_map.1 hx
      rfl
    · have hn : 0 < n := by simpa using hpos
      obtain ⟨h1, _⟩ := hf 0 hn
      obtain ⟨_, _, hc⟩ := World.cells?_some h1
      obtain ⟨b, off, spot⟩ := a
      have c0 := hc 0 (by show 0 < 26; omega)
      have hspot : spot = none := by simpa [Addr.add] using World.cell?_spot c0
      subst hspot
      have hblk : b < W.heap.size := by have := World.block_lt_of_cell? _ _ c0; simpa [addr_at] using this
      refine ⟨b, off, rfl, hblk, fun i x hx j u hu => ?_⟩
      have hin : i < n := by have := (List.getElem?_eq_some_iff.1 hx).1; simpa using this
      have hxe : x = opL (f i) := by
        rw [List.getElem?_map, List.getElem?_map, List.getElem?_range hin] at hx
        simpa using hx.symm
      subst hxe
      obtain ⟨h1, _⟩ := hf i hin
      obtain ⟨_, _, hc⟩ := World.cells?_some h1
      have hj : j < 26 := (List.getElem?_eq_some_iff.1 hu).1
      have := hc j hj
      rw [addr_at, addr_at] at this
      rw [this]
      exact hu
    · intro o ho
      obtain ⟨i, hin, rfl⟩ := List.mem_map.1 ho
      exact (hf i (by simpa using hin)).2
end Go.Proofs.Yteclkaecjogbjaa
