/-
  Joined: OpLaws, OpRows, OpOnly, OpRight, OpNames.
-/
import Derived.Test.YthpgfnhecfgiaaaGreatDoorMOpA
import Derived.BigRegion
import Derived.Deep.Slices
import Derived.Deep.Fields
namespace Go.Proofs.YthpgfnhecfgiaaaGreatDoor
open Go.RowKit Go.Sort
set_option maxRecDepth 20000

def zeroO : OpV := ⟨0, 0, fun _ => 0, 0, 0, 0, 0, 0, 0, 0, ByteArray.empty, ByteArray.empty, ByteArray.empty, 0, 0, false, 0, 0, false⟩
def baseO (o : OpV) : OpV := { zeroO with n := o.n, r := o.r, deps := o.deps, kind := o.kind }

theorem own_boxes (w : World) (o : OpV) : ∃ W, ((w.alloc (.cells (OpC o) 42)).alloc (.cells #[.int .i64 0, .int .i64 0, .int .i64 0, .int .i64 0, .int .i64 0, .int .i64 0, .int .i64 0, .int .i64 0, .int .i64 0, .int .i64 0, .int .i64 0, .int .i64 0, .int .i64 0, .int .i64 0, .int .i64 0, .int .i64 0, .int .i64 0, .string { data := #[] }, .string { data := #[] }, .string { data := #[] }, .int .i64 0, .int .i64 0, .bool false, .int .i64 0, .int .i64 0, .bool false] 42)) = W ∧ Below w.heap.size w W ∧ W.heap.size = w.heap.size + 2 ∧ OpAt W w.heap.size o ∧ OpAt W (w.heap.size + 1) zeroO := by
  refine ⟨_, rfl, below_alloc2 _ _ _, by simp, (OpAt.new w o).alloc _, ?_⟩
  have h := OpAt.new (w.alloc (.cells (OpC o) 42)) zeroO
  rw [show (w.alloc (.cells (OpC o) 42)).heap.size = w.heap.size + 1 from by simp] at h
  exact h

theorem own_third (w W : World) (o : OpV) (hb : Below w.heap.size w W) (hs : W.heap.size = w.heap.size + 2) (hA : OpAt W w.heap.size o) (hR : OpAt W (w.heap.size + 1) zeroO) : OpAt (W.alloc (.cells #[.int .i64 0, .int .i64 0, .int .i64 0, .int .i64 0, .int .i64 0, .int .i64 0, .int .i64 0, .int .i64 0, .int .i64 0, .int .i64 0, .int .i64 0, .int .i64 0, .int .i64 0, .int .i64 0, .int .i64 0, .int .i64 0, .int .i64 0, .string { data := #[] }, .string { data := #[] }, .string { data := #[] }, .int .i64 0, .int .i64 0, .bool false, .int .i64 0, .int .i64 0, .bool false] 42)) (w.heap.size + 2) zeroO ∧ ∃ W2, (W.alloc (.cells #[.int .i64 0, .int .i64 0, .int .i64 0, .int .i64 0, .int .i64 0, .int .i64 0, .int .i64 0, .int .i64 0, .int .i64 0, .int .i64 0, .int .i64 0, .int .i64 0, .int .i64 0, .int .i64 0, .int .i64 0, .int .i64 0, .int .i64 0, .string { data := #[] }, .string { data := #[] }, .string { data := #[] }, .int .i64 0, .int .i64 0, .bool false, .int .i64 0, .int .i64 0, .bool false] 42)).setRow (w.heap.size + 2) (OpC (baseO o)) = W2 ∧ Below w.heap.size w W2 ∧ OpAt W2 w.heap.size o ∧ OpAt W2 (w.heap.size + 1) zeroO ∧ OpAt W2 (w.heap.size + 2) (baseO o) := by
  have h0 : OpAt (W.alloc (.cells #[.int .i64 0, .int .i64 0, .int .i64 0, .int .i64 0, .int .i64 0, .int .i64 0, .int .i64 0, .int .i64 0, .int .i64 0, .int .i64 0, .int .i64 0, .int .i64 0, .int .i64 0, .int .i64 0, .int .i64 0, .int .i64 0, .int .i64 0, .string { data := #[] }, .string { data := #[] }, .string { data := #[] }, .int .i64 0, .int .i64 0, .bool false, .int .i64 0, .int .i64 0, .bool false] 42)) (w.heap.size + 2) zeroO := by
    have h := OpAt.new W zeroO
    rw [hs] at h
    exact h
  exact ⟨h0, _, rfl, below_setRow (hb.alloc (by omega) _) (by omega) _, (hA.alloc _).rowOther (by omega) _, (hR.alloc _).rowOther (by omega) _, h0.row _⟩

/-- A whole operation is stored. -/
theorem store_op {ops : Array Oper} {Q : Exit → Act → World → Prop} {rest : List Oper} {a : Act} {w : World} {t u : Tmp} {ty : TypeId} {pos : String} {after : Array Edge} {b : Nat} {o x : OpV}
    (hA : OpAt w b o) (hx : a.tmps.getD t undef = .pointer (some ⟨b, 0, none⟩)) (hy : a.tmps.getD u undef = .agg (OpC x))
    (h : wpList Tryz.prog ops Q rest a (w.setRow b (OpC x))) : wpList Tryz.prog ops Q ({ dst := none, op := .store 42 (.tmp t) (.tmp u), type := ty, pos := pos, after := after, guard := none } :: rest) a w :=
  wpList_store_row rfl 42 (.tmp t) (.tmp u) rfl b (OpC x) hx hy 42 (OpC o) hA infoO rfl (OpC_one _) h

theorem run_build_base (o : OpV) (W : World) : (Instr.build 42 #[(0, .agg #[.int .i64 o.n, .int .i64 o.r]), (1, .agg (V o.deps)), (2, .int .i64 o.kind)]).run Tryz.prog W = .ok (.agg (OpC (baseO o))) W := run_build W _ _ _ (by kernel_rfl)

theorem build_base_op (o : OpV) {ops : Array Oper} {Q : Exit → Act → World → Prop} {rest : List Oper} {a : Act} {w : World} {d : Option Tmp} {t u v : Tmp} {ty : TypeId} {pos : String} {after : Array Edge}
    (h1 : a.tmps.getD t undef = .agg #[.int .i64 o.n, .int .i64 o.r]) (h2 : a.tmps.getD u undef = .agg (V o.deps)) (h3 : a.tmps.getD v undef = .int .i64 o.kind)
    (h : wpList Tryz.prog ops Q rest (a.put d (.agg (OpC (baseO o)))) w) : wpList Tryz.prog ops Q ({ dst := d, op := .build 42 #[(0, .tmp t), (1, .tmp u), (2, .tmp v)], type := ty, pos := pos, after := after, guard := none } :: rest) a w :=
  wpList_plain rfl fun K hK => by
    have e1 : a.eval (.tmp t) = .agg #[.int .i64 o.n, .int .i64 o.r] := h1
    have e2 : a.eval (.tmp u) = .agg (V o.deps) := h2
    have e3 : a.eval (.tmp v) = .int .i64 o.kind := h3
    unfold Oper.wp execOp
    simp only [List.map_toArray, List.map_cons, List.map_nil, e1, e2, e3, Sem.run_bind, run_build_base, Result.andThen_ok]
    exact hK _ _ h

theorem OpAt.set {w : World} {b : Nat} {o x : OpV} (h : OpAt w b o) {k : Nat} {v : Value} (hx : (OpC o).setIfInBounds k v = OpC x) : OpAt (w.setCell ⟨b, k, none⟩ v) b x := by
  unfold OpAt
  rw [heap_setCell_same w b k _ _ _ h, hx]
theorem OpAt.setOther {w : World} {b : Nat} {o : OpV} (h : OpAt w b o) {a : Addr} (ha : b ≠ a.block) (v : Value) : OpAt (w.setCell a v) b o := (heap_setCell_other w a b v ha).trans h
theorem OpAt.drew {w : World} {b : Nat} {o : OpV} (h : OpAt w b o) : OpAt w.drew b o := h
theorem results_op {fn : Func} {p : Tmp} (h : fn.results = #[.cell p 42]) (tmps : Array Value) (w : World) (b : Nat) (o : OpV) (hp : tmps.getD p undef = .pointer (some ⟨b, 0, none⟩)) (hv : OpAt w b o) :
    (results fn tmps).run Tryz.prog w = .ok (.agg (OpC o)) w :=
  results_cell_row h tmps w b _ _ _ _ hp hv Tryz.underlying42 rfl infoO

theorem ownO_1 {o : OpV} (h : o.kind = 1) : ownO o = { { { { baseO o with rn := o.rn } with rr := o.rr } with side := o.side } with ch := o.ch } := by
  simp [ownO, baseO, zeroO, h]
theorem ownO_3 {o : OpV} (h : o.kind = 3) : ownO o = { { { { { baseO o with un := o.un } with ur := o.ur } with key := o.key } with rn := o.rn } with rr := o.rr } := by
  simp [ownO, baseO, zeroO, h]
theorem ownO_2 {o : OpV} (h : o.kind = 2) : ownO o = { { baseO o with rn := o.rn } with rr := o.rr } := by
  simp [ownO, baseO, zeroO, h]
theorem ownO_4 {o : OpV} (h : o.kind = 4) : ownO o = { { { { baseO o with rn := o.rn } with rr := o.rr } with name := o.name } with value := o.value } := by
  simp [ownO, baseO, zeroO, h]
theorem ownO_5 {o : OpV} (h : o.kind = 5) : ownO o = { { { { { { { { baseO o with fn := o.fn } with fr := o.fr } with fa := o.fa } with tn := o.tn } with tr := o.tr } with ta := o.ta } with name := o.name } with value := o.value } := by
  simp [ownO, baseO, zeroO, h]
theorem ownO_0 {o : OpV} (h : o.kind ≠ 1 ∧ o.kind ≠ 3 ∧ o.kind ≠ 2 ∧ o.kind ≠ 4 ∧ o.kind ≠ 5) : ownO o = baseO o := by
  have h' : o.kind < 1 ∨ 5 < o.kind := by omega
  simp [ownO, baseO, zeroO, h, h']

/-- An operation is built of its parts. -/
theorem build_op {x : OpV} {ops : Array Oper} {Q : Exit → Act → World → Prop} {rest : List Oper} {a : Act} {w : World} {d : Option Tmp} {parts : Array (Nat × Operand)} {ty : TypeId} {pos : String} {after : Array Edge}
    (h1 : Tryz.prog.built 42 (parts.map fun (i, x) => (i, a.eval x)).toList = some (OpC x))
    (h : wpList Tryz.prog ops Q rest (a.put d (.agg (OpC x))) w) : wpList Tryz.prog ops Q ({ dst := d, op := .build 42 parts, type := ty, pos := pos, after := after, guard := none } :: rest) a w :=
  wpList_plain rfl fun K hK => by
    unfold Oper.wp execOp
    simp only [Sem.run_bind, run_build w _ _ _ h1, Result.andThen_ok]
    exact hK _ _ h

end Go.Proofs.YthpgfnhecfgiaaaGreatDoor

namespace Go.Proofs.YthpgfnhecfgiaaaGreatDoor
open Go.RowKit Go.Sort
set_option maxRecDepth 20000

def opL (o : OpV) : List Value := (OpC o).toList
theorem elemO : ElemK Tryz.prog 24 42 (.agg #[.int .i64 0, .int .i64 0, .int .i64 0, .int .i64 0, .int .i64 0, .int .i64 0, .int .i64 0, .int .i64 0, .int .i64 0, .int .i64 0, .int .i64 0, .int .i64 0, .int .i64 0, .int .i64 0, .int .i64 0, .int .i64 0, .int .i64 0, .string { data := #[] }, .string { data := #[] }, .string { data := #[] }, .int .i64 0, .int .i64 0, .bool false, .int .i64 0, .int .i64 0, .bool false]) 26 232 := ⟨Tryz.underlying24, by kernel_rfl, rfl, by omega, by omega, fun W => by kernel_rfl⟩
/-- A slice of operations. -/
def OpsAt (w : World) (v : Value) (l : List OpV) : Prop := RowsAt 26 w v (l.map opL)
theorem ops_at {l : List OpV} {i : Nat} {o : OpV} (h : l[i]? = some o) : (l.map opL)[i]? = some (opL o) := by rw [List.getElem?_map, h]; rfl
theorem OpsAt.below {w w' : World} {v : Value} {l : List OpV} (h : OpsAt w v l) (hb : Below w.heap.size w w') : OpsAt w' v l := RowsAt.below h hb
theorem OpsAt.len {w : World} {v : Value} {l : List OpV} (h : OpsAt w v l) (ty : TypeId) (W : World) : (Builtin.len_ #[24] ty #[v]).run Tryz.prog W = .ok (.int .i64 (l.length : Nat)) W := by
  have := RowsAt.len h elemO.ht (ty := ty) W
  rwa [List.length_map] at this
theorem OpsAt.le {w : World} {v : Value} {l : List OpV} (h : OpsAt w v l) : (l.length : Int) ≤ 9223372036854775807 := by
  have := RowsAt.le h
  rwa [List.length_map] at this
theorem opL_one (o : OpV) : ∀ u ∈ opL o, u.oneCell' = true := by
  intro u hu
  have := OpC_one o
  rw [Array.all_eq_true_iff_forall_mem] at this
  exact this u (Array.mem_toList_iff.1 hu)

/-- An element's address; the element. -/
theorem OpsAt.index {w : World} {v : Value} {l : List OpV} (h : OpsAt w v l) {i : Nat} {o : OpV} (hi : l[i]? = some o) :
    ∃ b off, (∀ W, (Instr.indexAt 24 v (.int .i64 (i : Int))).run Tryz.prog W = .ok (.pointer (some ⟨b, off, none⟩)) W) ∧ w.rangeAt b off (opL o) ∧ b < w.heap.size := by
  obtain ⟨b, off, h1, h2, h3, _⟩ := RowsAt.index h elemO.ht elemO.hs (ops_at hi)
  exact ⟨b, off, h1, h2, h3⟩

theorem range_after {w w' : World} {b off : Nat} {cs : List Value} (h : w.rangeAt b off cs) (hb : Below w.heap.size w w') (hlt : b < w.heap.size) : w'.rangeAt b off cs := fun j u hu => by
  rw [hb.cell (p := ⟨b, off + j, none⟩) hlt]; exact h j u hu
theorem run_loadOpMid {w : World} {b off : Nat} {o : OpV} (h : w.rangeAt b off (opL o)) : (loadVar 42 ⟨b, off, none⟩).run Tryz.prog w = .ok (.agg (OpC o)) w := by
  have := run_loadVar_mid (P := Tryz.prog) w b off 42 (opL o) _ h Tryz.underlying42 rfl infoO
  rw [this]
  unfold opL
  rw [Array.toArray_toList]

/-- An element is read, whole. -/
theorem load_mid {ops : Array Oper} {Q : Exit → Act → World → Prop} {rest : List Oper} {a : Act} {w : World} {d : Option Tmp} {t : Tmp} {ty : TypeId} {pos : String} {after : Array Edge} {g : Option (Nat × Bool)} {b off : Nat} {o : OpV}
    (hA : w.rangeAt b off (opL o)) (hw : Region.wanted { dst := d, op := .load 42 (.tmp t), type := ty, pos := pos, after := after, guard := g } (yielded ops a.tmps) = true) (hx : a.tmps.getD t undef = .pointer (some ⟨b, off, none⟩))
    (h : wpList Tryz.prog ops Q rest (a.put d (.agg (OpC o))) w) : wpList Tryz.prog ops Q ({ dst := d, op := .load 42 (.tmp t), type := ty, pos := pos, after := after, guard := g } :: rest) a w :=
  BigFrame.wpList_want hw fun K hK => by
    unfold Oper.wp execOp
    have hx' : a.eval (.tmp t) = .pointer (some ⟨b, off, none⟩) := hx
    simp only [hx', Instr.loadAt, Instr.sureAddr, Sem.run_bind, Sem.run_pure, Result.andThen_ok, run_loadOpMid hA]
    exact hK _ _ h

/-- An operation copied into a block of its own. -/
theorem new_op (W : World) (o : OpV) : ∃ p W2, W.heap.size = p ∧ OpAt (W.alloc (.cells #[.int .i64 0, .int .i64 0, .int .i64 0, .int .i64 0, .int .i64 0, .int .i64 0, .int .i64 0, .int .i64 0, .int .i64 0, .int .i64 0, .int .i64 0, .int .i64 0, .int .i64 0, .int .i64 0, .int .i64 0, .int .i64 0, .int .i64 0, .string { data := #[] }, .string { data := #[] }, .string { data := #[] }, .int .i64 0, .int .i64 0, .bool false, .int .i64 0, .int .i64 0, .bool false] 42)) p zeroO ∧ (W.alloc (.cells #[.int .i64 0, .int .i64 0, .int .i64 0, .int .i64 0, .int .i64 0, .int .i64 0, .int .i64 0, .int .i64 0, .int .i64 0, .int .i64 0, .int .i64 0, .int .i64 0, .int .i64 0, .int .i64 0, .int .i64 0, .int .i64 0, .int .i64 0, .string { data := #[] }, .string { data := #[] }, .string { data := #[] }, .int .i64 0, .int .i64 0, .bool false, .int .i64 0, .int .i64 0, .bool false] 42)).setRow p (OpC o) = W2 ∧ Below W.heap.size W W2 ∧ OpAt W2 p o :=
  ⟨_, _, rfl, OpAt.new W zeroO, rfl, below_setRow (below_box1 _ _) (Nat.le_refl _) _, (OpAt.new W zeroO).row _⟩

theorem new_op_of {B : Nat} {w W : World} (_ : Below B w W) (o : OpV) : ∃ p W2, W.heap.size = p ∧ OpAt (W.alloc (.cells #[.int .i64 0, .int .i64 0, .int .i64 0, .int .i64 0, .int .i64 0, .int .i64 0, .int .i64 0, .int .i64 0, .int .i64 0, .int .i64 0, .int .i64 0, .int .i64 0, .int .i64 0, .int .i64 0, .int .i64 0, .int .i64 0, .int .i64 0, .string { data := #[] }, .string { data := #[] }, .string { data := #[] }, .int .i64 0, .int .i64 0, .bool false, .int .i64 0, .int .i64 0, .bool false] 42)) p zeroO ∧ (W.alloc (.cells #[.int .i64 0, .int .i64 0, .int .i64 0, .int .i64 0, .int .i64 0, .int .i64 0, .int .i64 0, .int .i64 0, .int .i64 0, .int .i64 0, .int .i64 0, .int .i64 0, .int .i64 0, .int .i64 0, .int .i64 0, .int .i64 0, .int .i64 0, .string { data := #[] }, .string { data := #[] }, .string { data := #[] }, .int .i64 0, .int .i64 0, .bool false, .int .i64 0, .int .i64 0, .bool false] 42)).setRow p (OpC o) = W2 ∧ Below W.heap.size W W2 ∧ OpAt W2 p o := new_op W o

set_option maxRecDepth 20000 in
open Go.ChangeShapes Go.WideShapes Go.ChangeAt Go.Joins in
/-- A slice of operations that is handed in. -/
theorem open_ops {H : Type} {enc : TypeId × Value → H} {W : World} {b0 : Nat} {v : Value} {d : DataW H} {p : List MemPlace} (hv : Value.okWide Tryz.prog W .any b0 24 v) (h : DataW.Trod enc Tryz.prog W 0 (fun _ => true) true 24 v d p) :
    ∃ l, OpsAt W v l ∧ ∀ o ∈ l, o.Fits ∧ o.Wf := by
  obtain ⟨A, n, c, rfl⟩ := okWide_slice Tryz.underlying24 hv
  obtain ⟨fuel, hf⟩ := h
  rcases Go.Deep.open_slice Tryz.underlying24 hf with ⟨hcs, _⟩ | ⟨a, len', cap', m, q, D, Pl, hcs, _, hl, hm, hmm, _, hi⟩
  · simp [Value.cells] at hcs
    obtain ⟨rfl, rfl, rfl⟩ := hcs
    exact ⟨[], ⟨none, 0, rfl, Nat.le_refl _, Nat.zero_le _, by simp, fun h => absurd h (by simp), fun _ => rfl⟩, by simp⟩
  · simp [Value.cells] at hcs
    obtain ⟨rfl, rfl, rfl⟩ := hcs
    simp only [if_true] at hmm
    subst hmm
    rw [cellsOfO] at hi
    have hall : ∀ i, i < n → ∃ o : OpV, W.cells? 0 (a.add (i * 26)) 26 = some (opL o) ∧ o.Fits ∧ o.Wf := fun i hin => by
      obtain ⟨cs', h1, h2⟩ := hi i (by omega)
      obtain ⟨o, rfl, ho⟩ := open_op_cells h2
      exact ⟨o, h1, ho⟩
    have hsome : Inhabited OpV := ⟨zeroO⟩
    obtain ⟨f, hf⟩ := Go.Deep.choose_lt hall
    refine ⟨(List.range n).map f, ⟨some a, _, by rw [List.length_map, List.length_map, List.length_range], by simpa using hl, hm, ?_, fun hpos => ?_, fun h => by cases h⟩, ?_⟩
    · intro x hx
      obtain ⟨o, _, rfl⟩ := List.mem_map.1 hx
      rfl
    · have hn : 0 < n := by simpa using hpos
      obtain ⟨h1, _⟩ := hf 0 hn
      obtain ⟨_, _, hc⟩ := World.cells?_some h1
      obtain ⟨b, off, spot⟩ := a
      have c0 := hc 0 (by show 0 < 26; omega)
      have hspot : spot = none := by simpa [Addr.add] using World.cell?_spot c0
      subst hspot
      have hblk : b < W.heap.size := by have := World.block_lt_of_cell? _ _ c0; simpa [addr_at] using this
      refine ⟨b, off, rfl, hblk, fun i x hx j u hu => ?_⟩
      have hin : i < n := by have := (List.getElem?_eq_some_iff.1 hx).1; simpa using this
      have hxe : x = opL (f i) := by
        rw [List.getElem?_map, List.getElem?_map, List.getElem?_range hin] at hx
        simpa using hx.symm
      subst hxe
      obtain ⟨h1, _⟩ := hf i hin
      obtain ⟨_, _, hc⟩ := World.cells?_some h1
      have hj : j < 26 := (List.getElem?_eq_some_iff.1 hu).1
      have := hc j hj
      rw [addr_at, addr_at] at this
      rw [this]
      exact hu
    · intro o ho
      obtain ⟨i, hin, rfl⟩ := List.mem_map.1 ho
      exact (hf i (by simpa using hin)).2
end Go.Proofs.YthpgfnhecfgiaaaGreatDoor

namespace Go.Proofs.YthpgfnhecfgiaaaGreatDoor
open Go.RowKit Go.Sort
set_option maxRecDepth 20000

set_option maxHeartbeats 4000000 in
theorem onlyOwn_1 (o : OpV) (w : World) (hk : o.kind = 1) (hq : Hid ((o.kind == 1) = true)) : Calls Tryz.prog 74 #[.agg (OpC o)] w (Ret (.agg (OpC (ownO o))) w) := by
  obtain ⟨W, hW, hb, hs, hA, hR⟩ := own_boxes w o
  have c0 := hA.c0
  have c1 := hA.c1
  have c10 := hA.c10
  have hown := Lib.hid (ownO_1 hk)
  obtain q1 := hq.out
  clear hq hk
  obtain ⟨h0, W2, hW2, hb2, hA2, hR2, hB2⟩ := own_third w W o hb hs hA hR
  have d10 := hA2.c10
  have d11 := hA2.c11
  have d12 := hA2.c12
  have d13 := hA2.c13
  have d14 := hA2.c14
  have t11 := hB2.c11
  have t12 := hB2.c12
  have t13 := hB2.c13
  have t14 := hB2.c14
  have fz := fun k => hB2.frozen k
  have e0 := hB2.set (x := { baseO o with rn := o.rn }) (k := 11) (v := .int .i64 o.rn) rfl
  have e1 := e0.set (x := { { baseO o with rn := o.rn } with rr := o.rr }) (k := 12) (v := .int .i64 o.rr) rfl
  have e2 := e1.set (x := { { { baseO o with rn := o.rn } with rr := o.rr } with side := o.side }) (k := 13) (v := .int .i64 o.side) rfl
  have e3 := e2.set (x := { { { { baseO o with rn := o.rn } with rr := o.rr } with side := o.side } with ch := o.ch }) (k := 14) (v := .int .i64 o.ch) rfl
  have e4 := e3.drew
  have eR := ((((hR2.setOther (a := ⟨w.heap.size + 2, 11, none⟩) (by simp) (.int .i64 o.rn)).setOther (a := ⟨w.heap.size + 2, 12, none⟩) (by simp) (.int .i64 o.rr)).setOther (a := ⟨w.heap.size + 2, 13, none⟩) (by simp) (.int .i64 o.side)).setOther (a := ⟨w.heap.size + 2, 14, none⟩) (by simp) (.int .i64 o.ch)).drew
  have eB := (below_drew1 ((((hb2.setCell (p := ⟨w.heap.size + 2, 11, none⟩) (by simp) (.int .i64 o.rn)).setCell (p := ⟨w.heap.size + 2, 12, none⟩) (by simp) (.int .i64 o.rr)).setCell (p := ⟨w.heap.size + 2, 13, none⟩) (by simp) (.int .i64 o.side)).setCell (p := ⟨w.heap.size + 2, 14, none⟩) (by simp) (.int .i64 o.ch)))
  rw [← hown.out] at e4
  go_enter Tryz.func74, Tryz.ntmps74
  go_wp2_with (first
    | ((with_reducible refine load_deps hA ?_ ?_ ?_); rfl; rfl)
    | ((with_reducible refine store_op (x := baseO o) h0 ?_ ?_ ?_); rfl; rfl; rw [hW2])
    | ((with_reducible refine build_base_op o ?_ ?_ ?_ ?_); rfl; rfl; rfl)
    )
  go_region
  clear d10 d11 d12 d13 d14 t11 t12 t13 t14 fz e0 e1 e2 e3
  obtain ⟨W3, hW3⟩ : ∃ W3, ((((W2.setCell ⟨w.heap.size + 2, 11, none⟩ (.int .i64 o.rn)).setCell ⟨w.heap.size + 2, 12, none⟩ (.int .i64 o.rr)).setCell ⟨w.heap.size + 2, 13, none⟩ (.int .i64 o.side)).setCell ⟨w.heap.size + 2, 14, none⟩ (.int .i64 o.ch)).drew = W3 := ⟨_, rfl⟩
  rw [hW3] at e4 eR eB ⊢
  go_wp2_with (first
    | ((with_reducible refine load_op e4 ?_ ?_ ?_); rfl; rfl)
    | ((with_reducible refine store_op (x := ownO o) eR ?_ ?_ ?_); rfl; rfl)
    )
  refine bodyPost_ret (results_op rfl _ _ _ _ rfl (eR.row _)) rfl ⟨rfl, below_setRow eB (by omega) _⟩

set_option maxHeartbeats 4000000 in
theorem onlyOwn_3 (o : OpV) (w : World) (hk : o.kind = 3) (hq : Hid ((o.kind == 1) = false ∧ (o.kind == 3) = true)) : Calls Tryz.prog 74 #[.agg (OpC o)] w (Ret (.agg (OpC (ownO o))) w) := by
  obtain ⟨W, hW, hb, hs, hA, hR⟩ := own_boxes w o
  have c0 := hA.c0
  have c1 := hA.c1
  have c10 := hA.c10
  have hown := Lib.hid (ownO_3 hk)
  obtain ⟨q1, q3⟩ := hq.out
  clear hq hk
  obtain ⟨h0, W2, hW2, hb2, hA2, hR2, hB2⟩ := own_third w W o hb hs hA hR
  have d10 := hA2.c10
  have d15 := hA2.c15
  have d16 := hA2.c16
  have d17 := hA2.c17
  have t15 := hB2.c15
  have t16 := hB2.c16
  have t17 := hB2.c17
  have fz := fun k => hB2.frozen k
  have e0 := hB2.set (x := { baseO o with un := o.un }) (k := 15) (v := .int .i64 o.un) rfl
  have e1 := e0.set (x := { { baseO o with un := o.un } with ur := o.ur }) (k := 16) (v := .int .i64 o.ur) rfl
  have e2 := e1.set (x := { { { baseO o with un := o.un } with ur := o.ur } with key := o.key }) (k := 17) (v := .string o.key) rfl
  have e3 := e2.drew
  have a3 := (((hA2.setOther (a := ⟨w.heap.size + 2, 15, none⟩) (by simp) (.int .i64 o.un)).setOther (a := ⟨w.heap.size + 2, 16, none⟩) (by simp) (.int .i64 o.ur)).setOther (a := ⟨w.heap.size + 2, 17, none⟩) (by simp) (.string o.key)).drew
  have r3 := (((hR2.setOther (a := ⟨w.heap.size + 2, 15, none⟩) (by simp) (.int .i64 o.un)).setOther (a := ⟨w.heap.size + 2, 16, none⟩) (by simp) (.int .i64 o.ur)).setOther (a := ⟨w.heap.size + 2, 17, none⟩) (by simp) (.string o.key)).drew
  have b3 := (below_drew1 (((hb2.setCell (p := ⟨w.heap.size + 2, 15, none⟩) (by simp) (.int .i64 o.un)).setCell (p := ⟨w.heap.size + 2, 16, none⟩) (by simp) (.int .i64 o.ur)).setCell (p := ⟨w.heap.size + 2, 17, none⟩) (by simp) (.string o.key)))
  go_enter Tryz.func74, Tryz.ntmps74
  go_wp2_with (first
    | ((with_reducible refine load_deps hA ?_ ?_ ?_); rfl; rfl)
    | ((with_reducible refine store_op (x := baseO o) h0 ?_ ?_ ?_); rfl; rfl; rw [hW2])
    | ((with_reducible refine build_base_op o ?_ ?_ ?_ ?_); rfl; rfl; rfl)
    )
  go_region
  clear d10 d15 d16 d17 t15 t16 t17 fz e0 e1 e2
  obtain ⟨W3, hW3⟩ : ∃ W3, (((W2.setCell ⟨w.heap.size + 2, 15, none⟩ (.int .i64 o.un)).setCell ⟨w.heap.size + 2, 16, none⟩ (.int .i64 o.ur)).setCell ⟨w.heap.size + 2, 17, none⟩ (.string o.key)).drew = W3 := ⟨_, rfl⟩
  rw [hW3] at e3 a3 r3 b3 ⊢
  have d11 := a3.c11
  have d12 := a3.c12
  have t11 := e3.c11
  have t12 := e3.c12
  have fz := fun k => e3.frozen k
  have e4 := e3.set (x := { { { { baseO o with un := o.un } with ur := o.ur } with key := o.key } with rn := o.rn }) (k := 11) (v := .int .i64 o.rn) rfl
  have e5 := e4.set (x := { { { { { baseO o with un := o.un } with ur := o.ur } with key := o.key } with rn := o.rn } with rr := o.rr }) (k := 12) (v := .int .i64 o.rr) rfl
  have eR := (r3.setOther (a := ⟨w.heap.size + 2, 11, none⟩) (by simp) (.int .i64 o.rn)).setOther (a := ⟨w.heap.size + 2, 12, none⟩) (by simp) (.int .i64 o.rr)
  have eB := (b3.setCell (p := ⟨w.heap.size + 2, 11, none⟩) (by simp) (.int .i64 o.rn)).setCell (p := ⟨w.heap.size + 2, 12, none⟩) (by simp) (.int .i64 o.rr)
  rw [← hown.out] at e5
  clear hW3
  go_wp2_with (first
    | ((with_reducible refine load_op e5 ?_ ?_ ?_); rfl; rfl)
    | ((with_reducible refine store_op (x := ownO o) eR ?_ ?_ ?_); rfl; rfl)
    )
  refine bodyPost_ret (results_op rfl _ _ _ _ rfl (eR.row _)) rfl ⟨rfl, below_setRow eB (by omega) _⟩

set_option maxHeartbeats 4000000 in
theorem onlyOwn_2 (o : OpV) (w : World) (hk : o.kind = 2) (hq : Hid ((o.kind == 1) = false ∧ (o.kind == 3) = false ∧ (o.kind == 2) = true)) : Calls Tryz.prog 74 #[.agg (OpC o)] w (Ret (.agg (OpC (ownO o))) w) := by
  obtain ⟨W, hW, hb, hs, hA, hR⟩ := own_boxes w o
  have c0 := hA.c0
  have c1 := hA.c1
  have c10 := hA.c10
  have hown := Lib.hid (ownO_2 hk)
  obtain ⟨q1, q3, q2⟩ := hq.out
  clear hq hk
  obtain ⟨h0, W2, hW2, hb2, hA2, hR2, hB2⟩ := own_third w W o hb hs hA hR
  have d10 := hA2.c10
  have d11 := hA2.c11
  have d12 := hA2.c12
  have t11 := hB2.c11
  have t12 := hB2.c12
  have fz := fun k => hB2.frozen k
  have e0 := hB2.set (x := { baseO o with rn := o.rn }) (k := 11) (v := .int .i64 o.rn) rfl
  have e1 := e0.set (x := { { baseO o with rn := o.rn } with rr := o.rr }) (k := 12) (v := .int .i64 o.rr) rfl
  have eR := ((hR2.setOther (a := ⟨w.heap.size + 2, 11, none⟩) (by simp) (.int .i64 o.rn)).setOther (a := ⟨w.heap.size + 2, 12, none⟩) (by simp) (.int .i64 o.rr))
  have eB := ((hb2.setCell (p := ⟨w.heap.size + 2, 11, none⟩) (by simp) (.int .i64 o.rn)).setCell (p := ⟨w.heap.size + 2, 12, none⟩) (by simp) (.int .i64 o.rr))
  rw [← hown.out] at e1
  go_enter Tryz.func74, Tryz.ntmps74
  go_wp2_with (first
    | ((with_reducible refine load_deps hA ?_ ?_ ?_); rfl; rfl)
    | ((with_reducible refine store_op (x := baseO o) h0 ?_ ?_ ?_); rfl; rfl; rw [hW2])
    | ((with_reducible refine build_base_op o ?_ ?_ ?_ ?_); rfl; rfl; rfl)
    | ((with_reducible refine load_op e1 ?_ ?_ ?_); rfl; rfl)
    | ((with_reducible refine store_op (x := ownO o) eR ?_ ?_ ?_); rfl; rfl)
    )
  refine bodyPost_ret (results_op rfl _ _ _ _ rfl (eR.row _)) rfl ⟨rfl, below_setRow eB (by omega) _⟩

set_option maxHeartbeats 4000000 in
theorem onlyOwn_4 (o : OpV) (w : World) (hk : o.kind = 4) (hq : Hid ((o.kind == 1) = false ∧ (o.kind == 3) = false ∧ (o.kind == 2) = false ∧ (o.kind == 4) = true)) : Calls Tryz.prog 74 #[.agg (OpC o)] w (Ret (.agg (OpC (ownO o))) w) := by
  obtain ⟨W, hW, hb, hs, hA, hR⟩ := own_boxes w o
  have c0 := hA.c0
  have c1 := hA.c1
  have c10 := hA.c10
  have hown := Lib.hid (ownO_4 hk)
  obtain ⟨q1, q3, q2, q4⟩ := hq.out
  clear hq hk
  obtain ⟨h0, W2, hW2, hb2, hA2, hR2, hB2⟩ := own_third w W o hb hs hA hR
  have d10 := hA2.c10
  have d11 := hA2.c11
  have d12 := hA2.c12
  have d18 := hA2.c18
  have d19 := hA2.c19
  have t11 := hB2.c11
  have t12 := hB2.c12
  have t18 := hB2.c18
  have t19 := hB2.c19
  have fz := fun k => hB2.frozen k
  have e0 := hB2.set (x := { baseO o with rn := o.rn }) (k := 11) (v := .int .i64 o.rn) rfl
  have e1 := e0.set (x := { { baseO o with rn := o.rn } with rr := o.rr }) (k := 12) (v := .int .i64 o.rr) rfl
  have e2 := e1.set (x := { { { baseO o with rn := o.rn } with rr := o.rr } with name := o.name }) (k := 18) (v := .string o.name) rfl
  have e3 := e2.set (x := { { { { baseO o with rn := o.rn } with rr := o.rr } with name := o.name } with value := o.value }) (k := 19) (v := .string o.value) rfl
  have e4 := e3.drew
  have eR := ((((hR2.setOther (a := ⟨w.heap.size + 2, 11, none⟩) (by simp) (.int .i64 o.rn)).setOther (a := ⟨w.heap.size + 2, 12, none⟩) (by simp) (.int .i64 o.rr)).setOther (a := ⟨w.heap.size + 2, 18, none⟩) (by simp) (.string o.name)).setOther (a := ⟨w.heap.size + 2, 19, none⟩) (by simp) (.string o.value)).drew
  have eB := (below_drew1 ((((hb2.setCell (p := ⟨w.heap.size + 2, 11, none⟩) (by simp) (.int .i64 o.rn)).setCell (p := ⟨w.heap.size + 2, 12, none⟩) (by simp) (.int .i64 o.rr)).setCell (p := ⟨w.heap.size + 2, 18, none⟩) (by simp) (.string o.name)).setCell (p := ⟨w.heap.size + 2, 19, none⟩) (by simp) (.string o.value)))
  rw [← hown.out] at e4
  go_enter Tryz.func74, Tryz.ntmps74
  go_wp2_with (first
    | ((with_reducible refine load_deps hA ?_ ?_ ?_); rfl; rfl)
    | ((with_reducible refine store_op (x := baseO o) h0 ?_ ?_ ?_); rfl; rfl; rw [hW2])
    | ((with_reducible refine build_base_op o ?_ ?_ ?_ ?_); rfl; rfl; rfl)
    )
  go_region
  clear d10 d11 d12 d18 d19 t11 t12 t18 t19 fz e0 e1 e2 e3
  obtain ⟨W3, hW3⟩ : ∃ W3, ((((W2.setCell ⟨w.heap.size + 2, 11, none⟩ (.int .i64 o.rn)).setCell ⟨w.heap.size + 2, 12, none⟩ (.int .i64 o.rr)).setCell ⟨w.heap.size + 2, 18, none⟩ (.string o.name)).setCell ⟨w.heap.size + 2, 19, none⟩ (.string o.value)).drew = W3 := ⟨_, rfl⟩
  rw [hW3] at e4 eR eB ⊢
  go_wp2_with (first
    | ((with_reducible refine load_op e4 ?_ ?_ ?_); rfl; rfl)
    | ((with_reducible refine store_op (x := ownO o) eR ?_ ?_ ?_); rfl; rfl)
    )
  refine bodyPost_ret (results_op rfl _ _ _ _ rfl (eR.row _)) rfl ⟨rfl, below_setRow eB (by omega) _⟩

set_option maxHeartbeats 4000000 in
theorem onlyOwn_5 (o : OpV) (w : World) (hk : o.kind = 5) (hq : Hid ((o.kind == 1) = false ∧ (o.kind == 3) = false ∧ (o.kind == 2) = false ∧ (o.kind == 4) = false ∧ (o.kind == 5) = true)) : Calls Tryz.prog 74 #[.agg (OpC o)] w (Ret (.agg (OpC (ownO o))) w) := by
  obtain ⟨W, hW, hb, hs, hA, hR⟩ := own_boxes w o
  have c0 := hA.c0
  have c1 := hA.c1
  have c10 := hA.c10
  have hown := Lib.hid (ownO_5 hk)
  obtain ⟨q1, q3, q2, q4, q5⟩ := hq.out
  clear hq hk
  obtain ⟨h0, W2, hW2, hb2, hA2, hR2, hB2⟩ := own_third w W o hb hs hA hR
  have d10 := hA2.c10
  have d18 := hA2.c18
  have d19 := hA2.c19
  have d20 := hA2.c20
  have d21 := hA2.c21
  have d22 := hA2.c22
  have d23 := hA2.c23
  have d24 := hA2.c24
  have d25 := hA2.c25
  have t18 := hB2.c18
  have t19 := hB2.c19
  have t20 := hB2.c20
  have t21 := hB2.c21
  have t22 := hB2.c22
  have t23 := hB2.c23
  have t24 := hB2.c24
  have t25 := hB2.c25
  have fz := fun k => hB2.frozen k
  have e0 := hB2.set (x := { baseO o with fn := o.fn }) (k := 20) (v := .int .i64 o.fn) rfl
  have e1 := e0.set (x := { { baseO o with fn := o.fn } with fr := o.fr }) (k := 21) (v := .int .i64 o.fr) rfl
  have e2 := e1.set (x := { { { baseO o with fn := o.fn } with fr := o.fr } with fa := o.fa }) (k := 22) (v := .bool o.fa) rfl
  have e3 := e2.set (x := { { { { baseO o with fn := o.fn } with fr := o.fr } with fa := o.fa } with tn := o.tn }) (k := 23) (v := .int .i64 o.tn) rfl
  have e4 := e3.set (x := { { { { { baseO o with fn := o.fn } with fr := o.fr } with fa := o.fa } with tn := o.tn } with tr := o.tr }) (k := 24) (v := .int .i64 o.tr) rfl
  have e5 := e4.set (x := { { { { { { baseO o with fn := o.fn } with fr := o.fr } with fa := o.fa } with tn := o.tn } with tr := o.tr } with ta := o.ta }) (k := 25) (v := .bool o.ta) rfl
  have e6 := e5.set (x := { { { { { { { baseO o with fn := o.fn } with fr := o.fr } with fa := o.fa } with tn := o.tn } with tr := o.tr } with ta := o.ta } with name := o.name }) (k := 18) (v := .string o.name) rfl
  have e7 := e6.set (x := { { { { { { { { baseO o with fn := o.fn } with fr := o.fr } with fa := o.fa } with tn := o.tn } with tr := o.tr } with ta := o.ta } with name := o.name } with value := o.value }) (k := 19) (v := .string o.value) rfl
  have e8 := e7.drew
  have eR := ((((((((hR2.setOther (a := ⟨w.heap.size + 2, 20, none⟩) (by simp) (.int .i64 o.fn)).setOther (a := ⟨w.heap.size + 2, 21, none⟩) (by simp) (.int .i64 o.fr)).setOther (a := ⟨w.heap.size + 2, 22, none⟩) (by simp) (.bool o.fa)).setOther (a := ⟨w.heap.size + 2, 23, none⟩) (by simp) (.int .i64 o.tn)).setOther (a := ⟨w.heap.size + 2, 24, none⟩) (by simp) (.int .i64 o.tr)).setOther (a := ⟨w.heap.size + 2, 25, none⟩) (by simp) (.bool o.ta)).setOther (a := ⟨w.heap.size + 2, 18, none⟩) (by simp) (.string o.name)).setOther (a := ⟨w.heap.size + 2, 19, none⟩) (by simp) (.string o.value)).drew
  have eB := (below_drew1 ((((((((hb2.setCell (p := ⟨w.heap.size + 2, 20, none⟩) (by simp) (.int .i64 o.fn)).setCell (p := ⟨w.heap.size + 2, 21, none⟩) (by simp) (.int .i64 o.fr)).setCell (p := ⟨w.heap.size + 2, 22, none⟩) (by simp) (.bool o.fa)).setCell (p := ⟨w.heap.size + 2, 23, none⟩) (by simp) (.int .i64 o.tn)).setCell (p := ⟨w.heap.size + 2, 24, none⟩) (by simp) (.int .i64 o.tr)).setCell (p := ⟨w.heap.size + 2, 25, none⟩) (by simp) (.bool o.ta)).setCell (p := ⟨w.heap.size + 2, 18, none⟩) (by simp) (.string o.name)).setCell (p := ⟨w.heap.size + 2, 19, none⟩) (by simp) (.string o.value)))
  rw [← hown.out] at e8
  go_enter Tryz.func74, Tryz.ntmps74
  go_wp2_with (first
    | ((with_reducible refine load_deps hA ?_ ?_ ?_); rfl; rfl)
    | ((with_reducible refine store_op (x := baseO o) h0 ?_ ?_ ?_); rfl; rfl; rw [hW2])
    | ((with_reducible refine build_base_op o ?_ ?_ ?_ ?_); rfl; rfl; rfl)
    )
  go_region
  clear d10 d18 d19 d20 d21 d22 d23 d24 d25 t18 t19 t20 t21 t22 t23 t24 t25 fz e0 e1 e2 e3 e4 e5 e6 e7
  obtain ⟨W3, hW3⟩ : ∃ W3, ((((((((W2.setCell ⟨w.heap.size + 2, 20, none⟩ (.int .i64 o.fn)).setCell ⟨w.heap.size + 2, 21, none⟩ (.int .i64 o.fr)).setCell ⟨w.heap.size + 2, 22, none⟩ (.bool o.fa)).setCell ⟨w.heap.size + 2, 23, none⟩ (.int .i64 o.tn)).setCell ⟨w.heap.size + 2, 24, none⟩ (.int .i64 o.tr)).setCell ⟨w.heap.size + 2, 25, none⟩ (.bool o.ta)).setCell ⟨w.heap.size + 2, 18, none⟩ (.string o.name)).setCell ⟨w.heap.size + 2, 19, none⟩ (.string o.value)).drew = W3 := ⟨_, rfl⟩
  rw [hW3] at e8 eR eB ⊢
  go_wp2_with (first
    | ((with_reducible refine load_op e8 ?_ ?_ ?_); rfl; rfl)
    | ((with_reducible refine store_op (x := ownO o) eR ?_ ?_ ?_); rfl; rfl)
    )
  refine bodyPost_ret (results_op rfl _ _ _ _ rfl (eR.row _)) rfl ⟨rfl, below_setRow eB (by omega) _⟩

set_option maxHeartbeats 4000000 in
theorem onlyOwn_0 (o : OpV) (w : World) (hk : o.kind ≠ 1 ∧ o.kind ≠ 3 ∧ o.kind ≠ 2 ∧ o.kind ≠ 4 ∧ o.kind ≠ 5) (hq : Hid ((o.kind == 1) = false ∧ (o.kind == 3) = false ∧ (o.kind == 2) = false ∧ (o.kind == 4) = false ∧ (o.kind == 5) = false)) : Calls Tryz.prog 74 #[.agg (OpC o)] w (Ret (.agg (OpC (ownO o))) w) := by
  obtain ⟨W, hW, hb, hs, hA, hR⟩ := own_boxes w o
  have c0 := hA.c0
  have c1 := hA.c1
  have c10 := hA.c10
  have hown := Lib.hid (ownO_0 hk)
  obtain ⟨q1, q3, q2, q4, q5⟩ := hq.out
  clear hq hk
  obtain ⟨h0, W2, hW2, hb2, hA2, hR2, hB2⟩ := own_third w W o hb hs hA hR
  have d10 := hA2.c10
  have fz := fun k => hB2.frozen k
  have eR := hR2
  have eB := hb2
  rw [← hown.out] at hB2
  go_enter Tryz.func74, Tryz.ntmps74
  go_wp2_with (first
    | ((with_reducible refine load_deps hA ?_ ?_ ?_); rfl; rfl)
    | ((with_reducible refine store_op (x := baseO o) h0 ?_ ?_ ?_); rfl; rfl; rw [hW2])
    | ((with_reducible refine build_base_op o ?_ ?_ ?_ ?_); rfl; rfl; rfl)
    | ((with_reducible refine load_op hB2 ?_ ?_ ?_); rfl; rfl)
    | ((with_reducible refine store_op (x := ownO o) eR ?_ ?_ ?_); rfl; rfl)
    )
  refine bodyPost_ret (results_op rfl _ _ _ _ rfl (eR.row _)) rfl ⟨rfl, below_setRow eB (by omega) _⟩

theorem onlyOwn_any (o : OpV) (w : World) : Calls Tryz.prog 74 #[.agg (OpC o)] w (Ret (.agg (OpC (ownO o))) w) := by
  rcases kind_cases o.kind with ⟨hk, hq⟩ | ⟨hk, hq⟩ | ⟨hk, hq⟩ | ⟨hk, hq⟩ | ⟨hk, hq⟩ | ⟨hk, hq⟩
  · exact onlyOwn_1 o w hk hq
  · exact onlyOwn_3 o w hk hq
  · exact onlyOwn_2 o w hk hq
  · exact onlyOwn_4 o w hk hq
  · exact onlyOwn_5 o w hk hq
  · exact onlyOwn_0 o w hk hq
end Go.Proofs.YthpgfnhecfgiaaaGreatDoor

namespace Go.Proofs.YthpgfnhecfgiaaaGreatDoor
open Go.RowKit Go.Sort
set_option maxRecDepth 20000

/-- Whether an operation may be, as the program asks it. -/
def opB (o : OpV) : Bool := rightB o.n o.r && (depsB o && (fieldsB o && (eqOp (ownO o) o && namedB o)))

theorem op_ways (o : OpV) : (rightB o.n o.r = false ∧ Hid (opB o = false)) ∨ (rightB o.n o.r = true ∧ depsB o = false ∧ Hid (opB o = false)) ∨ (rightB o.n o.r = true ∧ depsB o = true ∧ fieldsB o = false ∧ Hid (opB o = false)) ∨ (rightB o.n o.r = true ∧ depsB o = true ∧ fieldsB o = true ∧ eqOp (ownO o) o = false ∧ Hid (opB o = false)) ∨ (rightB o.n o.r = true ∧ depsB o = true ∧ fieldsB o = true ∧ eqOp (ownO o) o = true ∧ Hid (opB o = namedB o)) := by
  unfold opB
  cases rightB o.n o.r
  · exact .inl ⟨rfl, rfl⟩
  refine .inr ?_
  cases depsB o
  · exact .inl ⟨rfl, rfl, rfl⟩
  refine .inr ?_
  cases fieldsB o
  · exact .inl ⟨rfl, rfl, rfl, rfl⟩
  refine .inr ?_
  cases eqOp (ownO o) o
  · exact .inl ⟨rfl, rfl, rfl, rfl, rfl⟩
  · exact .inr ⟨rfl, rfl, rfl, rfl, rfl⟩

set_option maxHeartbeats 4000000 in
theorem opRight_any (o : OpV) (ho : o.Fits) (w : World) : Calls Tryz.prog 42 #[.agg (OpC o)] w (Ret (.bool (opB o)) w) := by
  obtain ⟨W, hW, hb, hA⟩ := op_box w o
  have k0 := cell_regrown hA.c0
  have k1 := cell_regrown hA.c1
  have heq := fun (w : World) => run_eqOp (ownO o) o w
  have hA := Lib.hid hA
  rcases op_ways o with ⟨q1, H⟩ | ⟨q1, q2, H⟩ | ⟨q1, q2, q3, H⟩ | ⟨q1, q2, q3, q4, H⟩ | ⟨q1, q2, q3, q4, H⟩
  all_goals
    have R1 := fun W => right_any o.n o.r W
    have R2 := fun W => depsRight_any o W
    have R3 := fun W => fieldsRight_any o ho W
    simp only [q1] at R1
    try simp only [q2] at R2
    try simp only [q3] at R3
    try simp only [q4] at heq
    have R1 := Lib.hid R1
    have R2 := Lib.hid R2
    have R3 := Lib.hid R3
    go_enter Tryz.func42, Tryz.ntmps42
    go_wp2_with fail
    refine wp_region_quiet_below (by kernel_rfl) (by kernel_rfl) ?_
    repeat (first | (go_big_quiet_want; refine quiet_load_op _ rfl rfl hA.out ?_; simp only [Act.put, List.setIfInBounds_toArray, List.set_cons_succ, List.set_cons_zero]; go_big_quiet_on) | go_big_quiet_step (first
      | (go_at_call 71; exact Calls.ret_regrown (R1.out _))
      | (go_at_call 72; exact Calls.ret_regrown (R2.out _))
      | (go_at_call 73; exact Calls.ret_regrown (R3.out _))
      | (go_at_call 74; exact Calls.ret_regrown (onlyOwn_any _ _))
      | (go_at_call 75; exact Calls.ret_regrown (leansOnNamed_any _ _))))
    refine wpQuiet_nil ?_
    intro _ hw'
    obtain ⟨⟨dq, osq⟩, hw''⟩ := hw'
    subst hw''
    go_wp2
    go_ret
    exact ⟨ret_bool H.out.symm, hb.trans ((below_regrown W dq osq).mono hb.size)⟩
end Go.Proofs.YthpgfnhecfgiaaaGreatDoor

namespace Go.Proofs.YthpgfnhecfgiaaaGreatDoor
open Go.RowKit Go.Sort
set_option maxRecDepth 20000

def namesB (o : OpV) (n r : Int) (none : Bool) : Bool := none && zeroS n r || rightB n r && hasB o.deps n r

theorem ops_boxes (w : World) (o : OpV) (n r : Int) : ∃ W, (w.alloc (.cells (OpC o) 42)).alloc (.cells #[.int .i64 n, .int .i64 r] 34) = W ∧ Below w.heap.size w W ∧ W.heap.size = w.heap.size + 2 ∧ OpAt W w.heap.size o ∧ W.cell? ⟨w.heap.size + 1, 0, none⟩ = some (.int .i64 n) ∧ W.cell? ⟨w.heap.size + 1, 1, none⟩ = some (.int .i64 r) :=
  ⟨_, rfl, below_alloc2 _ _ _, by simp, (OpAt.new w o).alloc _, by go_simp, by go_simp⟩

set_option maxHeartbeats 1600000 in
theorem names_any (o : OpV) (n r : Int) (nb : Bool) (w : World) : Calls Tryz.prog 63 #[.agg (OpC o), .agg #[.int .i64 n, .int .i64 r], .bool nb] w (Ret (.bool (namesB o n r nb)) w) := by
  obtain ⟨W, hW, hb, hs, hA, c0, c1⟩ := ops_boxes w o n r
  have H : (nb = true ∧ ((zeroS n r = true ∧ Hid (true = namesB o n r nb)) ∨ (zeroS n r = false ∧ ((rightB n r = false ∧ Hid (false = namesB o n r nb)) ∨ (rightB n r = true ∧ Hid (hasB o.deps n r = namesB o n r nb)))))) ∨ (nb = false ∧ ((rightB n r = false ∧ Hid (false = namesB o n r nb)) ∨ (rightB n r = true ∧ Hid (hasB o.deps n r = namesB o n r nb)))) := by
    unfold namesB
    cases nb <;> cases zeroS n r <;> cases rightB n r <;> simp [Lib.hid]
    all_goals exact Lib.hid rfl
  rcases H with ⟨rfl, ⟨z, H⟩ | ⟨z, ⟨q, H⟩ | ⟨q, H⟩⟩⟩ | ⟨rfl, ⟨q, H⟩ | ⟨q, H⟩⟩
  all_goals
    go_enter Tryz.func63, Tryz.ntmps63
    go_wp2_with (first
      | ((with_reducible refine load_deps hA ?_ ?_ ?_); rfl; rfl)
      | (go_at_call 61; refine (refRight_any _ _ _).mono ?_; rintro e w' ⟨rfl, hb'⟩; (try rw [q]); replace hA := hA.after hb'; replace c0 := cell_later hb' c0; replace c1 := cell_later hb' c1; replace hb := then_call hb hb')
      | (go_at_call 62; refine (refNone_any _ _ _).mono ?_; rintro e w'' ⟨rfl, hb''⟩; rw [z]; replace hA := hA.after hb''; replace c0 := cell_later hb'' c0; replace c1 := cell_later hb'' c1; replace hb := then_call hb hb'')
      | (go_at_call 86; refine (refHas_any _ _ _ _).mono ?_; rintro e w3 ⟨rfl, hb3⟩; replace hb := then_call hb hb3))
    go_ret
    exact ⟨ret_bool H.out, hb⟩

/-- What the document's own answer asks of each kind. -/
def refK (o : OpV) : Bool :=
  if o.kind = 1 then namesB o o.rn o.rr true && (o.side == 2 || o.side == 1 && !(zeroS o.rn o.rr)) && chB o.ch
  else if o.kind = 2 then namesB o o.rn o.rr false
  else if o.kind = 3 then namesB o o.rn o.rr false && namesB o o.un o.ur true && !(eqS o.un o.ur o.rn o.rr) && keyB o.key
  else if o.kind = 4 then namesB o o.rn o.rr false && nameB o.name && valueB o.value
  else if o.kind = 5 then namesB o o.fn o.fr false && namesB o o.tn o.tr false && nameB o.name && valueB o.value
  else false
def refB (o : OpV) : Bool := rightB o.n o.r && depsB o && refK o && eqOp (ownO o) o

theorem eqS_iff {a b a' b' : Int} : eqS a b a' b' = true ↔ a = a' ∧ b = b' := by unfold eqS; simp
theorem eqA_iff {a b a' b' : Int} {x x' : Bool} : eqA a b x a' b' x' = true ↔ a = a' ∧ b = b' ∧ x = x' := by unfold eqA; simp [eqS_iff, and_assoc]
theorem hasB_zero {o : OpV} (h : depsB o = true) : hasB o.deps 0 0 = true := by
  have := ((depsB_iff o).1 h 0 (by omega)).1
  unfold hasB
  rw [replB_in (by omega) (by omega)]
  simpa using this
theorem zeroS_iff {n r : Int} : zeroS n r = true ↔ n = 0 ∧ r = 0 := eqS_iff

/-- What eqOp says of the stamps. -/
theorem eqOp_stamps {a b : OpV} (h : eqOp a b = true) : (a.rn = b.rn ∧ a.rr = b.rr) ∧ (a.un = b.un ∧ a.ur = b.ur) ∧ (a.fn = b.fn ∧ a.fr = b.fr) ∧ (a.tn = b.tn ∧ a.tr = b.tr) := by
  unfold eqOp at h
  simp only [Bool.and_eq_true, eqS_iff, eqA_iff] at h
  exact ⟨h.2.2.2.1, h.2.2.2.2.2.2.1, ⟨h.2.2.2.2.2.2.2.2.2.2.1.1, h.2.2.2.2.2.2.2.2.2.2.1.2.1⟩, ⟨h.2.2.2.2.2.2.2.2.2.2.2.1, h.2.2.2.2.2.2.2.2.2.2.2.2.1⟩⟩

theorem refB_opB (o : OpV) : refB o = opB o := by
  unfold refB opB
  cases h1 : rightB o.n o.r
  · rfl
  cases h2 : depsB o
  · simp
  cases h3 : eqOp (ownO o) o
  · simp
  have hz := hasB_zero h2
  obtain ⟨⟨r1, r2⟩, ⟨u1, u2⟩, ⟨f1, f2⟩, t1, t2⟩ := eqOp_stamps h3
  simp only [Bool.true_and, Bool.and_true]
  unfold namedB
  rcases kind_cases o.kind with ⟨hk, -⟩ | ⟨hk, -⟩ | ⟨hk, -⟩ | ⟨hk, -⟩ | ⟨hk, -⟩ | ⟨hk, -⟩
  · have e := ownO_1 hk
    rw [e] at r1 r2 u1 u2 f1 f2 t1 t2
    simp only [baseO, zeroO] at u1 u2 f1 f2 t1 t2
    rw [fieldsB_1 hk, ← u1, ← u2, ← f1, ← f2, ← t1, ← t2, hz]
    unfold refK insB namesB
    rw [if_pos hk]
    cases hz' : zeroS o.rn o.rr
    · cases rightB o.rn o.rr <;> cases hasB o.deps o.rn o.rr <;> cases o.side == 1 <;> cases o.side == 2 <;> cases chB o.ch <;> rfl
    · obtain ⟨z1, z2⟩ := zeroS_iff.1 hz'
      rw [z1, z2, hz]
      cases rightB 0 0 <;> cases o.side == 1 <;> cases o.side == 2 <;> cases chB o.ch <;> rfl
  · have e := ownO_3 hk
    rw [e] at r1 r2 u1 u2 f1 f2 t1 t2
    simp only [baseO, zeroO] at f1 f2 t1 t2
    rw [fieldsB_3 hk, ← f1, ← f2, ← t1, ← t2, hz]
    unfold refK placeB namesB
    rw [if_neg (by omega), if_neg (by omega), if_pos hk]
    cases hz' : zeroS o.un o.ur
    · cases rightB o.rn o.rr <;> cases hasB o.deps o.rn o.rr <;> cases rightB o.un o.ur <;> cases hasB o.deps o.un o.ur <;> cases eqS o.un o.ur o.rn o.rr <;> cases keyB o.key <;> rfl
    · obtain ⟨z1, z2⟩ := zeroS_iff.1 hz'
      rw [z1, z2, hz]
      cases rightB o.rn o.rr <;> cases hasB o.deps o.rn o.rr <;> cases rightB 0 0 <;> cases eqS 0 0 o.rn o.rr <;> cases keyB o.key <;> rfl
  · have e := ownO_2 hk
    rw [e] at r1 r2 u1 u2 f1 f2 t1 t2
    simp only [baseO, zeroO] at u1 u2 f1 f2 t1 t2
    rw [fieldsB_2 hk, ← u1, ← u2, ← f1, ← f2, ← t1, ← t2, hz]
    unfold refK namesB
    rw [if_neg (by omega), if_pos hk]
    cases rightB o.rn o.rr <;> cases hasB o.deps o.rn o.rr <;> rfl
  · have e := ownO_4 hk
    rw [e] at r1 r2 u1 u2 f1 f2 t1 t2
    simp only [baseO, zeroO] at u1 u2 f1 f2 t1 t2
    rw [fieldsB_4 hk, ← u1, ← u2, ← f1, ← f2, ← t1, ← t2, hz]
    unfold refK attrB namesB
    rw [if_neg (by omega), if_neg (by omega), if_neg (by omega), if_pos hk]
    cases rightB o.rn o.rr <;> cases hasB o.deps o.rn o.rr <;> cases nameB o.name <;> cases valueB o.value <;> rfl
  · have e := ownO_5 hk
    rw [e] at r1 r2 u1 u2 f1 f2 t1 t2
    simp only [baseO, zeroO] at r1 r2 u1 u2
    rw [fieldsB_5 hk, ← r1, ← r2, ← u1, ← u2, hz]
    unfold refK attrB namesB
    rw [if_neg (by omega), if_neg (by omega), if_neg (by omega), if_neg (by omega), if_pos hk]
    cases rightB o.fn o.fr <;> cases hasB o.deps o.fn o.fr <;> cases rightB o.tn o.tr <;> cases hasB o.deps o.tn o.tr <;> cases nameB o.name <;> cases valueB o.value <;> rfl
  · rw [fieldsB_0 hk]
    unfold refK
    rw [if_neg hk.1, if_neg hk.2.2.1, if_neg hk.2.1, if_neg hk.2.2.2.1, if_neg hk.2.2.2.2]
    rfl
end Go.Proofs.YthpgfnhecfgiaaaGreatDoor
