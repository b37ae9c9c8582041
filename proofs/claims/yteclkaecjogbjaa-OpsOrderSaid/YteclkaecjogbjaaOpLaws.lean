/-
  Laws on whole operations: stored, built, answered; what is left of an operation by its kind.
-/
import Derived.Test.YteclkaecjogbjaaOpNamed
import Derived.BigRegion
namespace Go.Proofs.Yteclkaecjogbjaa
open Go.RowKit Go.Sort

def zeroO : OpV := ⟨0, 0, fun _ => 0, 0, 0, 0, 0, 0, 0, 0, ByteArray.empty, ByteArray.empty, ByteArray.empty, 0, 0, false, 0, 0, false⟩
def baseO (o : OpV) : OpV := { zeroO with n := o.n, r := o.r, deps := o.deps, kind := o.kind }

theorem own_boxes (w : World) (o : OpV) : ∃ W, ((w.alloc (.cells (OpC o) 31)).alloc (.cells #[.int .i64 0, .int .i64 0, .int .i64 0, .int .i64 0, .int .i64 0, .int .i64 0, .int .i64 0, .int .i64 0, .int .i64 0, .int .i64 0, .int .i64 0, .int .i64 0, .int .i64 0, .int .i64 0, .int .i64 0, .int .i64 0, .int .i64 0, .string { data := #[] }, .string { data := #[] }, .string { data := #[] }, .int .i64 0, .int .i64 0, .bool false, .int .i64 0, .int .i64 0, .bool false] 31)) = W ∧ Below w.heap.size w W ∧ W.heap.size = w.heap.size + 2 ∧ OpAt W w.heap.size o ∧ OpAt W (w.heap.size + 1) zeroO := by
  refine ⟨_, rfl, below_alloc2 _ _ _, by simp, (OpAt.new w o).alloc _, ?_⟩
  have h := OpAt.new (w.alloc (.cells (OpC o) 31)) zeroO
  rw [show (w.alloc (.cells (OpC o) 31)).heap.size = w.heap.size + 1 from by simp] at h
  exact h

theorem own_third (w W : World) (o : OpV) (hb : Below w.heap.size w W) (hs : W.heap.size = w.heap.size + 2) (hA : OpAt W w.heap.size o) (hR : OpAt W (w.heap.size + 1) zeroO) : OpAt (W.alloc (.cells #[.int .i64 0, .int .i64 0, .int .i64 0, .int .i64 0, .int .i64 0, .int .i64 0, .int .i64 0, .int .i64 0, .int .i64 0, .int .i64 0, .int .i64 0, .int .i64 0, .int .i64 0, .int .i64 0, .int .i64 0, .int .i64 0, .int .i64 0, .string { data := #[] }, .string { data := #[] }, .string { data := #[] }, .int .i64 0, .int .i64 0, .bool false, .int .i64 0, .int .i64 0, .bool false] 31)) (w.heap.size + 2) zeroO ∧ ∃ W2, (W.alloc (.cells #[.int .i64 0, .int .i64 0, .int .i64 0, .int .i64 0, .int .i64 0, .int .i64 0, .int .i64 0, .int .i64 0, .int .i64 0, .int .i64 0, .int .i64 0, .int .i64 0, .int .i64 0, .int .i64 0, .int .i64 0, .int .i64 0, .int .i64 0, .string { data := #[] }, .string { data := #[] }, .string { data := #[] }, .int .i64 0, .int .i64 0, .bool false, .int .i64 0, .int .i64 0, .bool false] 31)).setRow (w.heap.size + 2) (OpC (baseO o)) = W2 ∧ Below w.heap.size w W2 ∧ OpAt W2 w.heap.size o ∧ OpAt W2 (w.heap.size + 1) zeroO ∧ OpAt W2 (w.heap.size + 2) (baseO o) := by
  have h0 : OpAt (W.alloc (.cells #[.int .i64 0, .int .i64 0, .int .i64 0, .int .i64 0, .int .i64 0, .int .i64 0, .int .i64 0, .int .i64 0, .int .i64 0, .int .i64 0, .int .i64 0, .int .i64 0, .int .i64 0, .int .i64 0, .int .i64 0, .int .i64 0, .int .i64 0, .string { data := #[] }, .string { data := #[] }, .string { data := #[] }, .int .i64 0, .int .i64 0, .bool false, .int .i64 0, .int .i64 0, .bool false] 31)) (w.heap.size + 2) zeroO := by
    have h := OpAt.new W zeroO
    rw [hs] at h
    exact h
  exact ⟨h0, _, rfl, below_setRow (hb.alloc (by omega) _) (by omega) _, (hA.alloc _).rowOther (by omega) _, (hR.alloc _).rowOther (by omega) _, h0.row _⟩

/-- A whole operation is stored. -/
theorem store_op {ops : Array Oper} {Q : Exit → Act → World → Prop} {rest : List Oper} {a : Act} {w : World} {t u : Tmp} {ty : TypeId} {pos : String} {after : Array Edge} {b : Nat} {o x : OpV}
    (hA : OpAt w b o) (hx : a.tmps.getD t undef = .pointer (some ⟨b, 0, none⟩)) (hy : a.tmps.getD u undef = .agg (OpC x))
    (h : wpList Try.prog ops Q rest a (w.setRow b (OpC x))) : wpList Try.prog ops Q ({ dst := none, op := .store 31 (.tmp t) (.tmp u), type := ty, pos := pos, after := after, guard := none } :: rest) a w :=
  wpList_store_row rfl 31 (.tmp t) (.tmp u) rfl b (OpC x) hx hy 31 (OpC o) hA infoO rfl (OpC_one _) h

theorem run_build_base (o : OpV) (W : World) : (Instr.build 31 #[(0, .agg #[.int .i64 o.n, .int .i64 o.r]), (1, .agg (V o.deps)), (2, .int .i64 o.kind)]).run Try.prog W = .ok (.agg (OpC (baseO o))) W := run_build W _ _ _ (by kernel_rfl)

theorem build_base_op (o : OpV) {ops : Array Oper} {Q : Exit → Act → World → Prop} {rest : List Oper} {a : Act} {w : World} {d : Option Tmp} {t u v : Tmp} {ty : TypeId} {pos : String} {after : Array Edge}
    (h1 : a.tmps.getD t undef = .agg #[.int .i64 o.n, .int .i64 o.r]) (h2 : a.tmps.getD u undef = .agg (V o.deps)) (h3 : a.tmps.getD v undef = .int .i64 o.kind)
    (h : wpList Try.prog ops Q rest (a.put d (.agg (OpC (baseO o)))) w) : wpList Try.prog ops Q ({ dst := d, op := .build 31 #[(0, .tmp t), (1, .tmp u), (2, .tmp v)], type := ty, pos := pos, after := after, guard := none } :: rest) a w :=
  wpList_plain rfl fun K hK => by
    have e1 : a.eval (.tmp t) = .agg #[.int .i64 o.n, .int .i64 o.r] := h1
    have e2 : a.eval (.tmp u) = .agg (V o.deps) := h2
    have e3 : a.eval (.tmp v) = .int .i64 o.kind := h3
    unfold Oper.wp execOp
    simp only [List.map_toArray, List.map_cons, List.map_nil, e1, e2, e3, Sem.run_bind, run_build_base, Result.andThen_ok]
    exact hK _ _ h

theorem OpAt.set {w : World} {b : Nat} {o x : OpV} (h : OpAt w b o) {k : Nat} {v : Value} (hx : (OpC o).setIfInBounds k v = OpC x) : OpAt (w.setCell ⟨b, k, none⟩ v) b x := by
  unfold OpAt
  rw [heap_setCell_same w b k _ _ _ h, hx]
theorem OpAt.setOther {w : World} {b : Nat} {o : OpV} (h : OpAt w b o) {a : Addr} (ha : b ≠ a.block) (v : Value) : OpAt (w.setCell a v) b o := (heap_setCell_other w a b v ha).trans h
theorem OpAt.drew {w : World} {b : Nat} {o : OpV} (h : OpAt w b o) : OpAt w.drew b o := h
theorem results_op {fn : Func} {p : Tmp} (h : fn.results = #[.cell p 31]) (tmps : Array Value) (w : World) (b : Nat) (o : OpV) (hp : tmps.getD p undef = .pointer (some ⟨b, 0, none⟩)) (hv : OpAt w b o) :
    (results fn tmps).run Try.prog w = .ok (.agg (OpC o)) w :=
  results_cell_row h tmps w b _ _ _ _ hp hv Try.underlying31 rfl infoO

theorem ownO_1 {o : OpV} (h : o.kind = 1) : ownO o = { { { { baseO o with rn := o.rn } with rr := o.rr } with side := o.side } with ch := o.ch } := by
  simp [ownO, baseO, zeroO, h]
theorem ownO_3 {o : OpV} (h : o.kind = 3) : ownO o = { { { { { baseO o with un := o.un } with ur := o.ur } with key := o.key } with rn := o.rn } with rr := o.rr } := by
  simp [ownO, baseO, zeroO, h]
theorem ownO_2 {o : OpV} (h : o.kind = 2) : ownO o = { { baseO o with rn := o.rn } with rr := o.rr } := by
  simp [ownO, baseO, zeroO, h]
theorem ownO_4 {o : OpV} (h : o.kind = 4) : ownO o = { { { { baseO o with rn := o.rn } with rr := o.rr } with name := o.name } with value := o.value } := by
  simp [ownO, baseO, zeroO, h]
theorem ownO_5 {o : OpV} (h : o.kind = 5) : ownO o = { { { { { { { { baseO o with fn := o.fn } with fr := o.fr } with fa := o.fa } with tn := o.tn } with tr := o.tr } with ta := o.ta } with name := o.name } with value := o.value } := by
  simp [ownO, baseO, zeroO, h]
theorem ownO_0 {o : OpV} (h : o.kind ≠ 1 ∧ o.kind ≠ 3 ∧ o.kind ≠ 2 ∧ o.kind ≠ 4 ∧ o.kind ≠ 5) : ownO o = baseO o := by
  have h' : o.kind < 1 ∨ 5 < o.kind := by omega
  simp [ownO, baseO, zeroO, h, h']

/-- An operation is built of its parts. -/
theorem build_op {x : OpV} {ops : Array Oper} {Q : Exit → Act → World → Prop} {rest : List Oper} {a : Act} {w : World} {d : Option Tmp} {parts : Array (Nat × Operand)} {ty : TypeId} {pos : String} {after : Array Edge}
    (h1 : Try.prog.built 31 (parts.map fun (i, x) => (i, a.eval x)).toList = some (OpC x))
    (h : wpList Try.prog ops Q rest (a.put d (.agg (OpC x))) w) : wpList Try.prog ops Q ({ dst := d, op := .build 31 parts, type := ty, pos := pos, after := after, guard := none } :: rest) a w :=
  wpList_plain rfl fun K hK => by
    unfold Oper.wp execOp
    simp only [Sem.run_bind, run_build w _ _ _ h1, Result.andThen_ok]
    exact hK _ _ h

end Go.Proofs.Yteclkaecjogbjaa
