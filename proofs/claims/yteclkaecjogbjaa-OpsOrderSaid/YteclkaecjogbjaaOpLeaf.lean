/-
  An operation in a block of its own; the small functions on an operation's fields.
-/
import Derived.Test.YteclkaecjogbjaaOpWord2
namespace Go.Proofs.Yteclkaecjogbjaa
open Go.RowKit Go.Sort

/-- An operation lies in a block of its own. -/
def OpAt (w : World) (b : Nat) (o : OpV) : Prop := w.heap[b]? = some (.cells (OpC o) 31)
theorem OpAt.cell {w : World} {b : Nat} {o : OpV} (h : OpAt w b o) {k : Nat} {v : Value} (hv : (OpC o)[k]? = some v) : w.cell? ⟨b, k, none⟩ = some v := by
  rw [cell_of_row _ _ _ _ _ _ h, hv]
theorem OpAt.c0 {w : World} {b : Nat} {o : OpV} (h : OpAt w b o) : w.cell? ⟨b, 0, none⟩ = some (.int .i64 (o.n)) := h.cell rfl
theorem OpAt.c1 {w : World} {b : Nat} {o : OpV} (h : OpAt w b o) : w.cell? ⟨b, 1, none⟩ = some (.int .i64 (o.r)) := h.cell rfl
theorem OpAt.c2 {w : World} {b : Nat} {o : OpV} (h : OpAt w b o) : w.cell? ⟨b, 2, none⟩ = some (.int .i64 (o.deps 0)) := h.cell rfl
theorem OpAt.c3 {w : World} {b : Nat} {o : OpV} (h : OpAt w b o) : w.cell? ⟨b, 3, none⟩ = some (.int .i64 (o.deps 1)) := h.cell rfl
theorem OpAt.c4 {w : World} {b : Nat} {o : OpV} (h : OpAt w b o) : w.cell? ⟨b, 4, none⟩ = some (.int .i64 (o.deps 2)) := h.cell rfl
theorem OpAt.c5 {w : World} {b : Nat} {o : OpV} (h : OpAt w b o) : w.cell? ⟨b, 5, none⟩ = some (.int .i64 (o.deps 3)) := h.cell rfl
theorem OpAt.c6 {w : World} {b : Nat} {o : OpV} (h : OpAt w b o) : w.cell? ⟨b, 6, none⟩ = some (.int .i64 (o.deps 4)) := h.cell rfl
theorem OpAt.c7 {w : World} {b : Nat} {o : OpV} (h : OpAt w b o) : w.cell? ⟨b, 7, none⟩ = some (.int .i64 (o.deps 5)) := h.cell rfl
theorem OpAt.c8 {w : World} {b : Nat} {o : OpV} (h : OpAt w b o) : w.cell? ⟨b, 8, none⟩ = some (.int .i64 (o.deps 6)) := h.cell rfl
theorem OpAt.c9 {w : World} {b : Nat} {o : OpV} (h : OpAt w b o) : w.cell? ⟨b, 9, none⟩ = some (.int .i64 (o.deps 7)) := h.cell rfl
theorem OpAt.c10 {w : World} {b : Nat} {o : OpV} (h : OpAt w b o) : w.cell? ⟨b, 10, none⟩ = some (.int .i64 (o.kind)) := h.cell rfl
theorem OpAt.c11 {w : World} {b : Nat} {o : OpV} (h : OpAt w b o) : w.cell? ⟨b, 11, none⟩ = some (.int .i64 (o.rn)) := h.cell rfl
theorem OpAt.c12 {w : World} {b : Nat} {o : OpV} (h : OpAt w b o) : w.cell? ⟨b, 12, none⟩ = some (.int .i64 (o.rr)) := h.cell rfl
theorem OpAt.c13 {w : World} {b : Nat} {o : OpV} (h : OpAt w b o) : w.cell? ⟨b, 13, none⟩ = some (.int .i64 (o.side)) := h.cell rfl
theorem OpAt.c14 {w : World} {b : Nat} {o : OpV} (h : OpAt w b o) : w.cell? ⟨b, 14, none⟩ = some (.int .i64 (o.ch)) := h.cell rfl
theorem OpAt.c15 {w : World} {b : Nat} {o : OpV} (h : OpAt w b o) : w.cell? ⟨b, 15, none⟩ = some (.int .i64 (o.un)) := h.cell rfl
theorem OpAt.c16 {w : World} {b : Nat} {o : OpV} (h : OpAt w b o) : w.cell? ⟨b, 16, none⟩ = some (.int .i64 (o.ur)) := h.cell rfl
theorem OpAt.c17 {w : World} {b : Nat} {o : OpV} (h : OpAt w b o) : w.cell? ⟨b, 17, none⟩ = some (.string o.key) := h.cell rfl
theorem OpAt.c18 {w : World} {b : Nat} {o : OpV} (h : OpAt w b o) : w.cell? ⟨b, 18, none⟩ = some (.string o.name) := h.cell rfl
theorem OpAt.c19 {w : World} {b : Nat} {o : OpV} (h : OpAt w b o) : w.cell? ⟨b, 19, none⟩ = some (.string o.value) := h.cell rfl
theorem OpAt.c20 {w : World} {b : Nat} {o : OpV} (h : OpAt w b o) : w.cell? ⟨b, 20, none⟩ = some (.int .i64 (o.fn)) := h.cell rfl
theorem OpAt.c21 {w : World} {b : Nat} {o : OpV} (h : OpAt w b o) : w.cell? ⟨b, 21, none⟩ = some (.int .i64 (o.fr)) := h.cell rfl
theorem OpAt.c22 {w : World} {b : Nat} {o : OpV} (h : OpAt w b o) : w.cell? ⟨b, 22, none⟩ = some (.bool o.fa) := h.cell rfl
theorem OpAt.c23 {w : World} {b : Nat} {o : OpV} (h : OpAt w b o) : w.cell? ⟨b, 23, none⟩ = some (.int .i64 (o.tn)) := h.cell rfl
theorem OpAt.c24 {w : World} {b : Nat} {o : OpV} (h : OpAt w b o) : w.cell? ⟨b, 24, none⟩ = some (.int .i64 (o.tr)) := h.cell rfl
theorem OpAt.c25 {w : World} {b : Nat} {o : OpV} (h : OpAt w b o) : w.cell? ⟨b, 25, none⟩ = some (.bool o.ta) := h.cell rfl
theorem OpAt.frozen {w : World} {b : Nat} {o : OpV} (h : OpAt w b o) (k : Nat) : w.frozen? ⟨b, k, none⟩ = false := frozen_of_row _ _ _ _ _ h
theorem OpAt.lt {w : World} {b : Nat} {o : OpV} (h : OpAt w b o) : b < w.heap.size := (Array.getElem?_eq_some_iff.1 h).1
theorem OpAt.later {w w' : World} {B b : Nat} {o : OpV} (h : OpAt w b o) (hb : Below B w w') (hB : b < B) : OpAt w' b o := (hb.block b hB).trans h
theorem OpAt.after {w w' : World} {b : Nat} {o : OpV} (h : OpAt w b o) (hb : Below w.heap.size w w') : OpAt w' b o := h.later hb h.lt
theorem OpAt.alloc {w : World} {b : Nat} {o : OpV} (h : OpAt w b o) (x : Obj) : OpAt (w.alloc x) b o := (Go.heap_alloc_old w x h.lt).trans h
theorem OpAt.new (w : World) (o : OpV) : OpAt (w.alloc (.cells (OpC o) 31)) w.heap.size o := Go.heap_alloc_new w _
theorem OpAt.regrown {w : World} {b : Nat} {o : OpV} (h : OpAt w b o) (d : Nat) (os : Array Obj) : OpAt (grow (redrawn w d) os) b o := h.after (below_regrown w d os)
theorem OpAt.row {w : World} {b : Nat} {o : OpV} (h : OpAt w b o) (x : OpV) : OpAt (w.setRow b (OpC x)) b x := setRow_heap w b _ _ _ _ h
theorem OpAt.rowOther {w : World} {b b' : Nat} {o : OpV} (h : OpAt w b o) (hb : b ≠ b') (cs : Array Value) : OpAt (w.setRow b' cs) b o := (setRow_other w b' b cs hb).trans h

theorem op_box (w : World) (o : OpV) : ∃ W, w.alloc (.cells (OpC o) 31) = W ∧ Below w.heap.size w W ∧ OpAt W w.heap.size o := ⟨_, rfl, below_box1 _ _, OpAt.new w o⟩

theorem run_loadOp {w : World} {b : Nat} {o : OpV} (h : OpAt w b o) : (loadVar 31 ⟨b, 0, none⟩).run Try.prog w = .ok (.agg (OpC o)) w :=
  run_loadVar_row _ b 31 31 _ _ _ h Try.underlying31 rfl infoO

/-- A whole operation is read. -/
theorem load_op {ops : Array Oper} {Q : Exit → Act → World → Prop} {rest : List Oper} {a : Act} {w : World} {d : Option Tmp} {t : Tmp} {ty : TypeId} {pos : String} {after : Array Edge} {g : Option (Nat × Bool)} {b : Nat} {o : OpV}
    (hA : OpAt w b o) (hw : Region.wanted { dst := d, op := .load 31 (.tmp t), type := ty, pos := pos, after := after, guard := g } (yielded ops a.tmps) = true) (hx : a.tmps.getD t undef = .pointer (some ⟨b, 0, none⟩))
    (h : wpList Try.prog ops Q rest (a.put d (.agg (OpC o))) w) : wpList Try.prog ops Q ({ dst := d, op := .load 31 (.tmp t), type := ty, pos := pos, after := after, guard := g } :: rest) a w :=
  BigFrame.wpList_want hw fun K hK => by
    unfold Oper.wp execOp
    have hx' : a.eval (.tmp t) = .pointer (some ⟨b, 0, none⟩) := hx
    simp only [hx', Instr.loadAt, Instr.sureAddr, Sem.run_bind, Sem.run_pure, Result.andThen_ok, run_loadOp hA]
    exact hK _ _ h

theorem quiet_load_op {w : World} {o : Oper} {a : Act} {K : Act → Prop} {b : Nat} {f : OpV} (x : Operand) (ho : o.op = .load 31 x) (hx : a.eval x = .pointer (some ⟨b, 0, none⟩)) (hv : OpAt w b f)
    (h : K (a.put o.dst (.agg (OpC f)))) : o.quiet Try.prog a (fun w' => ∃ p : Regrown, w' = grow (redrawn w p.d) p.os) K := by
  refine ⟨_, fun w' hw' => ?_, h⟩
  obtain ⟨⟨d, os⟩, rfl⟩ := hw'
  unfold Oper.quietAt execOp
  simp only [ho, hx, Instr.loadAt, Instr.sureAddr, Sem.run_bind, Sem.run_pure, Result.andThen_ok, run_loadOp (hv.regrown d os)]
  exact ⟨rfl, rfl⟩

def zeroS (n r : Int) : Bool := eqS n r 0 0
def chB (c : Int) : Bool := decide (c = 0 ∨ 32 ≤ c ∧ c ≤ 126)

set_option maxHeartbeats 400000 in
theorem none_any (n r : Int) (w : World) : Calls Try.prog 49 #[.agg #[.int .i64 n, .int .i64 r]] w (Ret (.bool (zeroS n r)) w) := by
  have heq := fun (a b a' b' : Int) (w : World) => run_eqS 9998 a b a' b' w
  go_enter Try.func49, Try.ntmps49
  go_wp2
  go_ret
  exact ⟨rfl, below_box1 _ _⟩
set_option maxHeartbeats 400000 in
theorem refNone_any (n r : Int) (w : World) : Calls Try.prog 28 #[.agg #[.int .i64 n, .int .i64 r]] w (Ret (.bool (zeroS n r)) w) := by
  have heq := fun (a b a' b' : Int) (w : World) => run_eqS 9998 a b a' b' w
  go_enter Try.func28, Try.ntmps28
  go_wp2
  go_ret
  exact ⟨rfl, below_box1 _ _⟩

set_option maxHeartbeats 400000 in
theorem charRight_any (c : Int) (w : World) : Calls Try.prog 50 #[.int .i64 c] w (Says (chB c) w) := by
  have H : ((c == 0) = true ∧ Hid (true = chB c)) ∨ ((c == 0) = false ∧ Hid (prI c = chB c)) := by
    by_cases h : c = 0
    · exact .inl ⟨beq_iff_eq.2 h, (decide_eq_true (.inl h)).symm⟩
    · exact .inr ⟨beq_eq_false_iff_ne.2 h, decide_eq_decide.2 (by omega)⟩
  rcases H with ⟨h1, H⟩ | ⟨h1, H⟩
  all_goals
    go_enter Try.func50, Try.ntmps50
    go_wp2_with (go_at_call 56; refine (printable_any _ _).mono ?_; rintro e w' ⟨rfl, rfl⟩)
    go_ret
    exact ⟨ret_bool H.out, rfl⟩

/-- An operation that is handed in may be told its strings' lengths. -/
structure OpV.Fits (o : OpV) : Prop where
  key : o.key.size ≤ 9223372036854775807
  name : o.name.size ≤ 9223372036854775807
  value : o.value.size ≤ 9223372036854775807

def insB (o : OpV) : Bool := if zeroS o.rn o.rr = true then o.side == 2 && chB o.ch else rightB o.rn o.rr && (o.side == 1 || o.side == 2) && chB o.ch
def placeB (o : OpV) : Bool := (zeroS o.un o.ur || rightB o.un o.ur) && !(eqS o.un o.ur o.rn o.rr) && keyB o.key
def attrB (o : OpV) : Bool := nameB o.name && valueB o.value

set_option maxHeartbeats 800000 in
theorem attrRight_any (o : OpV) (ho : o.Fits) (w : World) : Calls Try.prog 45 #[.agg (OpC o)] w (Ret (.bool (attrB o)) w) := by
  obtain ⟨W, hW, hb, hA⟩ := op_box w o
  have c18 := hA.c18
  have c19 := hA.c19
  have hn := ho.name
  have hv := ho.value
  have H : (nameB o.name = true ∧ Hid (attrB o = valueB o.value)) ∨ (nameB o.name = false ∧ Hid (attrB o = false)) := by
    unfold attrB
    cases h : nameB o.name
    · exact .inr ⟨rfl, rfl⟩
    · exact .inl ⟨rfl, rfl⟩
  clear hA
  rcases H with ⟨h1, H⟩ | ⟨h1, H⟩
  all_goals
    go_enter Try.func45, Try.ntmps45
    go_wp2_with (first | (go_at_call 52; refine (nameRight_any _ _ hn).mono ?_; rintro e w' ⟨rfl, rfl⟩; rw [h1]) | (go_at_call 53; refine (valueRight_any _ _ hv).mono ?_; rintro e w' ⟨rfl, rfl⟩))
    go_ret
    exact ⟨ret_bool H.out.symm, hb⟩
end Go.Proofs.Yteclkaecjogbjaa
