/-
  Steps of a region that draws: an empty row made, a row of one operation made, an operation read, a row appended.
-/
import Derived.Test.YteclkaecjogbjaaOpApp
import Derived.OrdersHeld
import Derived.Deep.RegionHeld
namespace Go.Proofs.Yteclkaecjogbjaa
open Go.RowKit Go.Sort

theorem run_bs0 (ρ : Operand → Value) (d : Option Tmp) (ty : TypeId) (pos : String) (after : Array Edge) (w : World) : (execOp ρ { dst := d, op := .buildSlice 34 0 #[], type := ty, pos := pos, after := after, guard := none }).run Try.prog w = .ok (.value (.slice (some ⟨w.heap.size, 0, none⟩) 0 0)) (w.alloc (.cells #[] 31)) := by
  kernel_rfl
theorem run_bs1 (ρ : Operand → Value) (t : Tmp) (o : OpV) (h : ρ (.tmp t) = .agg (OpC o)) (d : Option Tmp) (ty : TypeId) (pos : String) (after : Array Edge) (w : World) : (execOp ρ { dst := d, op := .buildSlice 34 1 #[(0, .tmp t)], type := ty, pos := pos, after := after, guard := none }).run Try.prog w = .ok (.value (.slice (some ⟨w.heap.size, 0, none⟩) 1 1)) (w.alloc (.cells (OpC o) 31)) := by
  unfold execOp
  simp only [List.map_toArray, List.map_cons, List.map_nil, h]
  kernel_rfl
theorem run_ld (ρ : Operand → Value) (t : Tmp) (o : OpV) (b : Nat) (h : ρ (.tmp t) = .pointer (some ⟨b, 0, none⟩)) (d : Option Tmp) (ty : TypeId) (pos : String) (after : Array Edge) (g : Option (Nat × Bool)) {w : World} (hA : OpAt w b o) : (execOp ρ { dst := d, op := .load 31 (.tmp t), type := ty, pos := pos, after := after, guard := g }).run Try.prog w = .ok (.value (.agg (OpC o))) w := by
  unfold execOp
  simp only [h, Instr.loadAt, Instr.sureAddr, Sem.run_bind, Sem.run_pure, Result.andThen_ok, run_loadOp hA]

section
variable {ops : Array Oper} {a : Act} {w : World} {K : Act → World → Prop} {Q : Exit → Act → World → Prop} {D : Prop} {d : Option Tmp} {t : Tmp} {ty : TypeId} {pos : String} {after : Array Edge}
theorem step_bs0 (base : Nat) (hbase : base ≤ w.heap.size) (h : ∀ X, OwnRows X base 31 26 (.slice (some ⟨w.heap.size, 0, none⟩) 0 0) [] → X.heap.size = w.heap.size + 1 → Below w.heap.size w X → K (a.put d (.slice (some ⟨w.heap.size, 0, none⟩) 0 0)) X) :
    if Region.wanted { dst := d, op := .buildSlice 34 0 #[], type := ty, pos := pos, after := after, guard := none } (yielded ops a.tmps) = true then Oper.wp Try.prog { dst := d, op := .buildSlice 34 0 #[], type := ty, pos := pos, after := after, guard := none } a w K Q else D := by
  rw [if_pos (by rfl)]
  unfold Oper.wp
  rw [run_bs0]
  exact h _ ((own_madeK w _ 26).lower hbase) (by simp) (below_box1 _ _)
theorem step_bs1 {o : OpV} (ht : a.tmps.getD t undef = .agg (OpC o)) (h : ∀ X, RowsAt 26 X (.slice (some ⟨w.heap.size, 0, none⟩) 1 1) [opL o] → X.heap.size = w.heap.size + 1 → Below w.heap.size w X → K (a.put d (.slice (some ⟨w.heap.size, 0, none⟩) 1 1)) X) :
    if Region.wanted { dst := d, op := .buildSlice 34 1 #[(0, .tmp t)], type := ty, pos := pos, after := after, guard := none } (yielded ops a.tmps) = true then Oper.wp Try.prog { dst := d, op := .buildSlice 34 1 #[(0, .tmp t)], type := ty, pos := pos, after := after, guard := none } a w K Q else D := by
  rw [if_pos (by rfl)]
  unfold Oper.wp
  rw [run_bs1 a.eval t o ht]
  exact h _ (rows_box w _ (opL o) rfl _ rfl) (by simp) (below_box1 _ _)
end
end Go.Proofs.Yteclkaecjogbjaa
