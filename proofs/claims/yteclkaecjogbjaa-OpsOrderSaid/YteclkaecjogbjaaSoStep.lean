/-
  Steps of a region that draws and exchanges two elements of a row.
-/
import Derived.Test.YteclkaecjogbjaaSoHold
namespace Go.Proofs.Yteclkaecjogbjaa
open Go.RowKit Go.Sort

theorem run_addI {ρ : Operand → Value} {x y : Operand} {a b : Int} (c : Int) (hx : ρ x = .int .i64 a) (hy : ρ y = .int .i64 b) (hc : a + b = c) (h1 : -9223372036854775808 ≤ c) (h2 : c ≤ 9223372036854775807) (d : Option Tmp) (ty : TypeId) (pos : String) (after : Array Edge) (g : Option (Nat × Bool)) (w : World) :
    (execOp ρ { dst := d, op := .binOp .add 3 x y 3, type := ty, pos := pos, after := after, guard := g }).run Try.prog w = .ok (.value (.int .i64 c)) w := by
  have hw : IntKind.i64.wrap c = c := by rw [IntKind.wrap_i64]; omega
  unfold execOp
  simp only [hx, hy]
  go_simp
theorem run_subI {ρ : Operand → Value} {x y : Operand} {a b : Int} (c : Int) (hx : ρ x = .int .i64 a) (hy : ρ y = .int .i64 b) (hc : a - b = c) (h1 : -9223372036854775808 ≤ c) (h2 : c ≤ 9223372036854775807) (d : Option Tmp) (ty : TypeId) (pos : String) (after : Array Edge) (g : Option (Nat × Bool)) (w : World) :
    (execOp ρ { dst := d, op := .binOp .sub 3 x y 3, type := ty, pos := pos, after := after, guard := g }).run Try.prog w = .ok (.value (.int .i64 c)) w := by
  have hw : IntKind.i64.wrap c = c := by rw [IntKind.wrap_i64]; omega
  unfold execOp
  simp only [hx, hy]
  go_simp
theorem run_ix {ρ : Operand → Value} {x y : Operand} {g n cap i : Nat} (hx : ρ x = .slice (some ⟨g, 0, none⟩) n cap) (hy : ρ y = .int .i64 (i : Int)) (hi : i < n) (d : Option Tmp) (ty : TypeId) (pos : String) (after : Array Edge) (gd : Option (Nat × Bool)) (w : World) :
    (execOp ρ { dst := d, op := .indexAddr 34 x y, type := ty, pos := pos, after := after, guard := gd }).run Try.prog w = .ok (.value (.pointer (some ⟨g, i * 26, none⟩))) w := by
  unfold execOp
  simp only [hx, hy, Sem.run_bind, Hold.index n cap g i hi, Result.andThen_ok, Sem.run_pure]
section
variable {ops : Array Oper} {a : Act} {w : World} {K : Act → World → Prop} {Q : Exit → Act → World → Prop} {D : Prop} {d : Option Tmp} {ty : TypeId} {pos : String} {after : Array Edge}
theorem step_load_el {t : Tmp} {g off : Nat} {x : OpV} (ht : a.tmps.getD t undef = .pointer (some ⟨g, off, none⟩)) (hA : w.rangeAt g off (opL x)) (h : K (a.put d (.agg (OpC x))) w) :
    if Region.wanted { dst := d, op := .load 31 (.tmp t), type := ty, pos := pos, after := after, guard := none } (yielded ops a.tmps) = true then Oper.wp Try.prog { dst := d, op := .load 31 (.tmp t), type := ty, pos := pos, after := after, guard := none } a w K Q else D := by
  rw [if_pos (by rfl)]
  have hx' : a.eval (.tmp t) = .pointer (some ⟨g, off, none⟩) := ht
  unfold Oper.wp execOp
  simp only [hx', Instr.loadAt, Instr.sureAddr, Sem.run_bind, Sem.run_pure, Result.andThen_ok, run_loadOpMid hA]
  exact h
theorem step_store_el {p q : Tmp} {g off : Nat} {x : OpV} (hp : a.tmps.getD p undef = .pointer (some ⟨g, off, none⟩)) (hq : a.tmps.getD q undef = .agg (OpC x)) (ht : w.there g off 26) (h : ∀ W', w.setCells g off (opL x) = W' → K a W') :
    if Region.wanted { dst := none, op := .store 31 (.tmp p) (.tmp q), type := ty, pos := pos, after := after, guard := none } (yielded ops a.tmps) = true then Oper.wp Try.prog { dst := none, op := .store 31 (.tmp p) (.tmp q), type := ty, pos := pos, after := after, guard := none } a w K Q else D := by
  rw [if_pos (by rfl)]
  have hp' : a.eval (.tmp p) = .pointer (some ⟨g, off, none⟩) := hp
  have hq' : a.eval (.tmp q) = .agg (OpC x) := hq
  unfold Oper.wp execOp
  simp only [hp', hq', Instr.storeAt, Instr.sureAddr, Sem.run_bind, Sem.run_pure, Result.andThen_ok, run_storeVar_mid w g off 31 (OpC x) ht infoO (OpC_one x)]
  exact h _ rfl
end
end Go.Proofs.Yteclkaecjogbjaa
