/-
  OpsRight's walk: whatever operation it is given, it hands back true.
-/
import Derived.Test.YteclkaecjogbjaaOpRefRight
import Derived.Test.YteclkaecjogbjaaOpOpen
namespace Go.Proofs.Yteclkaecjogbjaa
open Go.RowKit Go.Sort

def liveO (side : Int) : OpV := { zeroO with n := 1, kind := 1, side := side, ch := 97 }
theorem liveO_fits (s : Int) : (liveO s).Fits := ⟨by show 0 ≤ _; omega, by show 0 ≤ _; omega, by show 0 ≤ _; omega⟩
theorem eqOp_self (a : OpV) : eqOp a a = true := by simp [eqOp, eqS, eqA, eqV]
theorem live_yes : opB (liveO 2) = true := by
  have e : ownO (liveO 2) = liveO 2 := by rw [ownO_1 rfl]; rfl
  unfold opB
  rw [e, eqOp_self, show depsB (liveO 2) = true from by decide, show fieldsB (liveO 2) = true from by decide, show namedB (liveO 2) = true from by decide]
  decide
theorem live_no : opB (liveO 1) = false := by
  unfold opB
  rw [show fieldsB (liveO 1) = false from by decide]
  simp
theorem right_live (W : World) : Calls Try.prog 9 #[.agg #[.int .i64 1, .int .i64 0, .int .i64 0, .int .i64 0, .int .i64 0, .int .i64 0, .int .i64 0, .int .i64 0, .int .i64 0, .int .i64 0, .int .i64 1, .int .i64 0, .int .i64 0, .int .i64 2, .int .i64 97, .int .i64 0, .int .i64 0, .string { data := #[] }, .string { data := #[] }, .string { data := #[] }, .int .i64 0, .int .i64 0, .bool false, .int .i64 0, .int .i64 0, .bool false]] W (Ret (.bool true) W) := by
  have h := opRight_any (liveO 2) (liveO_fits 2) W
  rw [live_yes] at h
  exact h
theorem right_dead (W : World) : Calls Try.prog 9 #[.agg #[.int .i64 1, .int .i64 0, .int .i64 0, .int .i64 0, .int .i64 0, .int .i64 0, .int .i64 0, .int .i64 0, .int .i64 0, .int .i64 0, .int .i64 1, .int .i64 0, .int .i64 0, .int .i64 1, .int .i64 97, .int .i64 0, .int .i64 0, .string { data := #[] }, .string { data := #[] }, .string { data := #[] }, .int .i64 0, .int .i64 0, .bool false, .int .i64 0, .int .i64 0, .bool false]] W (Ret (.bool false) W) := by
  have h := opRight_any (liveO 1) (liveO_fits 1) W
  rw [live_no] at h
  exact h

set_option maxHeartbeats 1600000 in
theorem alive_any (w : World) : Calls Try.prog 8 #[] w (Ret (.bool true) w) := by
  go_enter Try.func8, Try.ntmps8
  go_wp2_with (go_at_call 9; first
    | ((with_reducible refine (right_live _).mono ?_); rintro e w1 ⟨rfl, hb1⟩)
    | ((with_reducible refine (right_dead _).mono ?_); rintro e w2 ⟨rfl, hb2⟩))
  go_ret
  exact ⟨rfl, then_call hb1 hb2⟩

set_option maxHeartbeats 1600000 in
theorem opsRight_walk (w : World) (o : OpV) (ho : o.Fits) (_ : o.Wf) : Calls Try.prog 3 #[.agg (OpC o)] w (Ret (.bool true) w) := by
  obtain ⟨W, hW, hb, hA⟩ := op_box w o
  have hA := Lib.hid hA
  go_enter Try.func3, Try.ntmps3
  go_wp2_with fail
  refine wp_region_quiet_below (by kernel_rfl) (by kernel_rfl) ?_
  repeat (first | (go_big_quiet_want; refine quiet_load_op _ rfl rfl hA.out ?_; simp only [Act.put, List.setIfInBounds_toArray, List.set_cons_succ, List.set_cons_zero]; go_big_quiet_on) | go_big_quiet_step (first
    | (go_at_call 8; exact Calls.ret_regrown (alive_any _))
    | (go_at_call 9; exact Calls.ret_regrown (opRight_any o ho _))
    | (go_at_call 10; exact Calls.ret_regrown (refOpRight_any o ho _))))
  refine wpQuiet_nil ?_
  intro _ hw'
  obtain ⟨⟨dq, osq⟩, hw''⟩ := hw'
  subst hw''
  go_wp2
  go_ret
  exact ⟨rfl, hb.trans ((below_regrown W dq osq).mono hb.size)⟩
end Go.Proofs.Yteclkaecjogbjaa
