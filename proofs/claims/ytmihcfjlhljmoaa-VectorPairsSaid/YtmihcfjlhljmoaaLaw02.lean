/-
  What the statements of layer 2 do: each hands back true and leaves all that was there as it was.
-/
import Derived.Test.YtmihcfjlhljmoaaVecRef
namespace Go.Proofs.Ytmihcfjlhljmoaa
open Go.RowKit Go.Sort

theorem eqV_self (x : Nat → Int) : eqV x x = true := (eqV_iff x x).2 fun _ _ => rfl
theorem covB_self (x : Nat → Int) : covB x x = true := (covB_iff x x).2 fun _ _ => by omega

/-- The live questions: their answers. -/
theorem has_live (W : World) : Calls Try.prog 9 #[.agg #[.int .i64 2, .int .i64 0, .int .i64 0, .int .i64 0, .int .i64 0, .int .i64 0, .int .i64 0, .int .i64 0], .agg #[.int .i64 2, .int .i64 0]] W (Ret (.bool true) W) := by
  have h := has_any (fun i => if i = 0 then 2 else 0) 2 0 W
  rw [show hasB (fun i => if i = 0 then 2 else 0) 2 0 = true from by decide] at h
  exact h
theorem hasnt_live (W : World) : Calls Try.prog 9 #[.agg #[.int .i64 0, .int .i64 0, .int .i64 0, .int .i64 0, .int .i64 0, .int .i64 0, .int .i64 0, .int .i64 0], .agg #[.int .i64 1, .int .i64 0]] W (Ret (.bool false) W) := by
  have h := has_any (fun _ => 0) 1 0 W
  rw [show hasB (fun _ => 0) 1 0 = false from by decide] at h
  exact h
theorem most_live (W : World) : Calls Try.prog 13 #[.agg #[.int .i64 1, .int .i64 3, .int .i64 0, .int .i64 0, .int .i64 0, .int .i64 0, .int .i64 0, .int .i64 0]] W (Ret (.int .i64 3) W) := by
  have h := most_any (fun i => if i = 0 then 1 else if i = 1 then 3 else 0) W
  rw [show mostF (fun i => if i = 0 then 1 else if i = 1 then 3 else 0) = 3 from by decide] at h
  exact h
theorem covers_live (W : World) : Calls Try.prog 16 #[.agg #[.int .i64 0, .int .i64 0, .int .i64 0, .int .i64 0, .int .i64 0, .int .i64 0, .int .i64 0, .int .i64 0], .agg #[.int .i64 1, .int .i64 0, .int .i64 0, .int .i64 0, .int .i64 0, .int .i64 0, .int .i64 0, .int .i64 0]] W (Ret (.bool false) W) := by
  have h := covers_any (fun _ => 0) (fun i => if i = 0 then 1 else 0) W
  rw [show covB (fun _ => 0) (fun i => if i = 0 then 1 else 0) = false from by decide] at h
  exact h

set_option maxHeartbeats 1000000 in
theorem vectorStamps_walk (f : Nat → Int) (n r : Int) (w : World) :
    Calls Try.prog 3 #[.agg (V f), .agg #[.int .i64 n, .int .i64 r]] w (Ret (.bool true) w) := by
  obtain ⟨W, hW, hb, -, hA, -, c0, c1⟩ := vs_boxes w f n r
  replace hA : VAt W w.heap.size f := hA
  go_enter Try.func3, Try.ntmps3
  go_wp2_with fail
  clear hW
  have heq := fun (x y : Nat → Int) (w : World) => run_eqVec x y w
  have hself := eqV_self
  have k0 := cell_regrown c0
  have k1 := cell_regrown c1
  clear c0 c1
  refine wp_region_quiet_below (by kernel_rfl) (by kernel_rfl) ?_
  repeat (first | (go_big_quiet_want; refine quiet_load_vec _ rfl rfl (by exact hA) ?_; simp only [Act.put, List.setIfInBounds_toArray, List.set_cons_succ, List.set_cons_zero]; go_big_quiet_on) | go_big_quiet_step (first
    | (go_at_call 9; first | with_reducible exact Calls.ret_regrown (has_live _) | with_reducible exact Calls.ret_regrown (has_any _ _ _ _))
    | (go_at_call 10; exact Calls.ret_regrown (refHas_any _ _ _ _))
    | (go_at_call 11; exact Calls.ret_regrown (with_any _ _ _ _))
    | (go_at_call 12; exact Calls.ret_regrown (refWith_any _ _ _ _))))
  refine wpQuiet_nil ?_
  intro _ hw'
  obtain ⟨⟨dq, osq⟩, hw''⟩ := hw'
  subst hw''
  go_wp2
  go_ret
  exact ⟨rfl, hb.trans ((below_regrown W dq osq).mono hb.size)⟩

set_option maxHeartbeats 1000000 in
theorem vectorPairs_walk (f g : Nat → Int) (w : World) :
    Calls Try.prog 4 #[.agg (V f), .agg (V g)] w (Ret (.bool true) w) := by
  obtain ⟨W, hW, hb, hA, hB⟩ := vv_boxes w f g
  go_enter Try.func4, Try.ntmps4
  go_wp2_with fail
  clear hW
  have heq := fun (x y : Nat → Int) (w : World) => run_eqVec x y w
  have hself := eqV_self
  refine wp_region_quiet_below (by kernel_rfl) (by kernel_rfl) ?_
  repeat (first | (go_big_quiet_want; refine quiet_load_vec _ rfl rfl (by first | exact hA | exact hB) ?_; simp only [Act.put, List.setIfInBounds_toArray, List.set_cons_succ, List.set_cons_zero]; go_big_quiet_on) | go_big_quiet_step (first
    | (go_at_call 13; first | with_reducible exact Calls.ret_regrown (most_live _) | with_reducible exact Calls.ret_regrown (most_any _ _))
    | (go_at_call 14; exact Calls.ret_regrown (join_any _ _ _))
    | (go_at_call 15; exact Calls.ret_regrown (refJoin_any _ _ _))
    | (go_at_call 16; exact Calls.ret_regrown (covers_any _ _ _))
    | (go_at_call 17; exact Calls.ret_regrown (refCovers_any _ _ _))
    | (go_at_call 18; exact Calls.ret_regrown (refMost_any _ _))))
  refine wpQuiet_nil ?_
  intro _ hw'
  obtain ⟨⟨dq, osq⟩, hw''⟩ := hw'
  subst hw''
  go_wp2
  go_ret
  exact ⟨rfl, hb.trans ((below_regrown W dq osq).mono hb.size)⟩

end Go.Proofs.Ytmihcfjlhljmoaa
