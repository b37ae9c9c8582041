/-
  Whether an operation may be: the program, whole.
-/
import Derived.Test.YteclkaecjogbjaaOpOnly
namespace Go.Proofs.Yteclkaecjogbjaa
open Go.RowKit Go.Sort

/-- Whether an operation may be, as the program asks it. -/
def opB (o : OpV) : Bool := rightB o.n o.r && (depsB o && (fieldsB o && (eqOp (ownO o) o && namedB o)))

theorem op_ways (o : OpV) : (rightB o.n o.r = false ∧ Hid (opB o = false)) ∨ (rightB o.n o.r = true ∧ depsB o = false ∧ Hid (opB o = false)) ∨ (rightB o.n o.r = true ∧ depsB o = true ∧ fieldsB o = false ∧ Hid (opB o = false)) ∨ (rightB o.n o.r = true ∧ depsB o = true ∧ fieldsB o = true ∧ eqOp (ownO o) o = false ∧ Hid (opB o = false)) ∨ (rightB o.n o.r = true ∧ depsB o = true ∧ fieldsB o = true ∧ eqOp (ownO o) o = true ∧ Hid (opB o = namedB o)) := by
  unfold opB
  cases rightB o.n o.r
  · exact .inl ⟨rfl, rfl⟩
  refine .inr ?_
  cases depsB o
  · exact .inl ⟨rfl, rfl, rfl⟩
  refine .inr ?_
  cases fieldsB o
  · exact .inl ⟨rfl, rfl, rfl, rfl⟩
  refine .inr ?_
  cases eqOp (ownO o) o
  · exact .inl ⟨rfl, rfl, rfl, rfl, rfl⟩
  · exact .inr ⟨rfl, rfl, rfl, rfl, rfl⟩

set_option maxHeartbeats 4000000 in
theorem opRight_any (o : OpV) (ho : o.Fits) (w : World) : Calls Try.prog 9 #[.agg (OpC o)] w (Ret (.bool (opB o)) w) := by
  obtain ⟨W, hW, hb, hA⟩ := op_box w o
  have k0 := cell_regrown hA.c0
  have k1 := cell_regrown hA.c1
  have heq := fun (w : World) => run_eqOp (ownO o) o w
  have hA := Lib.hid hA
  rcases op_ways o with ⟨q1, H⟩ | ⟨q1, q2, H⟩ | ⟨q1, q2, q3, H⟩ | ⟨q1, q2, q3, q4, H⟩ | ⟨q1, q2, q3, q4, H⟩
  all_goals
    have R1 := fun W => right_any o.n o.r W
    have R2 := fun W => depsRight_any o W
    have R3 := fun W => fieldsRight_any o ho W
    simp only [q1] at R1
    try simp only [q2] at R2
    try simp only [q3] at R3
    try simp only [q4] at heq
    have R1 := Lib.hid R1
    have R2 := Lib.hid R2
    have R3 := Lib.hid R3
    go_enter Try.func9, Try.ntmps9
    go_wp2_with fail
    refine wp_region_quiet_below (by kernel_rfl) (by kernel_rfl) ?_
    repeat (first | (go_big_quiet_want; refine quiet_load_op _ rfl rfl hA.out ?_; simp only [Act.put, List.setIfInBounds_toArray, List.set_cons_succ, List.set_cons_zero]; go_big_quiet_on) | go_big_quiet_step (first
      | (go_at_call 22; exact Calls.ret_regrown (R1.out _))
      | (go_at_call 23; exact Calls.ret_regrown (R2.out _))
      | (go_at_call 24; exact Calls.ret_regrown (R3.out _))
      | (go_at_call 25; exact Calls.ret_regrown (onlyOwn_any _ _))
      | (go_at_call 26; exact Calls.ret_regrown (leansOnNamed_any _ _))))
    refine wpQuiet_nil ?_
    intro _ hw'
    obtain ⟨⟨dq, osq⟩, hw''⟩ := hw'
    subst hw''
    go_wp2
    go_ret
    exact ⟨ret_bool H.out.symm, hb.trans ((below_regrown W dq osq).mono hb.size)⟩
end Go.Proofs.Yteclkaecjogbjaa
