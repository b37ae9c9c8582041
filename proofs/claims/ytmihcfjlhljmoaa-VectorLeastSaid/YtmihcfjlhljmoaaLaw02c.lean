/-
  VectorLeast and VectorHolds: each hands back true and leaves all that was there as it was.
-/
import Derived.Test.YtmihcfjlhljmoaaLaw02b
namespace Go.Proofs.Ytmihcfjlhljmoaa
open Go.RowKit Go.Sort

theorem least_ways (f g h : Nat → Int) :
    (covB h f = false) ∨ (covB h f = true ∧ covB h g = false) ∨ (covB h f = true ∧ covB h g = true ∧ covB h (joinF f g) = true) := by
  cases hx : covB h f
  · exact .inl rfl
  · cases hy : covB h g
    · exact .inr (.inl ⟨rfl, rfl⟩)
    · refine .inr (.inr ⟨rfl, rfl, ?_⟩)
      rw [covB_iff] at *
      intro i hi
      have := hx i hi
      have := hy i hi
      unfold joinF
      omega
theorem join_facts (f g h : Nat → Int) : covB (joinF f g) f = true ∧ covB (joinF f g) g = true ∧ eqV (joinF f g) (joinF g f) = true ∧ eqV (joinF (joinF f g) h) (joinF f (joinF g h)) = true ∧ eqV (joinF f f) f = true := by
  refine ⟨(covB_iff _ _).2 fun i _ => ?_, (covB_iff _ _).2 fun i _ => ?_, (eqV_iff _ _).2 fun i _ => ?_, (eqV_iff _ _).2 fun i _ => ?_, (eqV_iff _ _).2 fun i _ => ?_⟩ <;> unfold joinF <;> omega

set_option maxHeartbeats 1000000 in
theorem vectorLeast_walk (f g h : Nat → Int) (w : World) :
    Calls Try.prog 5 #[.agg (V f), .agg (V g), .agg (V h)] w (Ret (.bool true) w) := by
  obtain ⟨W, hW, hb, hA, hB, hC⟩ := vvv_boxes w f g h
  have heq := fun (x y : Nat → Int) (w : World) => run_eqVec x y w
  obtain ⟨f1, f2, f3, f4, f5⟩ := join_facts f g h
  rcases least_ways f g h with h1 | ⟨h1, h2⟩ | ⟨h1, h2, h3⟩
  all_goals
    go_enter Try.func5, Try.ntmps5
    go_wp2_with (refine wpList_load_vec _ rfl rfl rfl (by with_reducible first | exact hA | exact hB | exact hC) ?_)
    refine (join_any _ _ _).mono ?_
    rintro e w1 ⟨rfl, hb1⟩
    replace hA := (hA.after hb1).alloc (.cells (V (joinF f g)) 23)
    replace hB := (hB.after hb1).alloc (.cells (V (joinF f g)) 23)
    replace hC := (hC.after hb1).alloc (.cells (V (joinF f g)) 23)
    replace hb := then_box (then_call hb hb1) (.cells (V (joinF f g)) 23)
    have hJ := VAt.new w1 (joinF f g)
    clear hW hb1
    go_wp2_with (first
      | (refine wpList_store_vec _ _ rfl rfl rfl rfl ?_)
      | (refine wpList_load_vec _ rfl rfl rfl (by with_reducible first | exact hA | exact hB | exact hC | exact hJ) ?_)
      | (go_at_call 16; (with_reducible refine (covers_any _ _ _).mono ?_); rintro e w' ⟨rfl, hb'⟩; replace hA := hA.after hb'; replace hB := hB.after hb'; replace hC := hC.after hb'; replace hJ := hJ.after hb'; replace hb := then_call hb hb'; clear hb'))
    refine wp_region_quiet_below (by kernel_rfl) (by kernel_rfl) ?_
    repeat (first | (go_big_quiet_want; refine quiet_load_vec _ rfl rfl (by with_reducible first | exact hA | exact hB | exact hC | exact hJ) ?_; simp only [Act.put, List.setIfInBounds_toArray, List.set_cons_succ, List.set_cons_zero]; go_big_quiet_on) | go_big_quiet_step (first
      | (go_at_call 13; with_reducible exact Calls.ret_regrown (most_live _))
      | (go_at_call 14; with_reducible exact Calls.ret_regrown (join_any _ _ _))
      | (go_at_call 16; with_reducible exact Calls.ret_regrown (covers_any _ _ _))))
    refine wpQuiet_nil ?_
    intro _ hw'
    obtain ⟨⟨dq, osq⟩, hw''⟩ := hw'
    subst hw''
    go_wp2
    go_ret
    exact ⟨rfl, hb.trans ((below_regrown _ dq osq).mono hb.size)⟩

end Go.Proofs.Ytmihcfjlhljmoaa
