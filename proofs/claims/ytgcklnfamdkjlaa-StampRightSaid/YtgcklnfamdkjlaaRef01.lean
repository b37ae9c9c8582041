/-
  What each function of the document's own answer to layer 1 does: it hands back one value and leaves all that was there as it was.
-/
import Derived.Test.YtgcklnfamdkjlaaStamp
namespace Go.Proofs.Ytgcklnfamdkjlaa
open Go.RowKit Go.Sort

set_option maxHeartbeats 400000 in
theorem refRight_any (n r : Int) (w : World) :
    Calls Try.prog 9 #[.agg #[.int .i64 n, .int .i64 r]] w (Ret (.bool (rightB n r)) w) := by
  have H : (n < 1 ∧ Hid (rightB n r = false)) ∨ (1 ≤ n ∧ 1048576 < n ∧ Hid (rightB n r = false)) ∨ (1 ≤ n ∧ n ≤ 1048576 ∧ r < 0 ∧ Hid (rightB n r = false)) ∨ (1 ≤ n ∧ n ≤ 1048576 ∧ 0 ≤ r ∧ decide (r < 8) = false ∧ Hid (rightB n r = false)) ∨ (1 ≤ n ∧ n ≤ 1048576 ∧ 0 ≤ r ∧ decide (r < 8) = true ∧ Hid (rightB n r = true)) := by
    by_cases h1 : n < 1
    · exact .inl ⟨h1, rightB_lo h1⟩
    · by_cases h2 : n ≤ 1048576
      · by_cases h3 : r < 0
        · exact .inr (.inr (.inl ⟨by omega, h2, h3, (rightB_in (by omega) h2).trans (replB_lo h3)⟩))
        · by_cases h4 : r < 8
          · exact .inr (.inr (.inr (.inr ⟨by omega, h2, by omega, decide_eq_true h4, (rightB_in (by omega) h2).trans (replB_in (by omega) h4)⟩)))
          · exact .inr (.inr (.inr (.inl ⟨by omega, h2, by omega, decide_eq_false h4, (rightB_in (by omega) h2).trans (replB_hi (by omega))⟩)))
      · exact .inr (.inl ⟨by omega, by omega, rightB_hi (by omega)⟩)
  rcases H with ⟨h1, H⟩ | ⟨h1, h2, H⟩ | ⟨h1, h2, h3, H⟩ | ⟨h1, h2, h3, h4, H⟩ | ⟨h1, h2, h3, h4, H⟩
  all_goals
    go_enter Try.func9, Try.ntmps9
    go_wp2
    go_ret
    exact ⟨ret_bool H.out.symm, below_box1 _ _⟩

set_option maxHeartbeats 400000 in
theorem refCompare_any (n r n' r' : Int) (w : World) :
    Calls Try.prog 10 #[.agg #[.int .i64 n, .int .i64 r], .agg #[.int .i64 n', .int .i64 r']] w (Ret (.int .i64 (cmpS n r n' r')) w) := by
  have H : (n < n' ∧ Hid (-1 = cmpS n r n' r')) ∨ (¬ n < n' ∧ n' < n ∧ Hid (1 = cmpS n r n' r')) ∨ (¬ n < n' ∧ ¬ n' < n ∧ r < r' ∧ Hid (-1 = cmpS n r n' r')) ∨ (¬ n < n' ∧ ¬ n' < n ∧ ¬ r < r' ∧ r' < r ∧ Hid (1 = cmpS n r n' r')) ∨ (¬ n < n' ∧ ¬ n' < n ∧ ¬ r < r' ∧ ¬ r' < r ∧ Hid (0 = cmpS n r n' r')) := by
    by_cases h1 : n < n'
    · exact .inl ⟨h1, show _ = _ by unfold cmpS; rw [if_pos h1]⟩
    · by_cases h2 : n' < n
      · exact .inr (.inl ⟨h1, h2, show _ = _ by unfold cmpS; rw [if_neg h1, if_pos h2]⟩)
      · by_cases h3 : r < r'
        · exact .inr (.inr (.inl ⟨h1, h2, h3, show _ = _ by unfold cmpS; rw [if_neg h1, if_neg h2, if_pos h3]⟩))
        · by_cases h4 : r' < r
          · exact .inr (.inr (.inr (.inl ⟨h1, h2, h3, h4, show _ = _ by unfold cmpS; rw [if_neg h1, if_neg h2, if_neg h3, if_pos h4]⟩)))
          · exact .inr (.inr (.inr (.inr ⟨h1, h2, h3, h4, show _ = _ by unfold cmpS; rw [if_neg h1, if_neg h2, if_neg h3, if_neg h4]⟩)))
  rcases H with ⟨h1, H⟩ | ⟨h1, h2, H⟩ | ⟨h1, h2, h3, H⟩ | ⟨h1, h2, h3, h4, H⟩ | ⟨h1, h2, h3, h4, H⟩
  all_goals
    go_enter Try.func10, Try.ntmps10
    go_wp2
    go_ret
    exact ⟨ret_int H.out, below_alloc2 _ _ _⟩

set_option maxHeartbeats 400000 in
theorem refNext_any (s r : Int) (hs : s ≤ 9223372036854775807) (w : World) :
    Calls Try.prog 12 #[.int .i64 s, .int .i64 r] w (Ret (nextV s r) w) := by
  have H : (r < 0 ∧ Hid (nextV s r = .tuple #[.agg #[.int .i64 0, .int .i64 0], .int .i64 1])) ∨ (0 ≤ r ∧ 8 ≤ r ∧ Hid (nextV s r = .tuple #[.agg #[.int .i64 0, .int .i64 0], .int .i64 1])) ∨ (0 ≤ r ∧ r < 8 ∧ s < 0 ∧ Hid (nextV s r = .tuple #[.agg #[.int .i64 0, .int .i64 0], .int .i64 1])) ∨ (0 ≤ r ∧ r < 8 ∧ 0 ≤ s ∧ 1048576 ≤ s ∧ Hid (nextV s r = .tuple #[.agg #[.int .i64 0, .int .i64 0], .int .i64 11])) ∨ (0 ≤ r ∧ r < 8 ∧ 0 ≤ s ∧ s < 1048576 ∧ Hid (nextV s r = .tuple #[.agg #[.int .i64 (s + 1), .int .i64 r], .int .i64 0])) := by
    by_cases h1 : r < 0
    · exact .inl ⟨h1, nextV_rep (by rw [replB_lo h1]; simp)⟩
    · by_cases h2 : r < 8
      · have hr := replB_in (r := r) (by omega) h2
        by_cases h3 : s < 0
        · exact .inr (.inr (.inl ⟨by omega, h2, h3, nextV_neg h3⟩))
        · by_cases h4 : s < 1048576
          · exact .inr (.inr (.inr (.inr ⟨by omega, h2, by omega, h4, nextV_in hr (by omega) h4⟩)))
          · exact .inr (.inr (.inr (.inl ⟨by omega, h2, by omega, by omega, nextV_full hr (by omega) (by omega)⟩)))
      · exact .inr (.inl ⟨by omega, by omega, nextV_rep (by rw [replB_hi (by omega)]; simp)⟩)
  rcases H with ⟨h1, H⟩ | ⟨h1, h2, H⟩ | ⟨h1, h2, h3, H⟩ | ⟨h1, h2, h3, h4, H⟩ | ⟨h1, h2, h3, h4, H⟩
  all_goals
    go_enter Try.func12, Try.ntmps12
    go_wp2
    refine bodyPost_ret (by simp [results, Try.results12, go_sem]; rfl) rfl ?_
    exact ⟨by rw [H.out], by go_grown⟩

end Go.Proofs.Ytgcklnfamdkjlaa
