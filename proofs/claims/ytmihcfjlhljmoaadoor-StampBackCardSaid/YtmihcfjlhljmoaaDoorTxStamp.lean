/-
  What the functions on stamps do that their texts lean on: each hands back one value and leaves all that was there as it was.
-/
import Derived.Test.YtmihcfjlhljmoaaDoorBase
import Derived.Test.YtmihcfjlhljmoaaDoorTxNum
namespace Go.Proofs.YtmihcfjlhljmoaaDoor
open Go.RowKit Go.Sort

def cmpI (a b : Int) : Int := if a < b then -1 else if b < a then 1 else 0
def cmpS (n r n' r' : Int) : Int := if n < n' then -1 else if n' < n then 1 else if r < r' then -1 else if r' < r then 1 else 0

def replB (r : Int) : Bool := decide (0 ≤ r ∧ r < 8)
theorem replB_lo {r : Int} (h : r < 0) : replB r = false := by simp only [replB]; exact decide_eq_false (by omega)
theorem replB_hi {r : Int} (h : 8 ≤ r) : replB r = false := by simp only [replB]; exact decide_eq_false (by omega)
theorem replB_in {r : Int} (h : 0 ≤ r) (h' : r < 8) : replB r = true := by simp only [replB]; exact decide_eq_true (by omega)
theorem rightB_lo {n r : Int} (h : n < 1) : rightB n r = false := by simp only [rightB]; exact decide_eq_false (by omega)
theorem rightB_hi {n r : Int} (h : 1048576 < n) : rightB n r = false := by simp only [rightB]; exact decide_eq_false (by omega)
theorem rightB_in {n r : Int} (h : 1 ≤ n) (h' : n ≤ 1048576) : rightB n r = replB r := by
  simp only [rightB, replB, decide_eq_decide]; omega

set_option maxHeartbeats 400000 in
theorem replicaRight_any (r : Int) (w : World) :
    Calls Tryd.prog 17 #[.int .i64 r] w fun e w' => e = .returned (.bool (replB r)) ∧ w = w' := by
  have H : (r < 0 ∧ Hid (replB r = false)) ∨ (0 ≤ r ∧ decide (r < 8) = false ∧ Hid (replB r = false)) ∨ (0 ≤ r ∧ decide (r < 8) = true ∧ Hid (replB r = true)) := by
    by_cases h1 : r < 0
    · exact .inl ⟨h1, replB_lo h1⟩
    · by_cases h2 : r < 8
      · exact .inr (.inr ⟨by omega, decide_eq_true h2, replB_in (by omega) h2⟩)
      · exact .inr (.inl ⟨by omega, decide_eq_false h2, replB_hi (by omega)⟩)
  rcases H with ⟨h1, H⟩ | ⟨h1, h2, H⟩ | ⟨h1, h2, H⟩
  all_goals
    go_enter Tryd.func17, Tryd.ntmps17
    go_wp2
    go_ret
    exact ⟨ret_bool H.out.symm, rfl⟩

set_option maxHeartbeats 400000 in
theorem right_any (n r : Int) (w : World) :
    Calls Tryd.prog 10 #[.agg #[.int .i64 n, .int .i64 r]] w (Ret (.bool (rightB n r)) w) := by
  have H : (n < 1 ∧ Hid (rightB n r = false)) ∨ (1 ≤ n ∧ 1048576 < n ∧ Hid (rightB n r = false)) ∨ (1 ≤ n ∧ n ≤ 1048576 ∧ Hid (rightB n r = replB r)) := by
    by_cases h1 : n < 1
    · exact .inl ⟨h1, rightB_lo h1⟩
    · by_cases h2 : n ≤ 1048576
      · exact .inr (.inr ⟨by omega, h2, rightB_in (by omega) h2⟩)
      · exact .inr (.inl ⟨by omega, by omega, rightB_hi (by omega)⟩)
  rcases H with ⟨h1, H⟩ | ⟨h1, h2, H⟩ | ⟨h1, h2, H⟩
  all_goals
    go_enter Tryd.func10, Tryd.ntmps10
    go_wp2_with (go_at_call 17; refine (replicaRight_any _ _).mono ?_; rintro e w' ⟨rfl, rfl⟩)
    go_ret
    exact ⟨ret_bool H.out.symm, below_box1 _ _⟩

set_option maxHeartbeats 400000 in
theorem isNaN_any (a : Int) (w : World) : Calls Tryd.prog 21 #[.int .i64 a] w fun e w' => e = .returned (.bool false) ∧ w = w' := by
  go_enter Tryd.func21, Tryd.ntmps21
  go_wp2
  go_ret
  exact ⟨ret_bool (by simp), rfl⟩

set_option maxHeartbeats 400000 in
theorem cmpCompare_any (a b : Int) (w : World) : Calls Tryd.prog 19 #[.int .i64 a, .int .i64 b] w fun e w' => e = .returned (.int .i64 (cmpI a b)) ∧ w = w' := by
  have H : (a < b ∧ Hid (-1 = cmpI a b)) ∨ (¬ a < b ∧ b < a ∧ Hid (1 = cmpI a b)) ∨ (¬ a < b ∧ ¬ b < a ∧ Hid (0 = cmpI a b)) := by
    by_cases h1 : a < b
    · exact .inl ⟨h1, show _ = _ by simp only [cmpI, if_pos h1]⟩
    · by_cases h2 : b < a
      · exact .inr (.inl ⟨h1, h2, show _ = _ by simp only [cmpI, if_neg h1, if_pos h2]⟩)
      · exact .inr (.inr ⟨h1, h2, show _ = _ by simp only [cmpI, if_neg h1, if_neg h2]⟩)
  rcases H with ⟨h1, H⟩ | ⟨h1, h2, H⟩ | ⟨h1, h2, H⟩
  all_goals
    go_enter Tryd.func19, Tryd.ntmps19
    go_wp2_with (go_at_call 21; refine (isNaN_any _ _).mono ?_; rintro e w' ⟨rfl, rfl⟩)
    go_ret
    exact ⟨ret_int H.out, rfl⟩

def orI (a b : Int) : Int := if a = 0 then b else a
set_option maxHeartbeats 400000 in
theorem cmpOr2_any (a b : Int) (bl : Nat) (w : World) (c0 : w.cell? ⟨bl, 0, none⟩ = some (.int .i64 a)) (c1 : w.cell? ⟨bl, 1, none⟩ = some (.int .i64 b)) :
    Calls Tryd.prog 18 #[.slice (some ⟨bl, 0, none⟩) 2 2] w fun e w' => e = .returned (.int .i64 (orI a b)) ∧ w = w' := by
  have H : ((a != 0) = true ∧ Hid (a = orI a b)) ∨ ((a != 0) = false ∧ (b != 0) = true ∧ Hid (b = orI a b)) ∨ ((a != 0) = false ∧ (b != 0) = false ∧ Hid (0 = orI a b)) := by
    by_cases h1 : a = 0
    · by_cases h2 : b = 0
      · exact .inr (.inr ⟨by simp [h1], by simp [h2], show _ = _ by rw [orI, if_pos h1, h2]⟩)
      · exact .inr (.inl ⟨by simp [h1], bne_iff_ne.2 h2, show _ = _ by rw [orI, if_pos h1]⟩)
    · exact .inl ⟨bne_iff_ne.2 h1, show _ = _ by rw [orI, if_neg h1]⟩
  rcases H with ⟨h1, H⟩ | ⟨h1, h2, H⟩ | ⟨h1, h2, H⟩
  all_goals
    go_enter Tryd.func18, Tryd.ntmps18
    go_wp2
    refine wp_loop_rounds 3 ?_
    repeat any_goals (rw [rounds_succ]; go_wp2)
    go_ret
    exact ⟨ret_int H.out, rfl⟩

theorem cmpS_eq (n r n' r' : Int) : orI (cmpI n n') (cmpI r r') = cmpS n r n' r' := by
  unfold orI cmpI cmpS
  by_cases h1 : n < n'
  · simp [h1]
  · by_cases h2 : n' < n <;> simp [h1, h2]

set_option maxHeartbeats 400000 in
theorem compare_any (n r n' r' : Int) (w : World) :
    Calls Tryd.prog 11 #[.agg #[.int .i64 n, .int .i64 r], .agg #[.int .i64 n', .int .i64 r']] w (Ret (.int .i64 (cmpS n r n' r')) w) := by
  go_enter Tryd.func11, Tryd.ntmps11
  go_wp2
  refine still_tail 10 (by kernel_rfl) (by kernel_rfl) ?_
  simp only [List.take_succ_cons, List.take_zero, List.drop_succ_cons, List.drop_zero]
  repeat (first | still_step | still_call (Calls.turn (cmpCompare_any _ _ _)))
  refine wpStill_nil ?_
  go_wp2_with fail
  refine (cmpOr2_any (cmpI n n') (cmpI r r') (w.heap.size + 1 + 1) _ (by go_simp) (by go_simp)).mono ?_
  rintro e w' ⟨rfl, rfl⟩
  go_wp2
  go_ret
  exact ⟨ret_int (cmpS_eq _ _ _ _), by go_grown⟩

set_option maxHeartbeats 400000 in
theorem refRight_any (n r : Int) (w : World) :
    Calls Tryd.prog 15 #[.agg #[.int .i64 n, .int .i64 r]] w (Ret (.bool (rightB n r)) w) := by
  have H : (n < 1 ∧ Hid (rightB n r = false)) ∨ (1 ≤ n ∧ 1048576 < n ∧ Hid (rightB n r = false)) ∨ (1 ≤ n ∧ n ≤ 1048576 ∧ r < 0 ∧ Hid (rightB n r = false)) ∨ (1 ≤ n ∧ n ≤ 1048576 ∧ 0 ≤ r ∧ decide (r < 8) = false ∧ Hid (rightB n r = false)) ∨ (1 ≤ n ∧ n ≤ 1048576 ∧ 0 ≤ r ∧ decide (r < 8) = true ∧ Hid (rightB n r = true)) := by
    by_cases h1 : n < 1
    · exact .inl ⟨h1, rightB_lo h1⟩
    · by_cases h2 : n ≤ 1048576
      · by_cases h3 : r < 0
        · exact .inr (.inr (.inl ⟨by omega, h2, h3, (rightB_in (by omega) h2).trans (replB_lo h3)⟩))
        · by_cases h4 : r < 8
          · exact .inr (.inr (.inr (.inr ⟨by omega, h2, by omega, decide_eq_true h4, (rightB_in (by omega) h2).trans (replB_in (by omega) h4)⟩)))
          · exact .inr (.inr (.inr (.inl ⟨by omega, h2, by omega, decide_eq_false h4, (rightB_in (by omega) h2).trans (replB_hi (by omega))⟩)))
      · exact .inr (.inl ⟨by omega, by omega, rightB_hi (by omega)⟩)
  rcases H with ⟨h1, H⟩ | ⟨h1, h2, H⟩ | ⟨h1, h2, h3, H⟩ | ⟨h1, h2, h3, h4, H⟩ | ⟨h1, h2, h3, h4, H⟩
  all_goals
    go_enter Tryd.func15, Tryd.ntmps15
    go_wp2
    go_ret
    exact ⟨ret_bool H.out.symm, below_box1 _ _⟩

end Go.Proofs.YtmihcfjlhljmoaaDoor
