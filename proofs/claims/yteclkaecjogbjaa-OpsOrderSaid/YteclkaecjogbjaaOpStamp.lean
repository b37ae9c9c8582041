/-
  Package stamp where package vector is there, too (replB is theirs both): what its functions hand back; and the document's own answers on stamps.
-/
import Derived.Test.YteclkaecjogbjaaVecWith
namespace Go.Proofs.Yteclkaecjogbjaa
open Go.RowKit Go.Sort

def rightB (n r : Int) : Bool := decide (1 ≤ n ∧ n ≤ 1048576 ∧ 0 ≤ r ∧ r < 8)
def cmpI (a b : Int) : Int := if a < b then -1 else if b < a then 1 else 0
def cmpS (n r n' r' : Int) : Int := if n < n' then -1 else if n' < n then 1 else if r < r' then -1 else if r' < r then 1 else 0

theorem rightB_lo {n r : Int} (h : n < 1) : rightB n r = false := by simp only [rightB]; exact decide_eq_false (by omega)
theorem rightB_hi {n r : Int} (h : 1048576 < n) : rightB n r = false := by simp only [rightB]; exact decide_eq_false (by omega)
theorem rightB_in {n r : Int} (h : 1 ≤ n) (h' : n ≤ 1048576) : rightB n r = replB r := by
  simp only [rightB, replB, decide_eq_decide]; omega

set_option maxHeartbeats 400000 in
theorem replicaRight_any (r : Int) (w : World) :
    Calls Try.prog 40 #[.int .i64 r] w fun e w' => e = .returned (.bool (replB r)) ∧ w = w' := by
  have H : (r < 0 ∧ Hid (replB r = false)) ∨ (0 ≤ r ∧ decide (r < 8) = false ∧ Hid (replB r = false)) ∨ (0 ≤ r ∧ decide (r < 8) = true ∧ Hid (replB r = true)) := by
    by_cases h1 : r < 0
    · exact .inl ⟨h1, replB_lo h1⟩
    · by_cases h2 : r < 8
      · exact .inr (.inr ⟨by omega, decide_eq_true h2, replB_in (by omega) h2⟩)
      · exact .inr (.inl ⟨by omega, decide_eq_false h2, replB_hi (by omega)⟩)
  rcases H with ⟨h1, H⟩ | ⟨h1, h2, H⟩ | ⟨h1, h2, H⟩
  all_goals
    go_enter Try.func40, Try.ntmps40
    go_wp2
    go_ret
    exact ⟨ret_bool H.out.symm, rfl⟩

set_option maxHeartbeats 400000 in
theorem right_any (n r : Int) (w : World) :
    Calls Try.prog 22 #[.agg #[.int .i64 n, .int .i64 r]] w (Ret (.bool (rightB n r)) w) := by
  have H : (n < 1 ∧ Hid (rightB n r = false)) ∨ (1 ≤ n ∧ 1048576 < n ∧ Hid (rightB n r = false)) ∨ (1 ≤ n ∧ n ≤ 1048576 ∧ Hid (rightB n r = replB r)) := by
    by_cases h1 : n < 1
    · exact .inl ⟨h1, rightB_lo h1⟩
    · by_cases h2 : n ≤ 1048576
      · exact .inr (.inr ⟨by omega, h2, rightB_in (by omega) h2⟩)
      · exact .inr (.inl ⟨by omega, by omega, rightB_hi (by omega)⟩)
  rcases H with ⟨h1, H⟩ | ⟨h1, h2, H⟩ | ⟨h1, h2, H⟩
  all_goals
    go_enter Try.func22, Try.ntmps22
    go_wp2_with (go_at_call 40; refine (replicaRight_any _ _).mono ?_; rintro e w' ⟨rfl, rfl⟩)
    go_ret
    exact ⟨ret_bool H.out.symm, below_box1 _ _⟩

set_option maxHeartbeats 400000 in
theorem isNaN_any (a : Int) (w : World) : Calls Try.prog 48 #[.int .i64 a] w fun e w' => e = .returned (.bool false) ∧ w = w' := by
  go_enter Try.func48, Try.ntmps48
  go_wp2
  go_ret
  exact ⟨ret_bool (by simp), rfl⟩

set_option maxHeartbeats 400000 in
theorem cmpCompare_any (a b : Int) (w : World) : Calls Try.prog 38 #[.int .i64 a, .int .i64 b] w fun e w' => e = .returned (.int .i64 (cmpI a b)) ∧ w = w' := by
  have H : (a < b ∧ Hid (-1 = cmpI a b)) ∨ (¬ a < b ∧ b < a ∧ Hid (1 = cmpI a b)) ∨ (¬ a < b ∧ ¬ b < a ∧ Hid (0 = cmpI a b)) := by
    by_cases h1 : a < b
    · exact .inl ⟨h1, show _ = _ by simp only [cmpI, if_pos h1]⟩
    · by_cases h2 : b < a
      · exact .inr (.inl ⟨h1, h2, show _ = _ by simp only [cmpI, if_neg h1, if_pos h2]⟩)
      · exact .inr (.inr ⟨h1, h2, show _ = _ by simp only [cmpI, if_neg h1, if_neg h2]⟩)
  rcases H with ⟨h1, H⟩ | ⟨h1, h2, H⟩ | ⟨h1, h2, H⟩
  all_goals
    go_enter Try.func38, Try.ntmps38
    go_wp2_with (go_at_call 48; refine (isNaN_any _ _).mono ?_; rintro e w' ⟨rfl, rfl⟩)
    go_ret
    exact ⟨ret_int H.out, rfl⟩

def orI (a b : Int) : Int := if a = 0 then b else a
set_option maxHeartbeats 400000 in
theorem cmpOr2_any (a b : Int) (bl : Nat) (w : World) (c0 : w.cell? ⟨bl, 0, none⟩ = some (.int .i64 a)) (c1 : w.cell? ⟨bl, 1, none⟩ = some (.int .i64 b)) :
    Calls Try.prog 37 #[.slice (some ⟨bl, 0, none⟩) 2 2] w fun e w' => e = .returned (.int .i64 (orI a b)) ∧ w = w' := by
  have H : ((a != 0) = true ∧ Hid (a = orI a b)) ∨ ((a != 0) = false ∧ (b != 0) = true ∧ Hid (b = orI a b)) ∨ ((a != 0) = false ∧ (b != 0) = false ∧ Hid (0 = orI a b)) := by
    by_cases h1 : a = 0
    · by_cases h2 : b = 0
      · exact .inr (.inr ⟨by simp [h1], by simp [h2], show _ = _ by rw [orI, if_pos h1, h2]⟩)
      · exact .inr (.inl ⟨by simp [h1], bne_iff_ne.2 h2, show _ = _ by rw [orI, if_pos h1]⟩)
    · exact .inl ⟨bne_iff_ne.2 h1, show _ = _ by rw [orI, if_neg h1]⟩
  rcases H with ⟨h1, H⟩ | ⟨h1, h2, H⟩ | ⟨h1, h2, H⟩
  all_goals
    go_enter Try.func37, Try.ntmps37
    go_wp2
    refine wp_loop_rounds 3 ?_
    repeat any_goals (rw [rounds_succ]; go_wp2)
    go_ret
    exact ⟨ret_int H.out, rfl⟩

theorem cmpS_eq (n r n' r' : Int) : orI (cmpI n n') (cmpI r r') = cmpS n r n' r' := by
  unfold orI cmpI cmpS
  by_cases h1 : n < n'
  · simp [h1]
  · by_cases h2 : n' < n <;> simp [h1, h2]

set_option maxHeartbeats 400000 in
theorem compare_any (n r n' r' : Int) (w : World) :
    Calls Try.prog 13 #[.agg #[.int .i64 n, .int .i64 r], .agg #[.int .i64 n', .int .i64 r']] w (Ret (.int .i64 (cmpS n r n' r')) w) := by
  go_enter Try.func13, Try.ntmps13
  go_wp2
  refine still_tail 10 (by kernel_rfl) (by kernel_rfl) ?_
  simp only [List.take_succ_cons, List.take_zero, List.drop_succ_cons, List.drop_zero]
  repeat (first | still_step | still_call (Calls.turn (cmpCompare_any _ _ _)))
  refine wpStill_nil ?_
  go_wp2_with fail
  refine (cmpOr2_any (cmpI n n') (cmpI r r') (w.heap.size + 1 + 1) _ (by go_simp) (by go_simp)).mono ?_
  rintro e w' ⟨rfl, rfl⟩
  go_wp2
  go_ret
  exact ⟨ret_int (cmpS_eq _ _ _ _), by go_grown⟩

def nextV (s r : Int) : Value := if replB r = false ∨ s < 0 then .tuple #[.agg #[.int .i64 0, .int .i64 0], .int .i64 1] else if 1048576 ≤ s then .tuple #[.agg #[.int .i64 0, .int .i64 0], .int .i64 11] else .tuple #[.agg #[.int .i64 (s + 1), .int .i64 r], .int .i64 0]
theorem nextV_rep {s r : Int} (h : ¬ replB r = true) : nextV s r = .tuple #[.agg #[.int .i64 0, .int .i64 0], .int .i64 1] := by unfold nextV; rw [if_pos (.inl (by simpa using h))]
theorem nextV_neg {s r : Int} (h : s < 0) : nextV s r = .tuple #[.agg #[.int .i64 0, .int .i64 0], .int .i64 1] := by unfold nextV; rw [if_pos (.inr h)]
theorem nextV_full {s r : Int} (h : replB r = true) (h0 : 0 ≤ s) (h' : 1048576 ≤ s) : nextV s r = .tuple #[.agg #[.int .i64 0, .int .i64 0], .int .i64 11] := by unfold nextV; rw [if_neg (by rw [h]; simp; omega), if_pos h']
theorem nextV_in {s r : Int} (h : replB r = true) (h0 : 0 ≤ s) (h' : s < 1048576) : nextV s r = .tuple #[.agg #[.int .i64 (s + 1), .int .i64 r], .int .i64 0] := by unfold nextV; rw [if_neg (by rw [h]; simp; omega), if_neg (by omega)]
set_option maxHeartbeats 400000 in
theorem next_any (s r : Int) (hs : s ≤ 9223372036854775807) (w : World) :
    Calls Try.prog 19 #[.int .i64 s, .int .i64 r] w (Ret (nextV s r) w) := by
  go_enter Try.func19, Try.ntmps19
  go_wp2_with (go_at_call 40; refine (replicaRight_any _ _).mono ?_; rintro e w' ⟨rfl, rfl⟩)
  all_goals
    refine bodyPost_ret (by simp [results, Try.results19, go_sem]; rfl) rfl ?_
    exact ⟨by first | (rw [nextV_rep (by assumption)]; done) | (rw [nextV_neg (by assumption)]; done) | (rw [nextV_full (by assumption) (by assumption) (by assumption)]; done) | (rw [nextV_in (by assumption) (by assumption) (by assumption)]; done), by go_grown⟩


set_option maxHeartbeats 400000 in
theorem refRight_any (n r : Int) (w : World) :
    Calls Try.prog 27 #[.agg #[.int .i64 n, .int .i64 r]] w (Ret (.bool (rightB n r)) w) := by
  have H : (n < 1 ∧ Hid (rightB n r = false)) ∨ (1 ≤ n ∧ 1048576 < n ∧ Hid (rightB n r = false)) ∨ (1 ≤ n ∧ n ≤ 1048576 ∧ r < 0 ∧ Hid (rightB n r = false)) ∨ (1 ≤ n ∧ n ≤ 1048576 ∧ 0 ≤ r ∧ decide (r < 8) = false ∧ Hid (rightB n r = false)) ∨ (1 ≤ n ∧ n ≤ 1048576 ∧ 0 ≤ r ∧ decide (r < 8) = true ∧ Hid (rightB n r = true)) := by
    by_cases h1 : n < 1
    · exact .inl ⟨h1, rightB_lo h1⟩
    · by_cases h2 : n ≤ 1048576
      · by_cases h3 : r < 0
        · exact .inr (.inr (.inl ⟨by omega, h2, h3, (rightB_in (by omega) h2).trans (replB_lo h3)⟩))
        · by_cases h4 : r < 8
          · exact .inr (.inr (.inr (.inr ⟨by omega, h2, by omega, decide_eq_true h4, (rightB_in (by omega) h2).trans (replB_in (by omega) h4)⟩)))
          · exact .inr (.inr (.inr (.inl ⟨by omega, h2, by omega, decide_eq_false h4, (rightB_in (by omega) h2).trans (replB_hi (by omega))⟩)))
      · exact .inr (.inl ⟨by omega, by omega, rightB_hi (by omega)⟩)
  rcases H with ⟨h1, H⟩ | ⟨h1, h2, H⟩ | ⟨h1, h2, h3, H⟩ | ⟨h1, h2, h3, h4, H⟩ | ⟨h1, h2, h3, h4, H⟩
  all_goals
    go_enter Try.func27, Try.ntmps27
    go_wp2
    go_ret
    exact ⟨ret_bool H.out.symm, below_box1 _ _⟩

set_option maxHeartbeats 400000 in
theorem refCompare_any (n r n' r' : Int) (w : World) :
    Calls Try.prog 18 #[.agg #[.int .i64 n, .int .i64 r], .agg #[.int .i64 n', .int .i64 r']] w (Ret (.int .i64 (cmpS n r n' r')) w) := by
  have H : (n < n' ∧ Hid (-1 = cmpS n r n' r')) ∨ (¬ n < n' ∧ n' < n ∧ Hid (1 = cmpS n r n' r')) ∨ (¬ n < n' ∧ ¬ n' < n ∧ r < r' ∧ Hid (-1 = cmpS n r n' r')) ∨ (¬ n < n' ∧ ¬ n' < n ∧ ¬ r < r' ∧ r' < r ∧ Hid (1 = cmpS n r n' r')) ∨ (¬ n < n' ∧ ¬ n' < n ∧ ¬ r < r' ∧ ¬ r' < r ∧ Hid (0 = cmpS n r n' r')) := by
    by_cases h1 : n < n'
    · exact .inl ⟨h1, show _ = _ by unfold cmpS; rw [if_pos h1]⟩
    · by_cases h2 : n' < n
      · exact .inr (.inl ⟨h1, h2, show _ = _ by unfold cmpS; rw [if_neg h1, if_pos h2]⟩)
      · by_cases h3 : r < r'
        · exact .inr (.inr (.inl ⟨h1, h2, h3, show _ = _ by unfold cmpS; rw [if_neg h1, if_neg h2, if_pos h3]⟩))
        · by_cases h4 : r' < r
          · exact .inr (.inr (.inr (.inl ⟨h1, h2, h3, h4, show _ = _ by unfold cmpS; rw [if_neg h1, if_neg h2, if_neg h3, if_pos h4]⟩)))
          · exact .inr (.inr (.inr (.inr ⟨h1, h2, h3, h4, show _ = _ by unfold cmpS; rw [if_neg h1, if_neg h2, if_neg h3, if_neg h4]⟩)))
  rcases H with ⟨h1, H⟩ | ⟨h1, h2, H⟩ | ⟨h1, h2, h3, H⟩ | ⟨h1, h2, h3, h4, H⟩ | ⟨h1, h2, h3, h4, H⟩
  all_goals
    go_enter Try.func18, Try.ntmps18
    go_wp2
    go_ret
    exact ⟨ret_int H.out, below_alloc2 _ _ _⟩


/-- What Compare says of two, and of three. -/
theorem cmpS_one (n r n' r' : Int) : (cmpS n r n' r' = -1 ∧ cmpS n' r' n r = 1 ∧ ¬ (n = n' ∧ r = r')) ∨ (cmpS n r n' r' = 0 ∧ cmpS n' r' n r = 0 ∧ n = n' ∧ r = r') ∨ (cmpS n r n' r' = 1 ∧ cmpS n' r' n r = -1 ∧ ¬ (n = n' ∧ r = r')) := by
  unfold cmpS
  by_cases h1 : n < n'
  · simp [h1]; omega
  · by_cases h2 : n' < n
    · simp [h1, h2]; omega
    · by_cases h3 : r < r'
      · simp [h1, h2, h3]; omega
      · by_cases h4 : r' < r
        · simp [h1, h2, h3, h4]; omega
        · simp [h1, h2, h3, h4]; omega
theorem cmpS_lt (n r n' r' : Int) : cmpS n r n' r' = -1 ↔ n < n' ∨ n = n' ∧ r < r' := by
  unfold cmpS
  by_cases h1 : n < n'
  · simp [h1]
  · by_cases h2 : n' < n
    · simp [h1, h2]; omega
    · by_cases h3 : r < r'
      · simp [h1, h2, h3]; omega
      · by_cases h4 : r' < r <;> simp [h1, h2, h3, h4]
theorem cmpS_through {n r n' r' n'' r'' : Int} (h : cmpS n r n' r' = -1) (h' : cmpS n' r' n'' r'' = -1) : cmpS n r n'' r'' = -1 := by
  rw [cmpS_lt] at *; omega

theorem nextV_ok {s r : Int} (h0 : 0 ≤ s) (h1 : s < 1048576) (h2 : 0 ≤ r) (h3 : r < 8) : nextV s r = .tuple #[.agg #[.int .i64 (s + 1), .int .i64 r], .int .i64 0] := nextV_in (replB_in h2 h3) h0 h1
theorem nextV_bad {s r : Int} (h : ¬ (0 ≤ s ∧ s < 1048576 ∧ 0 ≤ r ∧ r < 8)) : ∃ e : Int, (e == 0) = false ∧ nextV s r = .tuple #[.agg #[.int .i64 0, .int .i64 0], .int .i64 e] := by
  by_cases h1 : replB r = true
  · have h2 : 0 ≤ r ∧ r < 8 := by simpa [replB] using h1
    by_cases h3 : s < 0
    · exact ⟨1, rfl, nextV_neg h3⟩
    · exact ⟨11, rfl, nextV_full h1 (by omega) (by omega)⟩
  · exact ⟨1, rfl, nextV_rep h1⟩

end Go.Proofs.Yteclkaecjogbjaa
