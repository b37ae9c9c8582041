/-
  The walks of layer 1's laws: each hands back true, whatever it is given.
-/
import Derived.Test.YtgcklnfamdkjlaaRef01
namespace Go.Proofs.Ytgcklnfamdkjlaa
open Go.RowKit Go.Sort

set_option maxHeartbeats 800000 in
theorem stampRight_walk (n r n' r' : Int) (w : World) :
    Calls Try.prog 3 #[.agg #[.int .i64 n, .int .i64 r], .agg #[.int .i64 n', .int .i64 r']] w (Ret (.bool true) w) := by
  go_enter Try.func3, Try.ntmps3
  go_wp2_with fail
  obtain ⟨W, hW, hb, c0, c1, c2, c3⟩ := two_boxes w (.int .i64 n) (.int .i64 r) (.int .i64 n') (.int .i64 r') 23
  rw [hW]
  clear hW
  have k0 := cell_regrown c0
  have k1 := cell_regrown c1
  have k2 := cell_regrown c2
  have k3 := cell_regrown c3
  clear c0 c1 c2 c3
  have e1 : rightB 1 0 = true := by decide
  have e2 : cmpS 1 0 2 0 = -1 := by decide
  refine wp_region_quiet_below (by kernel_rfl) (by kernel_rfl) ?_
  repeat (quiet_step (first
    | (go_at_call 7; exact Calls.ret_regrown (right_any _ _ _))
    | (go_at_call 9; exact Calls.ret_regrown (refRight_any _ _ _))
    | (go_at_call 8; exact Calls.ret_regrown (compare_any _ _ _ _ _))
    | (go_at_call 10; exact Calls.ret_regrown (refCompare_any _ _ _ _ _))))
  refine wpQuiet_nil ?_
  intro _ hw'
  obtain ⟨⟨dq, osq⟩, hw''⟩ := hw'
  subst hw''
  go_wp2
  go_ret
  exact ⟨rfl, hb.trans ((below_regrown W dq osq).mono hb.size)⟩

theorem nextV_cases (s r : Int) : ∃ n' r' e : Int, nextV s r = .tuple #[.agg #[.int .i64 n', .int .i64 r'], .int .i64 e] := by
  unfold nextV
  split
  · exact ⟨_, _, _, rfl⟩
  · split <;> exact ⟨_, _, _, rfl⟩

set_option maxHeartbeats 800000 in
theorem stampNext_walk (s r : Int) (hs : s ≤ 9223372036854775807) (w : World) :
    Calls Try.prog 4 #[.int .i64 s, .int .i64 r] w (Ret (.bool true) w) := by
  obtain ⟨n', r', e', hv⟩ := nextV_cases s r
  have h72 : nextV 7 2 = .tuple #[.agg #[.int .i64 8, .int .i64 2], .int .i64 0] := nextV_in (by decide) (by decide) (by decide)
  have N1 := fun W => next_any s r hs W
  have N2 := fun W => refNext_any s r hs W
  have N3 := fun W => next_any 7 2 (by decide) W
  rw [hv] at N1 N2
  rw [h72] at N3
  have M1 := Lib.hid N1
  have M2 := Lib.hid N2
  have M3 := Lib.hid N3
  clear N1 N2 N3 hv h72
  go_enter Try.func4, Try.ntmps4
  go_wp2_with fail
  refine (M1.out _).mono ?_
  rintro e w1 ⟨rfl, hb1⟩
  go_wp2_with fail
  refine (M2.out _).mono ?_
  rintro e w2 ⟨rfl, hb2⟩
  have c0 := cell_later (a := ⟨w1.heap.size, 0, none⟩) (v := .int .i64 n') hb2 (by go_simp)
  have c1 := cell_later (a := ⟨w1.heap.size, 1, none⟩) (v := .int .i64 r') hb2 (by go_simp)
  have l1 : w1.heap.size < w2.heap.size := block_lt_of_cell c0
  go_wp2_with fail
  refine (M3.out _).mono ?_
  rintro e w3 ⟨rfl, hb3⟩
  have d0 := cell_later (a := ⟨w1.heap.size, 0, none⟩) (v := .int .i64 n') hb3 (by go_simp)
  have d1 := cell_later (a := ⟨w1.heap.size, 1, none⟩) (v := .int .i64 r') hb3 (by go_simp)
  have d2 := cell_later (a := ⟨w2.heap.size, 0, none⟩) (v := .int .i64 n') hb3 (by go_simp)
  have d3 := cell_later (a := ⟨w2.heap.size, 1, none⟩) (v := .int .i64 r') hb3 (by go_simp)
  have l2 : w1.heap.size < w3.heap.size := block_lt_of_cell d0
  have l3 : w2.heap.size < w3.heap.size := block_lt_of_cell d2
  clear c0 c1
  go_wp2
  go_ret
  exact ⟨rfl, then_box (then_call (then_box (then_call (then_box hb1 _) hb2) _) hb3) _⟩

/-- What Compare says of two, and of three. -/
theorem cmpS_one (n r n' r' : Int) : (cmpS n r n' r' = -1 ∧ cmpS n' r' n r = 1 ∧ ¬ (n = n' ∧ r = r')) ∨ (cmpS n r n' r' = 0 ∧ cmpS n' r' n r = 0 ∧ n = n' ∧ r = r') ∨ (cmpS n r n' r' = 1 ∧ cmpS n' r' n r = -1 ∧ ¬ (n = n' ∧ r = r')) := by
  unfold cmpS
  by_cases h1 : n < n'
  · simp [h1]; omega
  · by_cases h2 : n' < n
    · simp [h1, h2]; omega
    · by_cases h3 : r < r'
      · simp [h1, h2, h3]; omega
      · by_cases h4 : r' < r
        · simp [h1, h2, h3, h4]; omega
        · simp [h1, h2, h3, h4]; omega
theorem cmpS_lt (n r n' r' : Int) : cmpS n r n' r' = -1 ↔ n < n' ∨ n = n' ∧ r < r' := by
  unfold cmpS
  by_cases h1 : n < n'
  · simp [h1]
  · by_cases h2 : n' < n
    · simp [h1, h2]; omega
    · by_cases h3 : r < r'
      · simp [h1, h2, h3]; omega
      · by_cases h4 : r' < r <;> simp [h1, h2, h3, h4]
theorem cmpS_through {n r n' r' n'' r'' : Int} (h : cmpS n r n' r' = -1) (h' : cmpS n' r' n'' r'' = -1) : cmpS n r n'' r'' = -1 := by
  rw [cmpS_lt] at *; omega

/-- The ways on which StampLine goes. -/
theorem line_ways (n r n' r' n'' r'' : Int) :
    (cmpS n r n' r' = 1 ∧ cmpS n' r' n r = -1 ∧ (n = n' → ¬ r = r')) ∨
    (cmpS n r n' r' = 0 ∧ cmpS n' r' n r = 0 ∧ n = n' ∧ r = r' ∧ cmpS n' r' n'' r'' = 1) ∨
    (cmpS n r n' r' = 0 ∧ cmpS n' r' n r = 0 ∧ n = n' ∧ r = r' ∧ cmpS n' r' n'' r'' = 0 ∧ cmpS n r n'' r'' = 0) ∨
    (cmpS n r n' r' = 0 ∧ cmpS n' r' n r = 0 ∧ n = n' ∧ r = r' ∧ cmpS n' r' n'' r'' = -1 ∧ cmpS n r n'' r'' = -1) ∨
    (cmpS n r n' r' = -1 ∧ cmpS n' r' n r = 1 ∧ (n = n' → ¬ r = r') ∧ cmpS n' r' n'' r'' = 1) ∨
    (cmpS n r n' r' = -1 ∧ cmpS n' r' n r = 1 ∧ (n = n' → ¬ r = r') ∧ cmpS n' r' n'' r'' = 0 ∧ cmpS n r n'' r'' = -1) ∨
    (cmpS n r n' r' = -1 ∧ cmpS n' r' n r = 1 ∧ (n = n' → ¬ r = r') ∧ cmpS n' r' n'' r'' = -1 ∧ cmpS n r n'' r'' = -1) := by
  rcases cmpS_one n r n' r' with ⟨h1, h2, h3⟩ | ⟨h1, h2, h3, h4⟩ | ⟨h1, h2, h3⟩
  · rcases cmpS_one n' r' n'' r'' with ⟨k1, k2, k3⟩ | ⟨k1, k2, k3, k4⟩ | ⟨k1, k2, k3⟩
    · exact .inr (.inr (.inr (.inr (.inr (.inr ⟨h1, h2, fun a b => h3 ⟨a, b⟩, k1, cmpS_through h1 k1⟩)))))
    · exact .inr (.inr (.inr (.inr (.inr (.inl ⟨h1, h2, fun a b => h3 ⟨a, b⟩, k1, by rw [← k3, ← k4]; exact h1⟩)))))
    · exact .inr (.inr (.inr (.inr (.inl ⟨h1, h2, fun a b => h3 ⟨a, b⟩, k1⟩))))
  · rcases cmpS_one n' r' n'' r'' with ⟨k1, k2, k3⟩ | ⟨k1, k2, k3, k4⟩ | ⟨k1, k2, k3⟩
    · exact .inr (.inr (.inr (.inl ⟨h1, h2, h3, h4, k1, by rw [h3, h4]; exact k1⟩)))
    · exact .inr (.inr (.inl ⟨h1, h2, h3, h4, k1, by rw [h3, h4]; exact k1⟩))
    · exact .inr (.inl ⟨h1, h2, h3, h4, k1⟩)
  · exact .inl ⟨h1, h2, fun a b => h3 ⟨a, b⟩⟩

set_option maxHeartbeats 1600000 in
theorem stampLine_walk (n r n' r' n'' r'' : Int) (w : World) :
    Calls Try.prog 5 #[.agg #[.int .i64 n, .int .i64 r], .agg #[.int .i64 n', .int .i64 r'], .agg #[.int .i64 n'', .int .i64 r'']] w (Ret (.bool true) w) := by
  have e2 : cmpS 2 0 1 0 = 1 := by decide
  go_enter Try.func5, Try.ntmps5
  go_wp2_with fail
  obtain ⟨W, hW, hB, a0, a1, b0, b1, c0, c1⟩ := three_boxes w (.int .i64 n) (.int .i64 r) (.int .i64 n') (.int .i64 r') (.int .i64 n'') (.int .i64 r'') 23
  rw [hW]
  clear hW
  rcases line_ways n r n' r' n'' r'' with ⟨h1, h2, h3⟩ | ⟨h1, h2, rfl, rfl, h3⟩ | ⟨h1, h2, rfl, rfl, h3, h4⟩ | ⟨h1, h2, rfl, rfl, h3, h4⟩ | ⟨h1, h2, h3, h4⟩ | ⟨h1, h2, h3, h4, h5⟩ | ⟨h1, h2, h3, h4, h5⟩
  all_goals
    go_wp2_with (go_at_call 8; refine (compare_any _ _ _ _ _).mono ?_; rintro e w' ⟨rfl, hb⟩; replace hB := then_call hB hb; replace a0 := cell_later hb a0; replace a1 := cell_later hb a1; replace b0 := cell_later hb b0; replace b1 := cell_later hb b1; replace c0 := cell_later hb c0; replace c1 := cell_later hb c1; clear hb)
  all_goals first
    | (go_ret; exact ⟨rfl, hB⟩)
    | (exfalso; exact h3 (by assumption) (by assumption))

theorem nextV_ok {s r : Int} (h0 : 0 ≤ s) (h1 : s < 1048576) (h2 : 0 ≤ r) (h3 : r < 8) : nextV s r = .tuple #[.agg #[.int .i64 (s + 1), .int .i64 r], .int .i64 0] := nextV_in (replB_in h2 h3) h0 h1
theorem nextV_bad {s r : Int} (h : ¬ (0 ≤ s ∧ s < 1048576 ∧ 0 ≤ r ∧ r < 8)) : ∃ e : Int, (e == 0) = false ∧ nextV s r = .tuple #[.agg #[.int .i64 0, .int .i64 0], .int .i64 e] := by
  by_cases h1 : replB r = true
  · have h2 : 0 ≤ r ∧ r < 8 := by simpa [replB] using h1
    by_cases h3 : s < 0
    · exact ⟨1, rfl, nextV_neg h3⟩
    · exact ⟨11, rfl, nextV_full h1 (by omega) (by omega)⟩
  · exact ⟨1, rfl, nextV_rep h1⟩

set_option maxHeartbeats 800000 in
theorem stampAfter_ok (s r n m : Int) (hs0 : 0 ≤ s) (hs1 : s < 1048576) (hr0 : 0 ≤ r) (hr1 : r < 8) (w : World) :
    Calls Try.prog 6 #[.int .i64 s, .int .i64 r, .agg #[.int .i64 n, .int .i64 m]] w (Ret (.bool true) w) := by
  have N1 := fun W => next_any s r (by omega) W
  rw [nextV_ok hs0 hs1 hr0 hr1] at N1
  have M1 := Lib.hid N1
  clear N1
  have er : rightB (s + 1) r = true := by rw [rightB_in (by omega) (by omega)]; exact replB_in hr0 hr1
  have H : (n ≤ s ∧ cmpS n m (s + 1) r = -1) ∨ s < n := by
    by_cases h : n ≤ s
    · exact .inl ⟨h, (cmpS_lt _ _ _ _).2 (.inl (by omega))⟩
    · exact .inr (by omega)
  rcases H with ⟨h1, h2⟩ | h1
  all_goals
    go_enter Try.func6, Try.ntmps6
    go_wp2_with fail
    refine (M1.out _).mono ?_
    rintro e w1 ⟨rfl, hb1⟩
    have c0 := cell_later (a := ⟨w.heap.size, 0, none⟩) (v := .int .i64 n) hb1 (by go_simp)
    have c1 := cell_later (a := ⟨w.heap.size, 1, none⟩) (v := .int .i64 m) hb1 (by go_simp)
    have l1 : w.heap.size < w1.heap.size := block_lt_of_cell c0
    have hB := below_box hb1
    go_wp2_with fail
    refine (right_any _ _ _).mono ?_
    rintro e w2 ⟨rfl, hb2⟩
    replace hB := then_call (then_box hB _) hb2
    replace c0 := cell_later (a := ⟨w.heap.size, 0, none⟩) (v := .int .i64 n) hb2 (by go_simp)
    replace c1 := cell_later (a := ⟨w.heap.size, 1, none⟩) (v := .int .i64 m) hb2 (by go_simp)
    have d0 := cell_later (a := ⟨w1.heap.size, 0, none⟩) (v := .int .i64 (s + 1)) hb2 (by go_simp)
    have d1 := cell_later (a := ⟨w1.heap.size, 1, none⟩) (v := .int .i64 r) hb2 (by go_simp)
    clear hb1 hb2 l1
    go_wp2_with (go_at_call 8; refine (compare_any _ _ _ _ _).mono ?_; rintro e w3 ⟨rfl, hb3⟩; replace hB := then_call hB hb3)
    go_ret
    exact ⟨rfl, hB⟩

set_option maxHeartbeats 800000 in
theorem stampAfter_bad (s r n m : Int) (hs : s ≤ 9223372036854775807) (h : ¬ (0 ≤ s ∧ s < 1048576 ∧ 0 ≤ r ∧ r < 8)) (w : World) :
    Calls Try.prog 6 #[.int .i64 s, .int .i64 r, .agg #[.int .i64 n, .int .i64 m]] w (Ret (.bool true) w) := by
  obtain ⟨e, he, hv⟩ := nextV_bad h
  have N1 := fun W => next_any s r hs W
  rw [hv] at N1
  have M1 := Lib.hid N1
  clear N1 hv
  have H : s < 0 ∨ (0 ≤ s ∧ 1048576 ≤ s) ∨ (0 ≤ s ∧ s < 1048576 ∧ r < 0) ∨ (0 ≤ s ∧ s < 1048576 ∧ 0 ≤ r ∧ decide (r < 8) = false) := by
    by_cases h1 : s < 0
    · exact .inl h1
    · by_cases h2 : s < 1048576
      · by_cases h3 : r < 0
        · exact .inr (.inr (.inl ⟨by omega, h2, h3⟩))
        · exact .inr (.inr (.inr ⟨by omega, h2, by omega, decide_eq_false (by omega)⟩))
      · exact .inr (.inl ⟨by omega, by omega⟩)
  clear h
  rcases H with h1 | ⟨h1, h2⟩ | ⟨h1, h2, h3⟩ | ⟨h1, h2, h3, h4⟩
  all_goals
    go_enter Try.func6, Try.ntmps6
    go_wp2_with fail
    refine (M1.out _).mono ?_
    rintro e w1 ⟨rfl, hb1⟩
    have hB := below_box hb1
    go_wp2
    go_ret
    exact ⟨rfl, then_box hB _⟩

theorem stampAfter_walk (s r n m : Int) (hs : s ≤ 9223372036854775807) (w : World) :
    Calls Try.prog 6 #[.int .i64 s, .int .i64 r, .agg #[.int .i64 n, .int .i64 m]] w (Ret (.bool true) w) := by
  by_cases h : 0 ≤ s ∧ s < 1048576 ∧ 0 ≤ r ∧ r < 8
  · exact stampAfter_ok s r n m h.1 h.2.1 h.2.2.1 h.2.2.2 w
  · exact stampAfter_bad s r n m hs h w

end Go.Proofs.Ytgcklnfamdkjlaa
