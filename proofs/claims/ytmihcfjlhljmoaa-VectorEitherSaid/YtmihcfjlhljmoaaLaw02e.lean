/-
  VectorEither: it hands back true and leaves all that was there as it was.
-/
import Derived.Test.YtmihcfjlhljmoaaLaw02d
namespace Go.Proofs.Ytmihcfjlhljmoaa
open Go.RowKit Go.Sort

theorem below_of_regrown {w w' : World} (h : ∃ p : Regrown, w' = grow (redrawn w p.d) p.os) : Below w.heap.size w w' := by
  obtain ⟨⟨d, os⟩, rfl⟩ := h
  exact below_regrown w d os

theorem vvs_boxes (w : World) (f g : Nat → Int) (n r : Int) : ∃ W, ((w.alloc (.cells (V f) 23)).alloc (.cells (V g) 23)).alloc (.cells #[.int .i64 n, .int .i64 r] 25) = W ∧ Below w.heap.size w W ∧ VAt W w.heap.size f ∧ VAt W (w.heap.size + 1) g ∧ W.cell? ⟨w.heap.size + 1 + 1, 0, none⟩ = some (.int .i64 n) ∧ W.cell? ⟨w.heap.size + 1 + 1, 1, none⟩ = some (.int .i64 r) := by
  obtain ⟨W, hW, hb, hA, hB⟩ := vv_boxes w f g
  have e : W.heap.size = w.heap.size + 1 + 1 := by rw [← hW]; simp
  rw [hW]
  rw [← e]
  exact ⟨_, rfl, hb.alloc hb.size _, hA.alloc _, hB.alloc _, by go_simp, by go_simp⟩

theorem has_join (f g : Nat → Int) (n r : Int) : hasB (joinF f g) n r = (hasB f n r || hasB g n r) := by
  unfold hasB joinF
  cases replB r
  · rfl
  · simp only [Bool.true_and]
    rw [Bool.eq_iff_iff, Bool.or_eq_true, decide_eq_true_eq, decide_eq_true_eq, decide_eq_true_eq]
    omega
theorem has_with_at {f : Nat → Int} {n r : Int} {k : Nat} (hk : k < 8) : hasB (withF f n r) n k = (hasB f n k || ((k : Int) == r)) := by
  rw [hasB_in (replB_in (by omega) (by omega)), hasB_in (replB_in (by omega) (by omega))]
  unfold withF
  rw [Bool.eq_iff_iff, Bool.or_eq_true, decide_eq_true_eq, decide_eq_true_eq, beq_iff_eq]
  by_cases hr : replB r = true
  · obtain ⟨j, hj, rfl⟩ := replB_true hr
    rw [if_pos hr, Int.toNat_natCast]
    unfold upd
    split
    · subst_vars; omega
    · omega
  · rw [if_neg hr]
    have : (k : Int) ≠ r := fun e => hr (e ▸ replB_in (by omega) (by omega))
    omega
theorem most_join_k (f g : Nat → Int) : ∀ k, mostK (joinF f g) k = max (mostK f k) (mostK g k)
  | 0 => rfl
  | k + 1 => by show max (mostK (joinF f g) k) (joinF f g (k + 1)) = max (max _ _) (max _ _); rw [most_join_k f g k]; unfold joinF; omega
theorem most_join (f g : Nat → Int) : mostF (joinF f g) = if mostF f < mostF g then mostF g else mostF f := by
  unfold mostF; rw [most_join_k, Int.max_def]; split <;> split <;> omega

theorem either_ways (f g : Nat → Int) (n r : Int) : (hasB f n r = true ∧ hasB (joinF f g) n r = true) ∨ (hasB f n r = false ∧ hasB (joinF f g) n r = hasB g n r) := by
  cases h : hasB f n r
  · exact .inr ⟨rfl, by rw [has_join, h]; rfl⟩
  · exact .inl ⟨rfl, by rw [has_join, h]; rfl⟩
theorem round_ways (f : Nat → Int) (n r : Int) {k : Nat} (hk : k < 8) : (hasB f n k = true ∧ hasB (withF f n r) n k = true) ∨ (hasB f n k = false ∧ hasB (withF f n r) n k = ((k : Int) == r)) := by
  cases h : hasB f n k
  · exact .inr ⟨rfl, by rw [has_with_at hk, h]; rfl⟩
  · exact .inl ⟨rfl, by rw [has_with_at hk, h]; rfl⟩

theorem has_val {f : Nat → Int} {n r : Int} {b : Bool} (h : hasB f n r = b) (W : World) : Calls Try.prog 9 #[.agg (V f), .agg #[.int .i64 n, .int .i64 r]] W (Ret (.bool b) W) := h ▸ has_any f n r W

set_option maxHeartbeats 1000000 in
theorem vectorEither_walk (f g : Nat → Int) (n r : Int) (w : World) :
    Calls Try.prog 8 #[.agg (V f), .agg (V g), .agg #[.int .i64 n, .int .i64 r]] w (Ret (.bool true) w) := by
  obtain ⟨W, hW, hb, hA, hB, c0, c1⟩ := vvs_boxes w f g n r
  have hm := Lib.hid (most_join f g)
  rcases either_ways f g n r with ⟨h1, h2⟩ | ⟨h1, h2⟩
  all_goals
    go_enter Try.func8, Try.ntmps8
    go_wp2_with ((with_reducible apply wpList_load_vec'); rfl; rfl; (with_reducible first | exact hA | exact hB))
    refine (join_any _ _ _).mono ?_
    rintro e w1 ⟨rfl, hb1⟩
    replace hA := (hA.after hb1).alloc (.cells (V (joinF f g)) 23)
    replace hB := (hB.after hb1).alloc (.cells (V (joinF f g)) 23)
    replace c0 := cell_later (below_box1 w1 (.cells (V (joinF f g)) 23)) (cell_later hb1 c0)
    replace c1 := cell_later (below_box1 w1 (.cells (V (joinF f g)) 23)) (cell_later hb1 c1)
    replace hb := then_box (then_call hb hb1) (.cells (V (joinF f g)) 23)
    have hJ := VAt.new w1 (joinF f g)
    clear hW hb1
    go_wp2_with (first
      | ((with_reducible apply wpList_store_vec'); rfl; rfl)
      | ((with_reducible apply wpList_load_vec'); rfl; rfl; (with_reducible first | exact hA | exact hB)))
    refine (with_any _ _ _ _).mono ?_
    rintro e w2 ⟨rfl, hb2⟩
    replace hA := (hA.after hb2).alloc (.cells (V (withF f n r)) 23)
    replace hB := (hB.after hb2).alloc (.cells (V (withF f n r)) 23)
    replace hJ := (hJ.after hb2).alloc (.cells (V (withF f n r)) 23)
    replace c0 := cell_later (below_box1 w2 (.cells (V (withF f n r)) 23)) (cell_later hb2 c0)
    replace c1 := cell_later (below_box1 w2 (.cells (V (withF f n r)) 23)) (cell_later hb2 c1)
    replace hb := then_box (then_call hb hb2) (.cells (V (withF f n r)) 23)
    have hU := VAt.new w2 (withF f n r)
    clear hb2
    go_wp2_with ((with_reducible apply wpList_store_vec'); rfl; rfl)
    dsimp only [Act.put]
    have k0 := cell_regrown c0
    have k1 := cell_regrown c1
    have c0 := Lib.hid c0
    have c1 := Lib.hid c1
    refine wp_region_quiet_below (by kernel_rfl) (by kernel_rfl) ?_
    repeat (first | (go_big_quiet_want; refine quiet_load_vec _ rfl rfl (by with_reducible first | exact hA | exact hB | exact hJ | exact hU) ?_; simp only [Act.put, List.setIfInBounds_toArray, List.set_cons_succ, List.set_cons_zero]; go_big_quiet_on) | go_big_quiet_step (
      (go_at_call 9; first | with_reducible exact Calls.ret_regrown (hasnt_live _) | with_reducible exact Calls.ret_regrown (has_val h1 _) | with_reducible exact Calls.ret_regrown (has_any _ _ _ _))))
    refine wpQuiet_nil ?_
    intro W4 hw'
    have hb4 := below_of_regrown hw'
    clear hw' k0 k1
    replace hA := hA.after hb4
    replace hB := hB.after hb4
    replace hJ := hJ.after hb4
    replace hU := hU.after hb4
    have c0 := cell_later hb4 c0.out
    have c1 := cell_later hb4 c1.out
    replace hb := then_call hb hb4
    clear hb4 h1 h2
    go_wp2_with fail
    go_loopw [9, 10] (fun ok i wr => ∃ k : Nat, k ≤ 8 ∧ ok = .bool true ∧ i = .int .i64 k ∧ Below W4.heap.size W4 wr) (fun _ i _ => 8 - (intOf i).toNat)
    case atStart => exact ⟨0, by omega, rfl, rfl, Below.refl _ _⟩
    case round =>
      obtain ⟨k, hk, rfl, rfl, hb5⟩ := hrel
      replace hA := hA.after hb5
      replace hB := hB.after hb5
      replace hJ := hJ.after hb5
      replace hU := hU.after hb5
      replace c0 := cell_later hb5 c0
      replace c1 := cell_later hb5 c1
      by_cases hlt : k < 8
      · have hk0 : (0 : Int) ≤ (k : Int) := by omega
        have hk8 : (k : Int) < 8 := by omega
        go_wp2
        have g0 := cell_regrown (w := wr.alloc (.cells #[.int .i64 n, .int .i64 k] 25)) (a := ⟨wr.heap.size, 0, none⟩) (v := .int .i64 n) (by go_simp)
        have g1 := cell_regrown (w := wr.alloc (.cells #[.int .i64 n, .int .i64 k] 25)) (a := ⟨wr.heap.size, 1, none⟩) (v := .int .i64 k) (by go_simp)
        have g2 := cell_regrown (cell_later (below_box1 wr (.cells #[.int .i64 n, .int .i64 k] 25)) c1)
        replace hA := hA.alloc (.cells #[.int .i64 n, .int .i64 k] 25)
        replace hU := hU.alloc (.cells #[.int .i64 n, .int .i64 k] 25)
        have hb6 := then_box hb5 (.cells #[.int .i64 n, .int .i64 k] 25)
        clear hB hJ c0 c1 hb5
        rcases round_ways f n r hlt with ⟨p1, p2⟩ | ⟨p1, p2⟩
        all_goals
          refine wp_region_quiet_below (by kernel_rfl) (by kernel_rfl) ?_
          repeat (first | (go_big_quiet_want; refine quiet_load_vec _ rfl rfl (by with_reducible first | exact hA | exact hU) ?_; simp only [Act.put, List.setIfInBounds_toArray, List.set_cons_succ, List.set_cons_zero]; go_big_quiet_on) | go_big_quiet_step (
            (go_at_call 9; first | with_reducible exact Calls.ret_regrown (has_val p1 _) | with_reducible exact Calls.ret_regrown (has_any _ _ _ _))))
          refine wpQuiet_nil ?_
          intro W7 hw'
          have hb7 := then_call hb6 (below_of_regrown hw')
          clear hw' g0 g1 g2 hA hU hb6 p1 p2
          go_wp2
          exact ⟨⟨k + 1, by omega, rfl, by go_num, hb7⟩, by simp [intOf]; omega⟩
      · have hk8 : (8 : Int) ≤ (k : Int) := by omega
        replace hb := then_call hb hb5
        clear hb5 c0 c1 hU
        have hm := hm.out
        go_wp2_with fail
        refine wp_region_quiet_below (by kernel_rfl) (by kernel_rfl) ?_
        repeat (first | (go_big_quiet_want; refine quiet_load_vec _ rfl rfl (by with_reducible first | exact hA | exact hB | exact hJ) ?_; simp only [Act.put, List.setIfInBounds_toArray, List.set_cons_succ, List.set_cons_zero]; go_big_quiet_on) | go_big_quiet_step (
          (go_at_call 13; with_reducible exact Calls.ret_regrown (most_any _ _))))
        refine wpQuiet_nil ?_
        intro W7 hw'
        have hb7 := then_call hb (below_of_regrown hw')
        clear hw' hm
        go_wp2
        all_goals
          go_ret
          exact ⟨rfl, hb7⟩

end Go.Proofs.Ytmihcfjlhljmoaa
