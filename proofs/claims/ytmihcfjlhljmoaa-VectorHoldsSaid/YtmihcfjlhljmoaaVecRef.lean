/-
  The document's own answers on vectors and stamps.
-/
import Derived.Test.YtmihcfjlhljmoaaVecRest
namespace Go.Proofs.Ytmihcfjlhljmoaa
open Go.RowKit Go.Sort

theorem beq_cast_false {k : Nat} {r : Int} (h : (k : Int) ≠ r) : ((k : Int) == r) = false := beq_eq_false_iff_ne.2 h
theorem beq_cast_true (k : Nat) : ((k : Int) == (k : Int)) = true := beq_self_eq_true _

set_option maxHeartbeats 400000 in
theorem refHas_any (f : Nat → Int) (n r : Int) (w : World) :
    Calls Try.prog 10 #[.agg (V f), .agg #[.int .i64 n, .int .i64 r]] w (Ret (.bool (hasB f n r)) w) := by
  obtain ⟨W, hW, hb, -, hA, hcl, c0, c1⟩ := vs_boxes w f n r
  clear hA
  go_enter Try.func10, Try.ntmps10
  go_wp2_with fail
  clear hW
  have hcl := Lib.hid hcl
  go_loop [5] (fun i => ∃ k : Nat, k ≤ 8 ∧ i = .int .i64 k ∧ ∀ j : Nat, j < k → (j : Int) ≠ r) (fun i => 8 - (intOf i).toNat)
  case atStart => exact ⟨0, by omega, rfl, fun j hj => absurd hj (by omega)⟩
  case round =>
    obtain ⟨k, hk, rfl, hall⟩ := hrel
    have hall := Lib.hid hall
    by_cases hlt : k < 8
    · have hk0 : (0 : Int) ≤ (k : Int) := by omega
      have hk8 : (k : Int) < 8 := by omega
      by_cases hm : (k : Int) = r
      · subst hm
        have hc := hcl.out k hlt
        have he := beq_cast_true k
        have Hv := Lib.hid (hasB_in (f := f) (n := n) (replB_in hk0 hk8))
        go_wp2_with fail
        go_quiet (fail)
        go_wp2
        go_ret
        exact ⟨by rw [Hv.out]; rfl, below_drewN hb _⟩
      · have he := beq_cast_false hm
        have hm := Lib.hid hm
        go_wp2_with fail
        exact ⟨⟨k + 1, by omega, by go_num, fun j hj => by
          rcases Nat.lt_or_eq_of_le (Nat.le_of_lt_succ hj) with h | rfl
          · exact hall.out j h
          · exact hm.out⟩, by simp [intOf]; omega⟩
    · obtain rfl : k = 8 := by omega
      have Hv : Hid (hasB f n r = false) := hasB_out (by
        rw [Bool.eq_false_iff]
        intro h
        obtain ⟨j, hj, rfl⟩ := replB_true h
        exact hall.out j hj rfl)
      go_wp2
      go_ret
      exact ⟨by rw [Hv.out]; rfl, hb⟩

/-- What stands in the vector when k rounds are done. -/
structure WithAt (f : Nat → Int) (n r : Int) (w0 W : World) (k : Nat) : Prop where
  below : Below w0.heap.size w0 W
  at' : ∃ h, VAt W w0.heap.size h ∧ ∀ i, i < 8 → h i = if (i : Int) = r ∧ i < k then max (f i) n else f i
  res : VAt W (w0.heap.size + 1 + 1) (fun _ => 0)
  c0 : W.cell? ⟨w0.heap.size + 1, 0, none⟩ = some (.int .i64 n)
  c1 : W.cell? ⟨w0.heap.size + 1, 1, none⟩ = some (.int .i64 r)
theorem WithAt.drewN {f : Nat → Int} {n r : Int} {w0 W : World} {k : Nat} (H : WithAt f n r w0 W k) (m : Nat) : WithAt f n r w0 (W.drewN m) k :=
  ⟨below_drewN H.below m, H.at'.imp fun _ h => ⟨h.1.drewN m, h.2⟩, H.res.drewN m, by simpa using H.c0, by simpa using H.c1⟩
theorem WithAt.stay {f : Nat → Int} {n r : Int} {w0 W : World} {k : Nat} (H : WithAt f n r w0 W k) (hle : (k : Int) = r → ¬ f k < n) : WithAt f n r w0 W (k + 1) := by
  obtain ⟨h, hv, hh⟩ := H.at'
  refine ⟨H.below, ⟨h, hv, fun i hi => ?_⟩, H.res, H.c0, H.c1⟩
  rw [hh i hi]
  by_cases e : i = k
  · subst e
    by_cases e3 : (i : Int) = r
    · have := hle e3; rw [if_neg (by omega), if_pos (by omega)]; omega
    · rw [if_neg (by omega), if_neg (by omega)]
  · by_cases e2 : (i : Int) = r ∧ i < k
    · rw [if_pos e2, if_pos (by omega)]
    · rw [if_neg e2, if_neg (by omega)]
theorem WithAt.next {f : Nat → Int} {n r : Int} {w0 W : World} {k : Nat} (H : WithAt f n r w0 W k) (hk : k < 8) (hr : (k : Int) = r) (hlt : f k < n) : WithAt f n r w0 (W.setCell ⟨w0.heap.size, k, none⟩ (.int .i64 n)) (k + 1) := by
  obtain ⟨h, hv, hh⟩ := H.at'
  refine ⟨H.below.setCell (Nat.le_refl _) _, ⟨_, hv.set hk n, fun i hi => ?_⟩, H.res.setOther (by simp; omega) _, ?_, ?_⟩
  · unfold upd
    by_cases e : i = k
    · subst e; rw [if_pos rfl, if_pos (by omega)]; omega
    · rw [if_neg e, hh i hi]
      by_cases e2 : (i : Int) = r ∧ i < k
      · rw [if_pos e2, if_pos (by omega)]
      · rw [if_neg e2, if_neg (by omega)]
  · have := H.c0; go_simp
  · have := H.c1; go_simp

set_option maxHeartbeats 400000 in
theorem refWith_any (f : Nat → Int) (n r : Int) (w : World) :
    Calls Try.prog 12 #[.agg (V f), .agg #[.int .i64 n, .int .i64 r]] w (Ret (.agg (V (withF f n r))) w) := by
  obtain ⟨W, hW, hb, hs, hA, hR, c0, c1⟩ := vsr_boxes w f n r
  have J0 : WithAt f n r w W 0 := ⟨hb, ⟨f, hA, fun i _ => by rw [if_neg (by omega)]⟩, hR, c0, c1⟩
  rw [← hW] at J0
  clear hb hs hA hR c0 c1 hW W
  have J0 := Lib.hid J0
  go_enter Try.func12, Try.ntmps12
  go_wp2
  go_loopw [5] (fun i wr => ∃ k : Nat, k ≤ 8 ∧ i = .int .i64 k ∧ WithAt f n r w wr k) (fun i _ => 8 - (intOf i).toNat)
  case atStart => exact ⟨0, by omega, rfl, J0.out⟩
  case round =>
    obtain ⟨k, hk, rfl, J⟩ := hrel
    by_cases hlt : k < 8
    · obtain ⟨h, hv, hh⟩ := J.at'
      have c0 := J.c0
      have c1 := J.c1
      have hc := hv.cell hlt
      have hz := hv.frozen k
      have hk0 : (0 : Int) ≤ (k : Int) := by omega
      have hk8 : (k : Int) < 8 := by omega
      have ek : h k = f k := by rw [hh k hlt, if_neg (by omega)]
      rw [ek] at hc
      clear ek hh hv
      by_cases hr : (k : Int) = r
      · subst hr
        have he := beq_cast_true k
        by_cases hm : f k < n
        · have hd : decide (f k < n) = true := decide_eq_true hm
          go_wp2_with fail
          go_quiet (fail)
          go_wp2
          exact ⟨⟨k + 1, by omega, by go_num, (J.drewN nq).next hlt rfl hm⟩, by simp [intOf]; omega⟩
        · have hd : decide (f k < n) = false := decide_eq_false hm
          go_wp2_with fail
          go_quiet (fail)
          go_wp2
          exact ⟨⟨k + 1, by omega, by go_num, (J.drewN nq).stay (fun _ => by omega)⟩, by simp [intOf]; omega⟩
      · have he := beq_cast_false hr
        have hr := Lib.hid hr
        go_wp2_with fail
        go_quiet (fail)
        go_wp2
        exact ⟨⟨k + 1, by omega, by go_num, (J.drewN nq).stay (fun e => absurd e hr.out)⟩, by simp [intOf]; omega⟩
    · obtain rfl : k = 8 := by omega
      obtain ⟨h, hv, hh⟩ := J.at'
      have hR := J.res
      have hJ := Lib.hid J.below
      have e : V h = V (withF f n r) := V_congr fun i hi => by
        rw [hh i hi]
        unfold withF
        by_cases hr : replB r = true
        · obtain ⟨j, hj, rfl⟩ := replB_true hr
          rw [if_pos hr, Int.toNat_natCast]
          unfold upd
          by_cases e : i = j
          · subst e; rw [if_pos ⟨rfl, hi⟩, if_pos rfl]
          · rw [if_neg (by omega), if_neg e]
        · rw [if_neg hr, if_neg]
          rintro ⟨rfl, -⟩
          exact hr (replB_in (by omega) (by omega))
      have e := Lib.hid e
      clear J hh
      go_wp2_with (first | (refine wpList_load_row rfl 23 _ rfl w.heap.size rfl 23 _ (0, 0) _ hv Try.underlying23 rfl infoV ?_) | (refine wpList_store_row rfl 23 _ _ rfl (w.heap.size + 1 + 1) _ rfl rfl 23 _ hR infoV rfl (V_one _) ?_))
      refine bodyPost_ret (results_vec rfl _ _ _ _ rfl (hR.row _)) rfl ⟨by rw [e.out], below_setRow hJ.out (by omega) _⟩

end Go.Proofs.Ytmihcfjlhljmoaa
