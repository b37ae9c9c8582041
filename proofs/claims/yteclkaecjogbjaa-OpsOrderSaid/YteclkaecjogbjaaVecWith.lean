/-
  A vector with a stamp more: what vector.With hands back.
-/
import Derived.Test.YteclkaecjogbjaaVector
namespace Go.Proofs.Yteclkaecjogbjaa
open Go.RowKit Go.Sort

theorem below_drew1 {B : Nat} {a w : World} (h : Below B a w) : Below B a w.drew := ⟨h.os, h.tape, h.output, h.size, h.block⟩
theorem vsr_boxes (w : World) (f : Nat → Int) (n r : Int) : ∃ W, ((w.alloc (.cells (V f) 25)).alloc (.cells #[.int .i64 n, .int .i64 r] 23)).alloc (.cells #[.int .i64 0, .int .i64 0, .int .i64 0, .int .i64 0, .int .i64 0, .int .i64 0, .int .i64 0, .int .i64 0] 25) = W ∧ Below w.heap.size w W ∧ W.heap.size = w.heap.size + 3 ∧ VAt W w.heap.size f ∧ VAt W (w.heap.size + 1 + 1) (fun _ => 0) ∧ W.cell? ⟨w.heap.size + 1, 0, none⟩ = some (.int .i64 n) ∧ W.cell? ⟨w.heap.size + 1, 1, none⟩ = some (.int .i64 r) := by
  refine ⟨_, rfl, (below_alloc2 _ _ _).alloc (by simp; omega) _, by simp, ((VAt.new w f).alloc _).alloc _, ?_, by go_simp, by go_simp⟩
  have h := VAt.new ((w.alloc (.cells (V f) 25)).alloc (.cells #[.int .i64 n, .int .i64 r] 23)) (fun _ => 0)
  rw [show ((w.alloc (.cells (V f) 25)).alloc (.cells #[.int .i64 n, .int .i64 r] 23)).heap.size = w.heap.size + 1 + 1 from by simp] at h
  exact h

/-- The vector with the stamp. -/
def withF (f : Nat → Int) (n r : Int) : Nat → Int := if replB r = true then upd f r.toNat (max (f r.toNat) n) else f
theorem withF_in {f : Nat → Int} {n : Int} {k : Nat} (h : replB (k : Int) = true) : withF f n k = upd f k (max (f k) n) := by unfold withF; rw [if_pos h, Int.toNat_natCast]
theorem withF_out {f : Nat → Int} {n r : Int} (h : replB r = false) : withF f n r = f := by unfold withF; rw [h]; rfl

set_option maxHeartbeats 400000 in
theorem with_any (f : Nat → Int) (n r : Int) (w : World) :
    Calls Try.prog 21 #[.agg (V f), .agg #[.int .i64 n, .int .i64 r]] w (Ret (.agg (V (withF f n r))) w) := by
  cases h : replB r with
  | true =>
    obtain ⟨k, hk, rfl⟩ := replB_true h
    have Hx : (f k < n ∧ Hid (withF f n k = upd f k n)) ∨ (¬ f k < n ∧ Hid (withF f n k = upd f k (f k))) := by
      by_cases hlt : f k < n
      · exact .inl ⟨hlt, show _ = _ by rw [withF_in h, Int.max_eq_right (by omega)]⟩
      · exact .inr ⟨hlt, show _ = _ by rw [withF_in h, Int.max_eq_left (by omega)]⟩
    go_enter Try.func21, Try.ntmps21
    go_wp2_with fail
    refine (counts_any _ _).mono ?_
    rintro e w' ⟨rfl, rfl⟩
    rw [h]
    obtain ⟨W, hW, hb, hs, hA, hR, c0, c1⟩ := vsr_boxes w f n k
    rw [hW]
    clear hW
    have hc := hA.cell hk
    have hz := hA.frozen k
    have hk0 : (0 : Int) ≤ (k : Int) := by omega
    have hk8 : (k : Int) < 8 := by omega
    have hA := Lib.hid hA
    have hR := Lib.hid hR
    rcases Hx with ⟨hlt, Hv⟩ | ⟨hlt, Hv⟩
    all_goals
      go_wp2_with fail
      refine still_tail 10 (by kernel_rfl) (by kernel_rfl) ?_
      simp only [List.take_succ_cons, List.take_zero, List.drop_succ_cons, List.drop_zero]
      repeat (still_step)
      refine wpStill_nil ?_
      go_wp2_with (first | (refine wpList_load_row rfl 25 _ rfl w.heap.size rfl 25 _ (0, 0) _ (hA.out.set hk _).drew Try.underlying25 rfl infoV ?_) | (refine wpList_store_row rfl 25 _ _ rfl (w.heap.size + 1 + 1) _ rfl rfl 25 _ (hR.out.setOther (by simp; omega) _).drew infoV rfl (V_one _) ?_))
      refine bodyPost_ret (results_vec rfl _ _ _ _ rfl ((hR.out.setOther (by simp; omega) _).drew.row _)) rfl ⟨by rw [Hv.out], below_setRow (below_drew1 (hb.setCell (Nat.le_refl _) _)) (by omega) _⟩
  | false =>
    have Hv := Lib.hid (withF_out (f := f) (n := n) h)
    go_enter Try.func21, Try.ntmps21
    go_wp2_with fail
    refine (counts_any _ _).mono ?_
    rintro e w' ⟨rfl, rfl⟩
    rw [h]
    obtain ⟨W, hW, hb, hs, hA, hR, c0, c1⟩ := vsr_boxes w f n r
    rw [hW]
    clear hW
    go_wp2_with (first | (refine wpList_load_row rfl 25 _ rfl w.heap.size rfl 25 _ (0, 0) _ hA Try.underlying25 rfl infoV ?_) | (refine wpList_store_row rfl 25 _ _ rfl (w.heap.size + 1 + 1) _ rfl rfl 25 _ hR infoV rfl (V_one _) ?_))
    refine bodyPost_ret (results_vec rfl _ _ _ _ rfl (hR.row _)) rfl ⟨by rw [Hv.out], below_setRow hb (by omega) _⟩
end Go.Proofs.Yteclkaecjogbjaa
