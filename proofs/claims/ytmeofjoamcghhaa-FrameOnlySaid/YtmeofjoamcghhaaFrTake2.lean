/-
  Take, the document's own answer: where the length's bytes are there.
-/
import Derived.Test.YtmeofjoamcghhaaFrTake
import Derived.Deep.RegionHeld3
import Derived.IntWalk
namespace Go.Proofs.Ytmeofjoamcghhaa
open Go.RowKit Go.Sort

/-- A piece in the middle. -/
theorem BytesAt.mid {w : World} {v : Value} {l : List Nat} (h : BytesAt w v l) {a b : Nat} (hab : a ≤ b) (hb : b ≤ l.length) (hpos : 0 < l.length) :
    ∃ ad c, (∀ W, (Instr.slice 22 v (some (.int .i64 (a : Int))) (some (.int .i64 (b : Int))) none).run Try.prog W = .ok (.slice (some ad) (b - a) c) W) ∧ BytesAt w (.slice (some ad) (b - a) c) ((l.drop a).take (b - a)) := by
  obtain ⟨A, c, rfl, h2, h3, h4, h5, h6⟩ := h
  have he : Try.prog.elem 22 = 5 := by kernel_rfl
  obtain ⟨bk, off, rfl, h8, h9⟩ := h5 hpos
  refine ⟨if c = a then ⟨bk, off, none⟩ else ⟨bk, off + a, none⟩, c - a, fun W => ?_, ?_⟩
  · rw [run_slice_lh (P := Try.prog) W 22 _ l.length c (by rw [he]; exact Try.underlying22) .i64 .i64 (a : Int) (b : Int) (by omega) (by omega) (by omega), he, elemY.hs]
    simp only [Result.andThen, sliced, Int.toNat_natCast, Nat.mul_one]
    by_cases hc : c = a
    · simp [hc]
    · simp [hc, addr_at]
  · have hlen : ((l.drop a).take (b - a)).length = b - a := by simp; omega
    refine ⟨_, c - a, by rw [hlen], by rw [hlen]; omega, by unfold maxLen at *; omega, fun x hx => h4 x (List.mem_of_mem_drop (List.mem_of_mem_take hx)), fun hl => ?_, fun hh => by cases hh⟩
    rw [hlen] at hl
    rw [if_neg (by omega)]
    refine ⟨bk, off + a, rfl, h8, fun i hi => ?_⟩
    rw [hlen] at hi
    rw [Nat.add_assoc, h9 (a + i) (by omega)]
    have h10 : (l.drop a).length = l.length - a := by simp
    simp [List.getD, hi]

/-- The five bytes that tell how long a frame is, at hand. -/
theorem head_facts {w : World} {v : Value} {l : List Nat} (hv : BytesAt w v l) (hl : 6 < l.length) (h0 : l.getD 0 0 = 83) (h1 : l.getD 1 0 = 84) :
    ∃ a0 a1 a2 a3 a4 a5 a6 : Addr, ∃ d2 d3 d4 d5 d6 : Nat,
      ((∀ W, (Instr.indexAt 22 v (.int .i64 0)).run Try.prog W = .ok (.pointer (some a0)) W) ∧ w.cell? a0 = some (.int .u8 83)) ∧
      ((∀ W, (Instr.indexAt 22 v (.int .i64 1)).run Try.prog W = .ok (.pointer (some a1)) W) ∧ w.cell? a1 = some (.int .u8 84)) ∧
      ((∀ W, (Instr.indexAt 22 v (.int .i64 2)).run Try.prog W = .ok (.pointer (some a2)) W) ∧ w.cell? a2 = some (.int .u8 (d2 : Int)) ∧ a2.block < w.heap.size ∧ d2 < 256) ∧
      ((∀ W, (Instr.indexAt 22 v (.int .i64 3)).run Try.prog W = .ok (.pointer (some a3)) W) ∧ w.cell? a3 = some (.int .u8 (d3 : Int)) ∧ d3 < 256) ∧
      ((∀ W, (Instr.indexAt 22 v (.int .i64 4)).run Try.prog W = .ok (.pointer (some a4)) W) ∧ w.cell? a4 = some (.int .u8 (d4 : Int)) ∧ d4 < 256) ∧
      ((∀ W, (Instr.indexAt 22 v (.int .i64 5)).run Try.prog W = .ok (.pointer (some a5)) W) ∧ w.cell? a5 = some (.int .u8 (d5 : Int)) ∧ d5 < 256) ∧
      ((∀ W, (Instr.indexAt 22 v (.int .i64 6)).run Try.prog W = .ok (.pointer (some a6)) W) ∧ w.cell? a6 = some (.int .u8 (d6 : Int)) ∧ d6 < 256) ∧
      l.getD 2 0 = d2 ∧ bodyN l = d3 + d4 * 256 + d5 * 65536 + d6 * 16777216 := by
  obtain ⟨a0, p0, q0, _, _⟩ := hv.idxL 0 h0 (by omega)
  obtain ⟨a1, p1, q1, _, _⟩ := hv.idxL 1 h1 (by omega)
  obtain ⟨a2, p2, q2, r2, s2⟩ := hv.idxL 2 rfl (by omega)
  obtain ⟨a3, p3, q3, r3, s3⟩ := hv.idxL 3 rfl (by omega)
  obtain ⟨a4, p4, q4, r4, s4⟩ := hv.idxL 4 rfl (by omega)
  obtain ⟨a5, p5, q5, r5, s5⟩ := hv.idxL 5 rfl (by omega)
  obtain ⟨a6, p6, q6, r6, s6⟩ := hv.idxL 6 rfl (by omega)
  exact ⟨a0, a1, a2, a3, a4, a5, a6, _, _, _, _, _, ⟨p0, q0⟩, ⟨p1, q1⟩, ⟨p2, q2, r2, s2⟩, ⟨p3, q3, s3⟩, ⟨p4, q4, s4⟩, ⟨p5, q5, s5⟩, ⟨p6, q6, s6⟩, rfl, rfl⟩

set_option maxRecDepth 20000 in
set_option maxHeartbeats 2000000 in
theorem refTake_great (v : Value) (l : List Nat) (w : World) (hv : BytesAt w v l) (hl : 6 < l.length) (h0 : l.getD 0 0 = 83) (h1 : l.getD 1 0 = 84) (hN : 65536 < bodyN l) :
    Calls Try.prog 17 #[v] w (GivesF (0, [], 0, 51) w) := by
  have hlv := fun W => hv.len (ty := 3) W
  obtain ⟨a0, a1, a2, a3, a4, a5, a6, d2, d3, d4, d5, d6, ⟨p0, q0⟩, ⟨p1, q1⟩, ⟨p2, q2, _, _⟩, ⟨p3, q3, s3⟩, ⟨p4, q4, s4⟩, ⟨p5, q5, s5⟩, ⟨p6, q6, s6⟩, _, hb⟩ := head_facts hv hl h0 h1
  rw [hb] at hN
  clear hv hb h0 h1
  go_enter Try.func17, Try.ntmps17
  go_wp2
  go_quiet (fail)
  go_wp2
  refine bodyPost_ret (results_four rfl _ _ _) rfl ?_
  exact GivesF.nil (below_drewN (Below.refl _ _) _)

set_option maxRecDepth 20000 in
set_option maxHeartbeats 2000000 in
theorem refTake_more (v : Value) (l : List Nat) (w : World) (hv : BytesAt w v l) (hl : 6 < l.length) (h0 : l.getD 0 0 = 83) (h1 : l.getD 1 0 = 84) (hN : bodyN l ≤ 65536) (hM : l.length < 11 + bodyN l) :
    Calls Try.prog 17 #[v] w (GivesF (0, [], 0, 52) w) := by
  have hlv := fun W => hv.len (ty := 3) W
  obtain ⟨a0, a1, a2, a3, a4, a5, a6, d2, d3, d4, d5, d6, ⟨p0, q0⟩, ⟨p1, q1⟩, ⟨p2, q2, _, _⟩, ⟨p3, q3, s3⟩, ⟨p4, q4, s4⟩, ⟨p5, q5, s5⟩, ⟨p6, q6, s6⟩, _, hb⟩ := head_facts hv hl h0 h1
  rw [hb] at hN hM
  clear hv hb h0 h1
  go_enter Try.func17, Try.ntmps17
  go_wp2
  go_quiet (fail)
  go_wp2
  refine bodyPost_ret (results_four rfl _ _ _) rfl ?_
  exact GivesF.nil (below_drewN (Below.refl _ _) _)

set_option maxRecDepth 20000 in
set_option maxHeartbeats 4000000 in
theorem refTake_full (v : Value) (l : List Nat) (w : World) (hv : BytesAt w v l) (hl : 6 < l.length) (h0 : l.getD 0 0 = 83) (h1 : l.getD 1 0 = 84) (hN : bodyN l ≤ 65536) (hM : 11 + bodyN l ≤ l.length) :
    Calls Try.prog 17 #[v] w (GivesF (if frameL (l.getD 2 0) ((l.drop 11).take (bodyN l)) = l.take (11 + bodyN l) then (l.getD 2 0, (l.drop 11).take (bodyN l), 11 + bodyN l, 0) else (0, [], 0, 51)) w) := by
  have hlv := fun W => hv.len (ty := 3) W
  have hll : (l.length : Int) ≤ 9223372036854775807 := by have := hv.row.le; rwa [bvals_length] at this
  obtain ⟨a0, a1, a2, a3, a4, a5, a6, d2, d3, d4, d5, d6, ⟨p0, q0⟩, ⟨p1, q1⟩, ⟨p2, q2, r2, s2⟩, ⟨p3, q3, s3⟩, ⟨p4, q4, s4⟩, ⟨p5, q5, s5⟩, ⟨p6, q6, s6⟩, hd2, hb⟩ := head_facts hv hl h0 h1
  obtain ⟨N, hNN⟩ : ∃ N, bodyN l = N := ⟨_, rfl⟩
  rw [hNN] at hN hM hb ⊢
  rw [hd2]
  obtain ⟨ad, c, hs1, hb1⟩ := hv.mid (a := 11) (b := 11 + N) (by omega) hM (by omega)
  have e1 : 11 + N - 11 = N := by omega
  rw [e1] at hs1 hb1
  have hs1 : ∀ W, (Instr.slice 22 v (some (.int .i64 11)) (some (.int .i64 (11 + (N : Int)))) none).run Try.prog W = .ok (.slice (some ad) N c) W := fun W => by have := hs1 W; rwa [Int.natCast_add] at this
  obtain ⟨s3', hs3, hb3⟩ := hv.first (k := 11 + N) hM
  have hs3 : ∀ W, (Instr.slice 22 v none (some (.int .i64 (11 + (N : Int)))) none).run Try.prog W = .ok s3' W := fun W => by have := hs3 W; rwa [Int.natCast_add] at this
  obtain ⟨B, hB⟩ : ∃ B, (l.drop 11).take N = B := ⟨_, rfl⟩
  obtain ⟨T, hT⟩ : ∃ T, l.take (11 + N) = T := ⟨_, rfl⟩
  rw [hB] at hb1 ⊢
  rw [hT] at hb3 ⊢
  have hBl : B.length = N := by rw [← hB]; simp; omega
  have hsum : (d3 : Int) + d4 * 256 + d5 * 65536 + d6 * 16777216 = (N : Int) := by omega
  have hb1 := hide hb1
  have hb3 := hide hb3
  have hBb := hide hb1.out.byte
  have hTb := hide hb3.out.byte
  have hd2b := s2
  have hfb := hide (frameL_byte hd2b hBb.out)
  obtain ⟨F, hF⟩ : ∃ F, frameL d2 B = F := ⟨_, rfl⟩
  rw [hF] at hfb ⊢
  have cW : Hid (∀ W, BytesAt W (.slice (some ad) N c) B → Calls Try.prog 15 #[.int .u8 d2, .slice (some ad) N c] W fun e w' => ∃ v', e = .returned (.tuple #[v', .int .i64 0]) ∧ BytesAt w' v' F ∧ Below W.heap.size W w') :=
    hide (fun W h => (refWrap_any _ d2 B W hd2b h (by omega)).mono fun e w' ⟨v', h1, h2, h3⟩ => ⟨v', h1, by rw [hF] at h2; exact h2.bytes hfb.out, h3⟩)
  have hF := hide hF
  clear hv hb h0 h1 hd2 hNN e1 hB hT
  by_cases hq : F = T
  · rw [if_pos hq]
    have hqq : ((strB F).toList == (strB T).toList) = true := by rw [strB_beq hfb.out hTb.out]; exact decide_eq_true hq
    clear hq
    obtain ⟨S, hS⟩ : ∃ S, strB F = S := ⟨_, rfl⟩
    obtain ⟨U, hU⟩ : ∃ U, strB T = U := ⟨_, rfl⟩
    rw [hS, hU] at hqq
    have hS := hide hS
    have hU := hide hU
    go_enter Try.func17, Try.ntmps17
    go_wp2
    go_quiet (fail)
    clear hsum
    go_wp2_with (fail)
    have hz0 : (0 : Int) ≤ 11 + (N : Int) := by omega
    have hz3 : IntKind.i64.wrap (11 + (N : Int)) = 11 + (N : Int) := IntWalk.i64_in _ (by omega)
    go_region_held3 (fun w' => w'.cell? a2 = some (.int .u8 (d2 : Int))) (first | go_keep | assumption) ((go_at_call 15; refine (cW.out _ (by exact hb1.out)).mono ?_; rintro e' w1 ⟨v1, rfl, ho, hb⟩; have k1 : Below w.heap.size w w1 := then_call (below_drewN (Below.refl _ _) _) hb; have q2' : w1.cell? a2 = some (.int .u8 (d2 : Int)) := (hb.cell (p := a2) r2).trans q2))
    have hcvF : ∀ k, (convert 22 9 v1).run Try.prog (w1.drewN k) = .ok (.string S) (w1.drewN k) := fun k => by rw [← hS.out]; exact run_bytes (w := w1.drewN k) ho
    have hT1 : BytesAt w1 s3' T := hb3.out.below k1
    have hcvT : ∀ k, (convert 22 9 s3').run Try.prog (w1.drewN k) = .ok (.string U) (w1.drewN k) := fun k => by rw [← hU.out]; exact run_bytes (w := w1.drewN k) hT1
    have hb1' := hide (hb1.out.below k1)
    clear hb ho
    go_wp2_with (fail)
    go_quiet (fail)
    go_wp2_with (fail)
    clear hcvF hcvT
    have r2' : a2.block < w1.heap.size := Nat.lt_of_lt_of_le r2 k1.size
    have hNB : (bvals B).length = N := by rw [bvals_length]; exact hBl
    go_region_held3 (fun w' => w'.cell? a2 = some (.int .u8 (d2 : Int))) (first | go_keep | assumption) ((refine step_append_row elemY (by rfl) (.tmp 115) (.tmp 119) (by rfl) w1.heap.size (by rfl) (own_made' w1 _) (by rfl) (by exact (hb1'.out.below (below_box1 w1 _)).row) (bvals_one B) (by simp [hNB]; omega) (by simp) ?_; intro v2 w2 o2 hb2; have q3 : w2.cell? a2 = some (.int .u8 (d2 : Int)) := (by rw [hb2.cell (p := a2) r2']; go_keep)))
    go_wp2
    refine bodyPost_ret (results_four rfl _ _ _) rfl ?_
    have hown : Own w2 w1.heap.size v2 B := by
      have := o2
      simpa [Own, OwnRow, bvals] using this
    exact ⟨v2, by simp [Int.natCast_add], hown.lower k1.size, then_call k1 (((below_drewN (Below.refl _ w1) _).alloc (Nat.le_refl _) _).trans hb2)⟩
  · rw [if_neg hq]
    have hqq : ((strB F).toList == (strB T).toList) = false := by rw [strB_beq hfb.out hTb.out]; exact decide_eq_false hq
    clear hq
    obtain ⟨S, hS⟩ : ∃ S, strB F = S := ⟨_, rfl⟩
    obtain ⟨U, hU⟩ : ∃ U, strB T = U := ⟨_, rfl⟩
    rw [hS, hU] at hqq
    have hS := hide hS
    have hU := hide hU
    go_enter Try.func17, Try.ntmps17
    go_wp2
    go_quiet (fail)
    clear hsum
    go_wp2_with (fail)
    have hz0 : (0 : Int) ≤ 11 + (N : Int) := by omega
    have hz3 : IntKind.i64.wrap (11 + (N : Int)) = 11 + (N : Int) := IntWalk.i64_in _ (by omega)
    go_region_held3 (fun w' => w'.cell? a2 = some (.int .u8 (d2 : Int))) (first | go_keep | assumption) ((go_at_call 15; refine (cW.out _ (by exact hb1.out)).mono ?_; rintro e' w1 ⟨v1, rfl, ho, hb⟩; have k1 : Below w.heap.size w w1 := then_call (below_drewN (Below.refl _ _) _) hb; have q2' : w1.cell? a2 = some (.int .u8 (d2 : Int)) := (hb.cell (p := a2) r2).trans q2))
    have hcvF : ∀ k, (convert 22 9 v1).run Try.prog (w1.drewN k) = .ok (.string S) (w1.drewN k) := fun k => by rw [← hS.out]; exact run_bytes (w := w1.drewN k) ho
    have hT1 : BytesAt w1 s3' T := hb3.out.below k1
    have hcvT : ∀ k, (convert 22 9 s3').run Try.prog (w1.drewN k) = .ok (.string U) (w1.drewN k) := fun k => by rw [← hU.out]; exact run_bytes (w := w1.drewN k) hT1
    have hb1' := hide (hb1.out.below k1)
    clear hb ho
    go_wp2_with (fail)
    go_quiet (fail)
    go_wp2
    refine bodyPost_ret (results_four rfl _ _ _) rfl ?_
    exact GivesF.nil (below_drewN k1 _)

theorem refTakeF_any (v : Value) (l : List Nat) (w : World) (hv : BytesAt w v l) : Calls Try.prog 17 #[v] w (GivesF (takeF l) w) := by
  have hr : ∀ {a b : Nat × List Nat × Nat × Nat}, a = b → Calls Try.prog 17 #[v] w (GivesF b w) → Calls Try.prog 17 #[v] w (GivesF a w) := fun h c => by rw [h]; exact c
  by_cases c0 : l.length = 0
  · refine hr ?_ (refTake_0 v l w hv (by omega))
    unfold takeF; rw [if_neg (by omega), if_pos (by omega), if_neg (by omega)]
  by_cases b0 : l.getD 0 0 ≠ 83
  · refine hr ?_ (refTake_no0 v l w hv (by omega) _ rfl b0)
    unfold takeF; rw [if_pos (.inl ⟨by omega, b0⟩)]
  have b0 : l.getD 0 0 = 83 := by omega
  by_cases c1 : l.length = 1
  · refine hr ?_ (refTake_1 v l w hv (by omega) (by omega) b0)
    unfold takeF; rw [if_neg (by omega), if_pos (by omega), if_neg (by omega)]
  by_cases b1 : l.getD 1 0 ≠ 84
  · refine hr ?_ (refTake_no1 v l w hv (by omega) b0 _ rfl b1)
    unfold takeF; rw [if_pos (.inr ⟨by omega, b1⟩)]
  have b1 : l.getD 1 0 = 84 := by omega
  have hno : ¬ ((0 < l.length ∧ l.getD 0 0 ≠ 83) ∨ (1 < l.length ∧ l.getD 1 0 ≠ 84)) := by omega
  by_cases c5 : l.length ≤ 5
  · refine hr ?_ (refTake_5 v l w hv (by omega) (by omega) b0 b1)
    unfold takeF; rw [if_neg hno, if_pos (by omega), if_neg (by omega)]
  by_cases c6 : l.length = 6
  · have hlt : l.length < 7 := by omega
    by_cases b5 : 1 < l.getD 5 0
    · refine hr ?_ (refTake_6a v l w hv (by omega) (by omega) b0 b1 _ rfl b5)
      unfold takeF; rw [if_neg hno, if_pos hlt, if_pos ⟨by omega, .inl b5⟩]
    by_cases b5' : l.getD 5 0 = 1
    · by_cases b3 : 0 < l.getD 3 0
      · refine hr ?_ (refTake_6b v l w hv (by omega) (by omega) b0 b1 b5' _ rfl b3)
        unfold takeF; rw [if_neg hno, if_pos hlt, if_pos ⟨by omega, .inr ⟨b5', .inl b3⟩⟩]
      by_cases b4 : 0 < l.getD 4 0
      · refine hr ?_ (refTake_6c v l w hv (by omega) (by omega) b0 b1 b5' (by omega) _ rfl b4)
        unfold takeF; rw [if_neg hno, if_pos hlt, if_pos ⟨by omega, .inr ⟨b5', .inr b4⟩⟩]
      · refine hr ?_ (refTake_6d v l w hv (by omega) (by omega) b0 b1 b5' (by omega) (by omega))
        unfold takeF; rw [if_neg hno, if_pos hlt, if_neg (by omega)]
    · refine hr ?_ (refTake_6e v l w hv (by omega) (by omega) b0 b1 (by omega))
      unfold takeF; rw [if_neg hno, if_pos hlt, if_neg (by omega)]
  have hlt : ¬ l.length < 7 := by omega
  by_cases cN : 65536 < bodyN l
  · refine hr ?_ (refTake_great v l w hv (by omega) b0 b1 cN)
    unfold takeF; rw [if_neg hno, if_neg hlt, if_pos cN]
  by_cases cM : l.length < 11 + bodyN l
  · refine hr ?_ (refTake_more v l w hv (by omega) b0 b1 (by omega) cM)
    unfold takeF; rw [if_neg hno, if_neg hlt, if_neg cN, if_pos cM]
  · refine hr ?_ (refTake_full v l w hv (by omega) b0 b1 (by omega) (by omega))
    unfold takeF; rw [if_neg hno, if_neg hlt, if_neg cN, if_neg cM]
end Go.Proofs.Ytmeofjoamcghhaa
