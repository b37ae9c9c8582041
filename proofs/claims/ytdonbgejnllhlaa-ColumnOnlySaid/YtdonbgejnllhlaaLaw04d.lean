/-
  ColumnOnly, walked.
-/
import Derived.Test.YtdonbgejnllhlaaLaw04a
import Derived.Deep.RegionHeld3
import Derived.Deep.QuietTactic
import Derived.BigQuiet
import Derived.Outline
namespace Go.Proofs.Ytdonbgejnllhlaa
open Go.RowKit Go.Sort

set_option maxRecDepth 20000 in
set_option maxHeartbeats 1000000 in
theorem columnOnly_long (w : World) (y : Value) (b : List Nat) (n : Int) (hy : BytesAt w y b) (h : 2000 < b.length) :
    Calls Try.prog 6 #[y, .int .i64 n] w (Ret (.bool true) w) := by
  have hly := fun W => hy.len (ty := 3) W
  clear hy
  go_enter Try.func6, Try.ntmps6
  go_wp2_with (go_at_call 9; refine (alive4_any _).mono ?_; rintro e' w5 ⟨rfl, hb5⟩)
  go_ret
  exact ⟨rfl, hb5⟩

/-- What is known of a column of integers that was taken: the cut that it was taken from. -/
theorem runs_cut {w : World} {y : Value} {b : List Nat} {n : Int} {d : List Int} {a : Nat} (hy : BytesAt w y b) (hg : GivenR b n d a 0) :
    n = (d.length : Nat) ∧ d.length ≤ 65536 ∧ (∀ x ∈ d, InR x) ∧ a ≤ b.length ∧ ∃ s, (∀ W, (Instr.slice 26 y none (some (.int .i64 (a : Int))) none).run Try.prog W = .ok s W) ∧ BytesAt w s (bytesR d) := by
  rcases hg.ways with ⟨_, h0, h1, ⟨h2, h3, h4⟩, h5⟩ | ⟨h, _⟩
  · have h6 := h4.length_le
    obtain ⟨s, h7, h8⟩ := hy.first (k := a) (by omega)
    refine ⟨by omega, by omega, h3, by omega, s, h7, ?_⟩
    obtain ⟨t, ht⟩ := h4
    have : b.take a = bytesR d := by rw [← ht, h5]; simp
    rwa [this] at h8
  · omega
theorem truths_cut {w : World} {y : Value} {b : List Nat} {n : Int} {d : List Bool} {a : Nat} (hy : BytesAt w y b) (hg : GivenB b n d a 0) :
    n = (d.length : Nat) ∧ d.length ≤ 65536 ∧ a ≤ b.length ∧ ∃ s, (∀ W, (Instr.slice 26 y none (some (.int .i64 (a : Int))) none).run Try.prog W = .ok s W) ∧ BytesAt w s (bytesB d) := by
  rcases hg.ways with ⟨_, h0, h1, ⟨h2, h4⟩, h5⟩ | ⟨h, _⟩
  · have h6 := h4.length_le
    obtain ⟨s, h7, h8⟩ := hy.first (k := a) (by omega)
    refine ⟨by omega, by omega, by omega, s, h7, ?_⟩
    obtain ⟨t, ht⟩ := h4
    have : b.take a = bytesB d := by rw [← ht, h5]; simp
    rwa [this] at h8
  · omega

theorem same_drew {w w1 : World} {v u : Value} {l : List Nat} (hv : BytesAt w1 v l) (hu : Hid (BytesAt w u l)) (hb : Below w.drew.heap.size w.drew w1) :
    Hid (Calls Try.prog 10 #[v, u] w1 fun e w' => e = .returned (.bool true) ∧ w1 = w') :=
  hide (same_true hv (BytesAt.below (w := w.drew) hu.out hb))

set_option maxRecDepth 20000 in
set_option maxHeartbeats 4000000 in
theorem columnOnly_yes (w : World) (y : Value) (b : List Nat) (hy : BytesAt w y b) (hb2 : b.length ≤ 2000) (d : List Int) (a : Nat) (t : List Bool) (q : Nat) (hdt : t.length = d.length) (hg : GivenR b (d.length : Nat) d a 0) (hgB : GivenB b (d.length : Nat) t q 0) :
    Calls Try.prog 6 #[y, .int .i64 (d.length : Nat)] w (Ret (.bool true) w) := by
  have hly := fun W => hy.len (ty := 3) W
  obtain ⟨_, hd65, hdr, hab, s1, hs1, hc1⟩ := runs_cut hy hg
  obtain ⟨_, ht65, hqb, s3, hs3, hc3⟩ := truths_cut hy hgB
  have hsr := sum_in 0 d
  have hsl := sum_len 0 d
  have hds := delta_sum 0 d hdr
  have hy := hide hy
  have hg := hide hg
  have hgB := hide hgB
  have hc1 := hide hc1
  have hc3 := hide hc3
  obtain ⟨N, hN⟩ : ∃ N, d.length = N := ⟨_, rfl⟩
  rw [hN] at hdt hg hgB hd65 ⊢
  have cR : Hid (∀ W v, RowAt W v (ints d) → Calls Try.prog 11 #[v] W fun e w' => ∃ v', e = .returned v' ∧ BytesAt w' v' (bytesR d) ∧ Below W.heap.size W w') :=
    hide fun W v h => (cRuns_any v d W h hdr (by omega)).mono fun e w' ⟨v', h1, h2, h3⟩ => ⟨v', h1, h2.bytes (bytesR_byte d), h3⟩
  have cD : Hid (∀ W v, RowAt W v (ints (sumL 0 d)) → Calls Try.prog 13 #[v] W fun e w' => ∃ v', e = .returned v' ∧ BytesAt w' v' (bytesR d) ∧ Below W.heap.size W w') :=
    hide fun W v h => (cDeltas_any v (sumL 0 d) W h hsr (by omega)).mono fun e w' ⟨v', h1, h2, h3⟩ => ⟨v', h1, by rw [hds] at h2; exact h2.bytes (bytesR_byte d), h3⟩
  have cB : Hid (∀ W v, RowAt W v (truths t) → Calls Try.prog 15 #[v] W fun e w' => ∃ v', e = .returned v' ∧ BytesAt w' v' (bytesB t) ∧ Below W.heap.size W w') :=
    hide fun W v h => (cBools_any v t W h (by omega)).mono fun e w' ⟨v', h1, h2, h3⟩ => ⟨v', h1, h2.bytes (bytesB_byte t), h3⟩
  rw [hN] at hsl
  have hN := hide hN
  have hsl := hide hsl
  have hdt := hide hdt
  clear hds hsr hdr ht65
  go_enter Try.func6, Try.ntmps6
  go_wp2_with (first
    | (go_at_call 18; refine (cTakeRuns_given hy.out hg.out).mono ?_; rintro e' w1 ⟨v1, rfl, ho, hb⟩; have k1 := hb; have hy := keepB hy hb; have hc1 := keepB hc1 hb; have hc3 := keepB hc3 hb; have r1 := hide ho.row; have hl1 : ∀ W, (Builtin.len_ #[22] 3 #[v1]).run Try.prog W = .ok (.int .i64 (N : Nat)) W := fun W => (by have := IntsAt.len (l := d) ho.row (ty := 3) W; rwa [hN.out] at this); clear ho hb)
    | (go_at_call 20; refine (cTakeDeltas_given hy.out hg.out).mono ?_; rintro e' w2 ⟨v2, rfl, ho, hb⟩; have k2 := then_call k1 hb; have hy := keepB hy hb; have hc1 := keepB hc1 hb; have hc3 := keepB hc3 hb; have r1 := keepR r1 hb; have r2 := hide ho.row; have hl2 : ∀ W, (Builtin.len_ #[22] 3 #[v2]).run Try.prog W = .ok (.int .i64 (N : Nat)) W := fun W => (by have := IntsAt.len (l := sumL 0 d) ho.row (ty := 3) W; rwa [hsl.out] at this); clear ho hb)
    | (go_at_call 22; refine (cTakeBools_given hy.out hgB.out).mono ?_; rintro e' w3 ⟨v3, rfl, ho, hb⟩; have k3 := then_call k2 hb; have hc1 := keepB hc1 hb; have hc3 := keepB hc3 hb; have r1 := keepR r1 hb; have r2 := keepR r2 hb; have r3 := hide ho.row; have hl3 : ∀ W, (Builtin.len_ #[23] 3 #[v3]).run Try.prog W = .ok (.int .i64 (N : Nat)) W := fun W => (by have := TruthsAt.len (l := t) ho.row (ty := 3) W; rwa [hdt.out] at this); clear ho hb))
  go_region_held3 (fun _ => True) (trivial) ((first
    | (go_at_call 11; refine (cR.out _ _ r1.out.drew).mono ?_; rintro e' w4 ⟨v4, rfl, ho, hb⟩; have k4 : Below w.heap.size w w4 := then_call (Below.drew k3) hb; have hs := same_drew ho hc1 hb; have hc1 : Hid (BytesAt w4 s1 (bytesR d)) := hide (BytesAt.below (w := w3.drew) hc1.out hb); have hc3 : Hid (BytesAt w4 s3 (bytesB t)) := hide (BytesAt.below (w := w3.drew) hc3.out hb); have r2 : Hid (RowAt w4 v2 (ints (sumL 0 d))) := hide (RowAt.below (w := w3.drew) r2.out hb); have r3 : Hid (RowAt w4 v3 (truths t)) := hide (RowAt.below (w := w3.drew) r3.out hb); clear ho hb)
    | (go_at_call 10; refine hs.out.mono ?_; rintro e' w5 ⟨rfl, rfl⟩; clear hs)))
  go_wp2_with (fail)
  go_region_held3 (fun _ => True) (trivial) ((first
    | (go_at_call 13; refine (cD.out _ _ r2.out.drew).mono ?_; rintro e' w5 ⟨v5, rfl, ho, hb⟩; have k5 : Below w.heap.size w w5 := then_call (Below.drew k4) hb; have hs := same_drew ho hc1 hb; have hc3 : Hid (BytesAt w5 s3 (bytesB t)) := hide (BytesAt.below (w := w4.drew) hc3.out hb); have r3 : Hid (RowAt w5 v3 (truths t)) := hide (RowAt.below (w := w4.drew) r3.out hb); clear ho hb)
    | (go_at_call 10; refine hs.out.mono ?_; rintro e' w6 ⟨rfl, rfl⟩; clear hs)))
  go_wp2_with (fail)
  go_region_held3 (fun _ => True) (trivial) ((first
    | (go_at_call 15; refine (cB.out _ _ r3.out.drew).mono ?_; rintro e' w6 ⟨v6, rfl, ho, hb⟩; have k6 : Below w.heap.size w w6 := then_call (Below.drew k5) hb; have hs := same_drew ho hc3 hb; clear ho hb)
    | (go_at_call 10; refine hs.out.mono ?_; rintro e' w7 ⟨rfl, rfl⟩; clear hs)))
  go_wp2_with (go_at_call 9; refine (alive4_any _).mono ?_; rintro e' w10 ⟨rfl, hb10⟩)
  go_ret
  exact ⟨rfl, then_call k6 hb10⟩
end Go.Proofs.Ytdonbgejnllhlaa
