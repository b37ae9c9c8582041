/-
  ColumnOnly, walked: the cases where one of the takers gives nothing.
-/
import Derived.Test.YtdonbgejnllhlaaLaw04d
namespace Go.Proofs.Ytdonbgejnllhlaa
open Go.RowKit Go.Sort

theorem same_world {W w1 : World} {v u : Value} {l : List Nat} (hb : Below W.heap.size W w1) (hu : BytesAt W u l) (hv : BytesAt w1 v l) :
    Hid (Calls Try.prog 10 #[v, u] w1 fun e w' => e = .returned (.bool true) ∧ w1 = w') :=
  hide (same_true hv (hu.below hb))

theorem then_callN {w W w' : World} {k : Nat} (h : Below w.heap.size w W) (hb : Below (W.drewN k).heap.size (W.drewN k) w') : Below w.heap.size w w' := then_call (below_drewN h k) hb
theorem then_callD {w W w' : World} {k : Nat} (h : Below w.heap.size w W) (hb : Below (W.drewN k).drew.heap.size (W.drewN k).drew w') : Below w.heap.size w w' := then_call (Below.drew (below_drewN h k)) hb

set_option maxRecDepth 20000 in
set_option maxHeartbeats 2000000 in
theorem columnOnly_none (w : World) (y : Value) (b : List Nat) (n : Int) (hy : BytesAt w y b) (hb2 : b.length ≤ 2000) (e u : Nat) (he : 1 ≤ e) (hu : 1 ≤ u) (hg : GivenR b n [] 0 e) (hgB : GivenB b n [] 0 u) :
    Calls Try.prog 6 #[y, .int .i64 n] w (Ret (.bool true) w) := by
  have hly := fun W => hy.len (ty := 3) W
  have hy := hide hy
  have hg := hide hg
  have hgB := hide hgB
  have hne : ((e : Int) != 0) = true := bne_iff_ne.2 (by omega)
  have hne2 : ((e : Int) == 0) = false := beq_false_of_ne (by omega)
  have hnu : ((u : Int) != 0) = true := bne_iff_ne.2 (by omega)
  go_enter Try.func6, Try.ntmps6
  go_wp2_with (first
    | (go_at_call 18; refine (cTakeRuns_given hy.out hg.out).mono ?_; rintro e' w1 ⟨v1, rfl, ho, hb⟩; have k1 := hb; have hy := keepB hy hb; have hl1 : ∀ W, (Builtin.len_ #[22] 3 #[v1]).run Try.prog W = .ok (.int .i64 0) W := fun W => (IntsAt.len (l := []) ho.row (ty := 3) W); clear ho hb)
    | (go_at_call 20; refine (cTakeDeltas_given hy.out hg.out).mono ?_; rintro e' w2 ⟨v2, rfl, ho, hb⟩; have k2 := then_call k1 hb; have hy := keepB hy hb; clear ho hb)
    | (go_at_call 22; refine (cTakeBools_given hy.out hgB.out).mono ?_; rintro e' w3 ⟨v3, rfl, ho, hb⟩; have k3 := then_call k2 hb; clear ho hb))
  go_quiet (fail)
  go_wp2_with (fail)
  go_quiet (fail)
  go_wp2_with (fail)
  go_quiet (fail)
  go_wp2_with (go_at_call 9; refine (alive4_any _).mono ?_; rintro e' w10 ⟨rfl, hb10⟩)
  go_ret
  exact ⟨rfl, then_callN k3 hb10⟩

set_option maxRecDepth 20000 in
set_option maxHeartbeats 4000000 in
theorem columnOnly_right (w : World) (y : Value) (b : List Nat) (hy : BytesAt w y b) (hb2 : b.length ≤ 2000) (e : Nat) (t : List Bool) (q : Nat) (he : 1 ≤ e) (hg : GivenR b (t.length : Nat) [] 0 e) (hgB : GivenB b (t.length : Nat) t q 0) :
    Calls Try.prog 6 #[y, .int .i64 (t.length : Nat)] w (Ret (.bool true) w) := by
  have hly := fun W => hy.len (ty := 3) W
  obtain ⟨_, ht65, hqb, s3, hs3, hc3⟩ := truths_cut hy hgB
  have hy := hide hy
  have hg := hide hg
  have hgB := hide hgB
  have hc3 := hide hc3
  have hne : ((e : Int) != 0) = true := bne_iff_ne.2 (by omega)
  have hne2 : ((e : Int) == 0) = false := beq_false_of_ne (by omega)
  have cB : Hid (∀ W v, RowAt W v (truths t) → Calls Try.prog 15 #[v] W fun e w' => ∃ v', e = .returned v' ∧ BytesAt w' v' (bytesB t) ∧ Below W.heap.size W w') :=
    hide fun W v h => (cBools_any v t W h (by omega)).mono fun e w' ⟨v', h1, h2, h3⟩ => ⟨v', h1, h2.bytes (bytesB_byte t), h3⟩
  go_enter Try.func6, Try.ntmps6
  go_wp2_with (first
    | (go_at_call 18; refine (cTakeRuns_given hy.out hg.out).mono ?_; rintro e' w1 ⟨v1, rfl, ho, hb⟩; have k1 := hb; have hy := keepB hy hb; have hc3 := keepB hc3 hb; have hl1 : ∀ W, (Builtin.len_ #[22] 3 #[v1]).run Try.prog W = .ok (.int .i64 0) W := fun W => (IntsAt.len (l := []) ho.row (ty := 3) W); clear ho hb)
    | (go_at_call 20; refine (cTakeDeltas_given hy.out hg.out).mono ?_; rintro e' w2 ⟨v2, rfl, ho, hb⟩; have k2 := then_call k1 hb; have hy := keepB hy hb; have hc3 := keepB hc3 hb; clear ho hb)
    | (go_at_call 22; refine (cTakeBools_given hy.out hgB.out).mono ?_; rintro e' w3 ⟨v3, rfl, ho, hb⟩; have k3 := then_call k2 hb; have hc3 := keepB hc3 hb; have r3 := hide ho.row; have hl3 : ∀ W, (Builtin.len_ #[23] 3 #[v3]).run Try.prog W = .ok (.int .i64 (t.length : Nat)) W := fun W => (TruthsAt.len (l := t) ho.row (ty := 3) W); clear ho hb))
  go_quiet (fail)
  go_wp2_with (fail)
  go_quiet (fail)
  go_wp2_with (fail)
  go_region_held3 (fun _ => True) (trivial) ((first
    | (go_at_call 15; refine (cB.out _ _ (by exact r3.out)).mono ?_; rintro e' w6 ⟨v6, rfl, ho, hb⟩; have k6 : Below w.heap.size w w6 := (by first | exact then_callN k3 hb | exact then_callD k3 hb); have hs := same_world hb (by exact hc3.out) ho; clear ho hb)
    | (go_at_call 10; refine hs.out.mono ?_; rintro e' w7 ⟨rfl, rfl⟩; clear hs)))
  go_wp2_with (go_at_call 9; refine (alive4_any _).mono ?_; rintro e' w10 ⟨rfl, hb10⟩)
  go_ret
  exact ⟨rfl, then_call k6 hb10⟩

set_option maxRecDepth 20000 in
set_option maxHeartbeats 4000000 in
theorem columnOnly_left (w : World) (y : Value) (b : List Nat) (hy : BytesAt w y b) (hb2 : b.length ≤ 2000) (d : List Int) (a : Nat) (u : Nat) (hu : 1 ≤ u) (hg : GivenR b (d.length : Nat) d a 0) (hgB : GivenB b (d.length : Nat) [] 0 u) :
    Calls Try.prog 6 #[y, .int .i64 (d.length : Nat)] w (Ret (.bool true) w) := by
  have hly := fun W => hy.len (ty := 3) W
  obtain ⟨_, hd65, hdr, hab, s1, hs1, hc1⟩ := runs_cut hy hg
  have hsr := sum_in 0 d
  have hsl := sum_len 0 d
  have hds := delta_sum 0 d hdr
  have hy := hide hy
  have hg := hide hg
  have hgB := hide hgB
  have hc1 := hide hc1
  have hnu : ((u : Int) != 0) = true := bne_iff_ne.2 (by omega)
  obtain ⟨N, hN⟩ : ∃ N, d.length = N := ⟨_, rfl⟩
  rw [hN] at hg hgB hd65 ⊢
  have cR : Hid (∀ W v, RowAt W v (ints d) → Calls Try.prog 11 #[v] W fun e w' => ∃ v', e = .returned v' ∧ BytesAt w' v' (bytesR d) ∧ Below W.heap.size W w') :=
    hide fun W v h => (cRuns_any v d W h hdr (by omega)).mono fun e w' ⟨v', h1, h2, h3⟩ => ⟨v', h1, h2.bytes (bytesR_byte d), h3⟩
  have cD : Hid (∀ W v, RowAt W v (ints (sumL 0 d)) → Calls Try.prog 13 #[v] W fun e w' => ∃ v', e = .returned v' ∧ BytesAt w' v' (bytesR d) ∧ Below W.heap.size W w') :=
    hide fun W v h => (cDeltas_any v (sumL 0 d) W h hsr (by omega)).mono fun e w' ⟨v', h1, h2, h3⟩ => ⟨v', h1, by rw [hds] at h2; exact h2.bytes (bytesR_byte d), h3⟩
  rw [hN] at hsl
  have hN := hide hN
  have hsl := hide hsl
  clear hds hsr hdr
  go_enter Try.func6, Try.ntmps6
  go_wp2_with (first
    | (go_at_call 18; refine (cTakeRuns_given hy.out hg.out).mono ?_; rintro e' w1 ⟨v1, rfl, ho, hb⟩; have k1 := hb; have hy := keepB hy hb; have hc1 := keepB hc1 hb; have r1 := hide ho.row; have hl1 : ∀ W, (Builtin.len_ #[22] 3 #[v1]).run Try.prog W = .ok (.int .i64 (N : Nat)) W := fun W => (by have := IntsAt.len (l := d) ho.row (ty := 3) W; rwa [hN.out] at this); clear ho hb)
    | (go_at_call 20; refine (cTakeDeltas_given hy.out hg.out).mono ?_; rintro e' w2 ⟨v2, rfl, ho, hb⟩; have k2 := then_call k1 hb; have hy := keepB hy hb; have hc1 := keepB hc1 hb; have r1 := keepR r1 hb; have r2 := hide ho.row; have hl2 : ∀ W, (Builtin.len_ #[22] 3 #[v2]).run Try.prog W = .ok (.int .i64 (N : Nat)) W := fun W => (by have := IntsAt.len (l := sumL 0 d) ho.row (ty := 3) W; rwa [hsl.out] at this); clear ho hb)
    | (go_at_call 22; refine (cTakeBools_given hy.out hgB.out).mono ?_; rintro e' w3 ⟨v3, rfl, ho, hb⟩; have k3 := then_call k2 hb; have hc1 := keepB hc1 hb; have r1 := keepR r1 hb; have r2 := keepR r2 hb; clear ho hb))
  go_region_held3 (fun _ => True) (trivial) ((first
    | (go_at_call 11; refine (cR.out _ _ r1.out.drew).mono ?_; rintro e' w4 ⟨v4, rfl, ho, hb⟩; have k4 : Below w.heap.size w w4 := then_call (Below.drew k3) hb; have hs := same_drew ho hc1 hb; have hc1 : Hid (BytesAt w4 s1 (bytesR d)) := hide (BytesAt.below (w := w3.drew) hc1.out hb); have r2 : Hid (RowAt w4 v2 (ints (sumL 0 d))) := hide (RowAt.below (w := w3.drew) r2.out hb); clear ho hb)
    | (go_at_call 10; refine hs.out.mono ?_; rintro e' w5 ⟨rfl, rfl⟩; clear hs)))
  go_wp2_with (fail)
  go_region_held3 (fun _ => True) (trivial) ((first
    | (go_at_call 13; refine (cD.out _ _ r2.out.drew).mono ?_; rintro e' w5 ⟨v5, rfl, ho, hb⟩; have k5 : Below w.heap.size w w5 := then_call (Below.drew k4) hb; have hs := same_drew ho hc1 hb; clear ho hb)
    | (go_at_call 10; refine hs.out.mono ?_; rintro e' w6 ⟨rfl, rfl⟩; clear hs)))
  go_wp2_with (fail)
  go_quiet (fail)
  go_wp2_with (go_at_call 9; refine (alive4_any _).mono ?_; rintro e' w10 ⟨rfl, hb10⟩)
  go_ret
  exact ⟨rfl, then_callN k5 hb10⟩

theorem columnOnly_walk (w : World) (A : Option Addr) (c : Nat) (b : List Nat) (n : Int) (hy : BytesAt w (.slice A b.length c) b) (_hl : ∀ x ∈ b, x < 256) (_h0 : -9223372036854775808 ≤ n) (_h1 : n ≤ 9223372036854775807) :
    Calls Try.prog 6 #[.slice A b.length c, .int .i64 n] w (Ret (.bool true) w) := by
  rcases Nat.lt_or_ge 2000 b.length with h | h
  · exact columnOnly_long w _ b n hy h
  · obtain ⟨d, a, e, hg⟩ := givenR_any b n
    obtain ⟨t, q, u, hgB⟩ := givenB_any b n
    rcases hg.ways with ⟨rfl, h1, h2, h3, _⟩ | ⟨he, rfl, rfl⟩
    · have hn : n = (d.length : Nat) := by have := h3.1; omega
      rcases hgB.ways with ⟨rfl, _, _, h4, _⟩ | ⟨hu, rfl, rfl⟩
      · have hdt : t.length = d.length := by have := h4.1; have := h3.1; omega
        subst hn
        exact columnOnly_yes w _ b hy h d a t q hdt hg hgB
      · subst hn
        exact columnOnly_left w _ b hy h d a u (by omega) hg hgB
    · rcases hgB.ways with ⟨rfl, h1, _, h4, _⟩ | ⟨hu, rfl, rfl⟩
      · have hn : n = (t.length : Nat) := by have := h4.1; omega
        subst hn
        exact columnOnly_right w _ b hy h e t q (by omega) hg hgB
      · exact columnOnly_none w _ b n hy h e u (by omega) (by omega) hg hgB
end Go.Proofs.Ytdonbgejnllhlaa
