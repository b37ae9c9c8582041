/-
  ColumnTakes, walked.
-/
import Derived.Test.YtdonbgejnllhlaaLaw04
namespace Go.Proofs.Ytdonbgejnllhlaa
open Go.RowKit Go.Sort

theorem sameI_true {v u : Value} {l : List Int} {w : World} (hv : RowAt w v (ints l)) (hu : RowAt w u (ints l)) :
    Calls Try.prog 17 #[v, u] w (Ret (.bool true) w) := by
  have h := sameI_at v u l l w hv hu
  rw [decide_eq_true (rfl : l = l)] at h
  exact h
theorem sameT_true {v u : Value} {l : List Bool} {w : World} (hv : RowAt w v (truths l)) (hu : RowAt w u (truths l)) :
    Calls Try.prog 24 #[v, u] w (Ret (.bool true) w) := by
  have h := sameT_at v u l l w hv hu
  rw [decide_eq_true (rfl : l = l)] at h
  exact h

/-- An argument, a row of the call's own: kept, hidden, over one call more. -/
theorem keepB {w w' : World} {v : Value} {l : List Nat} (h : Hid (BytesAt w v l)) (hb : Below w.heap.size w w') : Hid (BytesAt w' v l) := hide (h.out.below hb)
theorem keepR {w w' : World} {v : Value} {xs : List Value} (h : Hid (RowAt w v xs)) (hb : Below w.heap.size w w') : Hid (RowAt w' v xs) := hide (h.out.below hb)

set_option maxRecDepth 20000 in
set_option maxHeartbeats 1000000 in
theorem columnTakes_long (w : World) (A : Option Addr) (c : Nat) (l : List Nat) (n : Int) (h : 2000 < l.length) :
    Calls Try.prog 4 #[.slice A l.length c, .int .i64 n] w (Ret (.bool true) w) := by
  go_enter Try.func4, Try.ntmps4
  go_wp2_with (go_at_call 9; refine (alive4_any _).mono ?_; rintro e' w5 ⟨rfl, hb5⟩)
  go_ret
  exact ⟨rfl, hb5⟩

set_option maxRecDepth 20000 in
set_option maxHeartbeats 2000000 in
theorem columnTakes_walk' (w : World) (A : Option Addr) (c : Nat) (l : List Nat) (n : Int) (hv : BytesAt w (.slice A l.length c) l) (h : l.length ≤ 2000) :
    Calls Try.prog 4 #[.slice A l.length c, .int .i64 n] w (Ret (.bool true) w) := by
  obtain ⟨d, a, e, hg⟩ := givenR_any l n
  obtain ⟨t, q, u, hgB⟩ := givenB_any l n
  have hv := hide hv
  have hg := hide hg
  have hgB := hide hgB
  go_enter Try.func4, Try.ntmps4
  go_wp2_with (first
    | (go_at_call 18; refine (cTakeRuns_given hv.out hg.out).mono ?_; rintro e' w1 ⟨v1, rfl, ho, hb⟩; have k1 := hb; have hv1 := keepB hv hb; have r1 := hide ho.row; clear ho hb)
    | (go_at_call 19; refine (refTakeRuns_given hv1.out hg.out).mono ?_; rintro e' w2 ⟨v2, rfl, ho, hb⟩; have k2 := then_call k1 hb; have hv2 := keepB hv1 hb; have r1 := keepR r1 hb; have r2 := hide ho.row; clear ho hb)
    | (go_at_call 20; refine (cTakeDeltas_given hv2.out hg.out).mono ?_; rintro e' w3 ⟨v3, rfl, ho, hb⟩; have k3 := then_call k2 hb; have hv3 := keepB hv2 hb; have r1 := keepR r1 hb; have r2 := keepR r2 hb; have r3 := hide ho.row; clear ho hb)
    | (go_at_call 21; refine (refTakeDeltas_given hv3.out hg.out).mono ?_; rintro e' w4 ⟨v4, rfl, ho, hb⟩; have k4 := then_call k3 hb; have hv4 := keepB hv3 hb; have r1 := keepR r1 hb; have r2 := keepR r2 hb; have r3 := keepR r3 hb; have r4 := hide ho.row; clear ho hb)
    | (go_at_call 22; refine (cTakeBools_given hv4.out hgB.out).mono ?_; rintro e' w5 ⟨v5, rfl, ho, hb⟩; have k5 := then_call k4 hb; have hv5 := keepB hv4 hb; have r1 := keepR r1 hb; have r2 := keepR r2 hb; have r3 := keepR r3 hb; have r4 := keepR r4 hb; have r5 := hide ho.row; clear ho hb)
    | (go_at_call 23; refine (refTakeBools_given hv5.out hgB.out).mono ?_; rintro e' w6 ⟨v6, rfl, ho, hb⟩; have k6 := then_call k5 hb; have r1 := keepR r1 hb; have r2 := keepR r2 hb; have r3 := keepR r3 hb; have r4 := keepR r4 hb; have r5 := keepR r5 hb; have r6 := hide ho.row; clear ho hb)
    | (go_at_call 17; (first
        | ((with_reducible refine (sameI_true (v := v1) (u := v2) r1.out r2.out).mono ?_); rintro e' w7 ⟨rfl, hb⟩; have k7 := then_call k6 hb; have r3 := keepR r3 hb; have r4 := keepR r4 hb; have r5 := keepR r5 hb; have r6 := keepR r6 hb; clear hb)
        | ((with_reducible refine (sameI_true (v := v3) (u := v4) r3.out r4.out).mono ?_); rintro e' w8 ⟨rfl, hb⟩; have k8 := then_call k7 hb; have r5 := keepR r5 hb; have r6 := keepR r6 hb; clear hb)))
    | (go_at_call 24; refine (sameT_true r5.out r6.out).mono ?_; rintro e' w9 ⟨rfl, hb⟩; have k9 := then_call k8 hb; clear hb)
    | (go_at_call 9; refine (alive4_any _).mono ?_; rintro e' w10 ⟨rfl, hb10⟩))
  go_ret
  exact ⟨rfl, then_call k9 hb10⟩

theorem columnTakes_walk (w : World) (A : Option Addr) (c : Nat) (l : List Nat) (n : Int) (hv : BytesAt w (.slice A l.length c) l) (_hl : ∀ x ∈ l, x < 256) (_h0 : -9223372036854775808 ≤ n) (_h1 : n ≤ 9223372036854775807) :
    Calls Try.prog 4 #[.slice A l.length c, .int .i64 n] w (Ret (.bool true) w) := by
  rcases Nat.lt_or_ge 2000 l.length with h | h
  · exact columnTakes_long w A c l n h
  · exact columnTakes_walk' w A c l n hv h
end Go.Proofs.Ytdonbgejnllhlaa
