/-
  FrameTakes, FrameWraps, walked.
-/
import Derived.Test.YtmeofjoamcghhaaLaw05
namespace Go.Proofs.Ytmeofjoamcghhaa
open Go.RowKit Go.Sort

theorem takeF_byte {l : List Nat} (h : ∀ x ∈ l, x < 256) : ∀ x ∈ (takeF l).2.1, x < 256 := by
  intro x hx
  rcases take_ways l with ⟨n, h1, _⟩ | h1 | h1
  · rw [h1] at hx
    exact h x (List.mem_of_mem_drop (List.mem_of_mem_take hx))
  · rw [h1] at hx; simp at hx
  · rw [h1] at hx; simp at hx

set_option maxRecDepth 20000 in
set_option maxHeartbeats 2000000 in
theorem frameTakes_walk' (w : World) (v : Value) (l : List Nat) (hv : BytesAt w v l) :
    Calls Try.prog 5 #[v] w (Ret (.bool true) w) := by
  have hlv := fun W => hv.len (ty := 3) W
  have hby := hide hv.byte
  have hv := hide hv
  rcases Nat.lt_or_ge 5000 l.length with h | h
  · go_enter Try.func5, Try.ntmps5
    go_wp2_with (go_at_call 10; refine (alive5_any _).mono ?_; rintro e' w5 ⟨rfl, hb5⟩)
    go_ret
    exact ⟨rfl, hb5⟩
  · have htb := hide (takeF_byte hby.out)
    obtain ⟨R, hR⟩ : ∃ R, takeF l = R := ⟨_, rfl⟩
    rw [hR] at htb
    have cT : Hid (∀ W v, BytesAt W v l → Calls Try.prog 16 #[v] W (GivesF R W)) := hide (fun W v h => by rw [← hR]; exact cTake_any v l W h)
    have rT : Hid (∀ W v, BytesAt W v l → Calls Try.prog 17 #[v] W (GivesF R W)) := hide (fun W v h => by rw [← hR]; exact refTakeF_any v l W h)
    clear hR
    obtain ⟨rk, rb, rn, re⟩ := R
    go_enter Try.func5, Try.ntmps5
    go_wp2_with (first
      | (at_builtin; refine append_bytes rfl (.tmp 18) (.tmp 19) rfl w.heap.size rfl (own_made w _ rfl) rfl (hv.out.below (below_box1 _ _)) (by simp; omega) (by simp) ?_; intro v1 w1 o1 hb1; have k1 : Below w.heap.size w w1 := (below_box1 w _).trans hb1)
      | (at_builtin; refine append_bytes rfl (.tmp 20) (.tmp 21) rfl w.heap.size rfl (o1.alloc _) rfl (bytes_box w1 77 (by omega)) (by simp; omega) (by have := k1.size; simp; omega) ?_))
    intro v2 w2 o2 hb2
    have k2 : Below w.heap.size w w2 := (then_box k1 _).trans hb2
    obtain ⟨v3, hs3, b3, hs4, b2⟩ := cutY_77 hby.out o2
    have b3 := hide b3
    have hv2 := keepY hv k2
    clear o1 o2 hb1 hb2 k1 b2 hs4
    go_wp2_with (first
      | (go_at_call 16; refine (cT.out _ _ b3.out).mono ?_; rintro e' w3 ⟨v4, rfl, ho, hb⟩; have k3 := then_call k2 hb; have b3 := keepY b3 hb; have hv3 := keepY hv2 hb; have b4 := hide (ho.bytes htb.out); clear ho hb)
      | (go_at_call 17; refine (rT.out _ _ hv3.out).mono ?_; rintro e' w4 ⟨v5, rfl, ho, hb⟩; have k4 := then_call k3 hb; have b3 := keepY b3 hb; have hv4 := keepY hv3 hb; have b4 := keepY b4 hb; have b5 := hide (ho.bytes htb.out); clear ho hb)
      | (go_at_call 12; (first
          | ((with_reducible refine (same_true (v := v4) (u := v5) b4.out b5.out).mono ?_); rintro e' w6 ⟨rfl, rfl⟩)
          | ((with_reducible refine (same_true (v := v3) b3.out hv4.out).mono ?_); rintro e' w6 ⟨rfl, rfl⟩)))
      | (go_at_call 10; refine (alive5_any _).mono ?_; rintro e' w7 ⟨rfl, hb7⟩))
    go_ret
    exact ⟨rfl, then_call k4 hb7⟩

set_option maxRecDepth 20000 in
set_option maxHeartbeats 2000000 in
theorem frameWraps_walk' (w : World) (k : Nat) (v : Value) (l : List Nat) (hk : k < 256) (hv : BytesAt w v l) :
    Calls Try.prog 4 #[.int .u8 k, v] w (Ret (.bool true) w) := by
  have hlv := fun W => hv.len (ty := 3) W
  have hby := hide hv.byte
  have hv := hide hv
  rcases Nat.lt_or_ge 5000 l.length with h | h
  · go_enter Try.func4, Try.ntmps4
    go_wp2_with (go_at_call 10; refine (alive5_any _).mono ?_; rintro e' w5 ⟨rfl, hb5⟩)
    go_ret
    exact ⟨rfl, hb5⟩
  · have hfb := hide (frameL_byte hk hby.out)
    have cW := hide (fun W v (h' : BytesAt W v l) => cWrap_any v k l W hk h' (by omega))
    have rW := hide (fun W v (h' : BytesAt W v l) => refWrap_any v k l W hk h' (by omega))
    go_enter Try.func4, Try.ntmps4
    go_wp2_with (first
      | (at_builtin; refine append_bytes rfl (.tmp 16) (.tmp 17) rfl w.heap.size rfl (own_made w _ rfl) rfl (hv.out.below (below_box1 _ _)) (by simp; omega) (by simp) ?_; intro v1 w1 o1 hb1; have k1 : Below w.heap.size w w1 := (below_box1 w _).trans hb1)
      | (at_builtin; refine append_bytes rfl (.tmp 18) (.tmp 19) rfl w.heap.size rfl (o1.alloc _) rfl (bytes_box w1 77 (by omega)) (by simp; omega) (by have := k1.size; simp; omega) ?_))
    intro v2 w2 o2 hb2
    have k2 : Below w.heap.size w w2 := (then_box k1 _).trans hb2
    obtain ⟨v3, hs3, b3, hs4, b2⟩ := cutY_77 hby.out o2
    have b2 := hide b2
    have b3 := hide b3
    have hv2 := keepY hv k2
    clear o1 o2 hb1 hb2 k1
    go_wp2_with (first
      | (go_at_call 14; refine (cW.out _ _ b3.out).mono ?_; rintro e' w3 ⟨v4, rfl, ho, hb⟩; have k3 := then_call k2 hb; have b2 := keepY b2 hb; have b3 := keepY b3 hb; have hv3 := keepY hv2 hb; have b4 := hide (ho.bytes hfb.out); clear ho hb)
      | (go_at_call 15; refine (rW.out _ _ hv3.out).mono ?_; rintro e' w4 ⟨v5, rfl, ho, hb⟩; have k4 := then_call k3 hb; have b2 := keepY b2 hb; have b3 := keepY b3 hb; have hv4 := keepY hv3 hb; have b4 := keepY b4 hb; have b5 := hide (ho.bytes hfb.out); clear ho hb)
      | (go_at_call 12; (first
          | ((with_reducible refine (same_true (v := v4) (u := v5) b4.out b5.out).mono ?_); rintro e' w6 ⟨rfl, rfl⟩)
          | ((with_reducible refine (same_true (v := v3) b3.out hv4.out).mono ?_); rintro e' w6 ⟨rfl, rfl⟩)))
      | (go_at_call 10; refine (alive5_any _).mono ?_; rintro e' w7 ⟨rfl, hb⟩; have k7 := then_call k4 hb; have b2 := keepY b2 hb; clear hb; obtain ⟨ad, ha, hac⟩ := last_77 b2.out))
    go_ret
    exact ⟨rfl, k7⟩
end Go.Proofs.Ytmeofjoamcghhaa
