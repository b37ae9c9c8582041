/-
  FrameOnly, walked.
-/
import Derived.Test.YtmeofjoamcghhaaLaw05b
namespace Go.Proofs.Ytmeofjoamcghhaa
open Go.RowKit Go.Sort

set_option maxRecDepth 20000 in
set_option maxHeartbeats 2000000 in
theorem frameOnly_none (w : World) (v : Value) (l : List Nat) (e : Nat) (hv : BytesAt w v l) (h : l.length ≤ 5000) (he : e = 51 ∨ e = 52) (hT : takeF l = (0, [], 0, e)) :
    Calls Try.prog 7 #[v] w (Ret (.bool true) w) := by
  have hlv := fun W => hv.len (ty := 3) W
  have c1 := hide (cTake_any v l w hv)
  rw [hT] at c1
  clear hv hT
  rcases he with rfl | rfl
  all_goals
    go_enter Try.func7, Try.ntmps7
    go_wp2_with (first
      | (go_at_call 16; refine c1.out.mono ?_; rintro e' w1 ⟨v1, rfl, ho, hb⟩; have hl1 : ∀ W, (Builtin.len_ #[22] 3 #[v1]).run Try.prog W = .ok (.int .i64 0) W := (fun W => (ho.bytes (by simp)).len (ty := 3) W); clear ho)
      | (go_at_call 10; refine (alive5_any _).mono ?_; rintro e' w2 ⟨rfl, hb2⟩))
    go_ret
    exact ⟨rfl, then_call hb hb2⟩

set_option maxRecDepth 20000 in
set_option maxHeartbeats 2000000 in
theorem frameOnly_some (w : World) (v : Value) (l : List Nat) (k n : Nat) (c : List Nat) (hv : BytesAt w v l) (h : l.length ≤ 5000) (hk : k < 256) (hT : takeF l = (k, c, n, 0)) (hn : n ≤ l.length) (hc : c.length ≤ 65536) (hcb : ∀ x ∈ c, x < 256) (hf : frameL k c = l.take n) :
    Calls Try.prog 7 #[v] w (Ret (.bool true) w) := by
  have hlv := fun W => hv.len (ty := 3) W
  obtain ⟨s, hs, hb3⟩ := hv.first hn
  rw [← hf] at hb3
  have c1 := hide (cTake_any v l w hv)
  rw [hT] at c1
  have b3 := hide hb3
  have hfb := hide (frameL_byte hk hcb)
  have cW := hide (fun W v (h' : BytesAt W v c) => cWrap_any v k c W hk h' hc)
  have hcb := hide hcb
  clear hv hT hf hb3
  go_enter Try.func7, Try.ntmps7
  go_wp2_with (first
    | (go_at_call 16; refine c1.out.mono ?_; rintro e' w1 ⟨v1, rfl, ho, hb⟩; have k1 := hb; have b1 := hide (ho.bytes hcb.out); have b3 := keepY b3 hb; clear ho hb)
    | (go_at_call 14; refine (cW.out _ _ b1.out).mono ?_; rintro e' w2 ⟨v2, rfl, ho, hb⟩; have k2 := then_call k1 hb; have b3 := keepY b3 hb; have b2 := hide (ho.bytes hfb.out); clear ho hb)
    | (go_at_call 10; refine (alive5_any _).mono ?_; rintro e' w3 ⟨rfl, hb⟩; have k3 := then_call k2 hb; have b3 := keepY b3 hb; have b2 := keepY b2 hb; clear hb)
    | (go_at_call 12; refine (same_true b2.out b3.out).mono ?_; rintro e' w6 ⟨rfl, rfl⟩))
  go_ret
  exact ⟨rfl, k3⟩

set_option maxRecDepth 20000 in
set_option maxHeartbeats 1000000 in
theorem frameOnly_walk' (w : World) (v : Value) (l : List Nat) (hv : BytesAt w v l) :
    Calls Try.prog 7 #[v] w (Ret (.bool true) w) := by
  rcases Nat.lt_or_ge 5000 l.length with h | h
  · have hlv := fun W => hv.len (ty := 3) W
    clear hv
    go_enter Try.func7, Try.ntmps7
    go_wp2_with (go_at_call 10; refine (alive5_any _).mono ?_; rintro e' w5 ⟨rfl, hb5⟩)
    go_ret
    exact ⟨rfl, hb5⟩
  · rcases take_ways l with ⟨n, h1, h2, h3, h4⟩ | h1 | h1
    · have hby := hv.byte
      refine frameOnly_some w v l _ (11 + n) _ hv h ?_ h1 h3 (by simp; omega) (fun x hx => hby x (List.mem_of_mem_drop (List.mem_of_mem_take hx))) h4
      simp only [List.getD]
      rw [List.getElem?_eq_getElem (by omega)]
      exact hby _ (List.getElem_mem _)
    · exact frameOnly_none w v l 51 hv h (.inl rfl) h1
    · exact frameOnly_none w v l 52 hv h (.inr rfl) h1
end Go.Proofs.Ytmeofjoamcghhaa
