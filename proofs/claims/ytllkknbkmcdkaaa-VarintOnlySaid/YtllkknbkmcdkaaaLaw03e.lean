/-
  Stage 3's statements, walked: VarintOnly.
-/
import Derived.Test.YtllkknbkmcdkaaaLaw03c
namespace Go.Proofs.Ytllkknbkmcdkaaa
open Go.RowKit Go.Sort

set_option maxRecDepth 20000 in
set_option maxHeartbeats 2000000 in
theorem varintOnly_none (w : World) (A : Option Addr) (c : Nat) (l : List Nat) (cut : Int) (hv : BytesAt w (.slice A l.length c) l) (ht : Taken l 0 0 31) :
    Calls Try.prog 7 #[.slice A l.length c, .int .i64 cut] w (Ret (.bool true) w) := by
  have c1 := hide (take_at hv ht)
  clear hv ht
  go_enter Try.func7, Try.ntmps7
  go_wp2_with (first
    | (go_at_call 14; refine (c1.out).mono ?_; rintro e' w5 ⟨rfl, rfl⟩)
    | (go_at_call 13; refine (alive_any _).mono ?_; rintro e' w5 ⟨rfl, hb5⟩))
  go_ret
  exact ⟨rfl, hb5⟩

set_option maxRecDepth 20000 in
set_option maxHeartbeats 2000000 in
theorem varintOnly_some (w : World) (b off c : Nat) (l : List Nat) (cut : Int) (n : Nat) (L : List Nat) (J : Nat) (hlc : (l.length : Int) ≤ c) (hLl : L.length ≤ l.length) (hL1 : 1 ≤ L.length) (hJ : J < L.length)
    (c1 : Hid (∀ w', Below w.heap.size w w' → Calls Try.prog 14 #[.slice (some ⟨b, off, none⟩) l.length c] w' fun e' w'' => e' = .returned (.tuple #[.int .u64 n, .int .i64 L.length, .int .i64 0]) ∧ w' = w''))
    (n2 k2 : Nat) (c2 : Hid (∀ w', Below w.heap.size w w' → Calls Try.prog 14 #[.slice (some ⟨b, off, none⟩) J c] w' fun e' w'' => e' = .returned (.tuple #[.int .u64 n2, .int .i64 k2, .int .i64 31]) ∧ w' = w''))
    (c3 : Hid (∀ w, Calls Try.prog 11 #[.int .u64 n] w fun e w' => ∃ v, e = .returned v ∧ BytesAt w' v L ∧ Below w.heap.size w w'))
    (hb : Hid (∀ w', Below w.heap.size w w' → BytesAt w' (.slice (some ⟨b, off, none⟩) L.length c) L))
    (hcut : (0 ≤ cut ∧ cut % L.length = J) ∨ (cut < 0 ∧ -9223372036854775808 ≤ cut ∧ -(cut + 1) % L.length = J)) :
    Calls Try.prog 7 #[.slice (some ⟨b, off, none⟩) l.length c, .int .i64 cut] w (Ret (.bool true) w) := by
  rcases hcut with ⟨h0, h1⟩ | ⟨h0, hm, h1⟩
  · go_enter Try.func7, Try.ntmps7
    go_wp2_with ((go_at_call 14; refine (c1.out _ (Below.refl _ _)).mono ?_; rintro e' w5 ⟨rfl, rfl⟩))
    have hz : (L.length : Int) ≤ c := by omega
    go_region_with ((first
      | (go_at_call 11; refine (c3.out _).mono ?_; rintro e' w1 ⟨v, rfl, hB1, hb1⟩; have hw1 : Below w.heap.size w w1 := then_call (Below.drew (Below.refl _ _)) hb1; have hs := hide (same_true hB1 (hb.out w1 hw1)); clear hB1 hb1)
      | (go_at_call 10; refine hs.out.mono ?_; rintro e' w2 ⟨rfl, rfl⟩)))
    have hJc : (J : Int) ≤ c := by omega
    have c4 := hide (c2.out w1 hw1)
    clear c2 c1 c3 hb
    go_wp2_with (first
      | (go_at_call 14; refine c4.out.mono ?_; rintro e' w5 ⟨rfl, rfl⟩)
      | (go_at_call 13; refine (alive_any _).mono ?_; rintro e' w6 ⟨rfl, hb6⟩))
    go_ret
    exact ⟨rfl, then_call hw1 hb6⟩
  · go_enter Try.func7, Try.ntmps7
    go_wp2_with ((go_at_call 14; refine (c1.out _ (Below.refl _ _)).mono ?_; rintro e' w5 ⟨rfl, rfl⟩))
    have hz : (L.length : Int) ≤ c := by omega
    obtain ⟨C, hC⟩ : ∃ C : Int, -(cut + 1) = C := ⟨_, rfl⟩
    have hC0 : 0 ≤ C := by omega
    rw [hC] at h1 ⊢
    clear hC
    go_region_with ((first
      | (go_at_call 11; refine (c3.out _).mono ?_; rintro e' w1 ⟨v, rfl, hB1, hb1⟩; have hw1 : Below w.heap.size w w1 := then_call (Below.drew (Below.refl _ _)) hb1; have hs := hide (same_true hB1 (hb.out w1 hw1)); clear hB1 hb1)
      | (go_at_call 10; refine hs.out.mono ?_; rintro e' w2 ⟨rfl, rfl⟩)))
    have hJc : (J : Int) ≤ c := by omega
    have c4 := hide (c2.out w1 hw1)
    clear c2 c1 c3 hb
    go_wp2_with (first
      | (go_at_call 14; refine c4.out.mono ?_; rintro e' w5 ⟨rfl, rfl⟩)
      | (go_at_call 13; refine (alive_any _).mono ?_; rintro e' w6 ⟨rfl, hb6⟩))
    go_ret
    exact ⟨rfl, then_call hw1 hb6⟩

theorem varintOnly_walk (w : World) (A : Option Addr) (c : Nat) (l : List Nat) (cut : Int) (hv : BytesAt w (.slice A l.length c) l) (_hl : ∀ x ∈ l, x < 256) (hlo : -9223372036854775808 ≤ cut) (hhi : cut ≤ 9223372036854775807) :
    Calls Try.prog 7 #[.slice A l.length c, .int .i64 cut] w (Ret (.bool true) w) := by
  obtain ⟨n, k, e, ht⟩ := taken_any l
  have ht0 := ht
  rcases ht0 with ⟨hn, hp, hk, rfl⟩ | ⟨_, rfl, rfl, rfl⟩
  · subst hk
    have hpos := putL_pos n
    have hle : (putL n).length ≤ l.length := hp.length_le
    have hv0 := hv
    obtain ⟨A', c', he, h2, _, _, h5, _⟩ := hv0
    injection he with he1 he2 he3
    subst he1 he3
    obtain ⟨b, off, rfl, hb, _⟩ := h5 (by omega)
    have hJ : ∀ C : Int, 0 ≤ C → ∃ J : Nat, C % (putL n).length = J ∧ J < (putL n).length := fun C hC => by
      refine ⟨(C % (putL n).length).toNat, ?_, ?_⟩
      · have := Int.emod_nonneg C (show ((putL n).length : Int) ≠ 0 by omega); omega
      · have h1 := Int.emod_nonneg C (show ((putL n).length : Int) ≠ 0 by omega)
        have h2 := Int.emod_lt_of_pos C (show (0 : Int) < (putL n).length by omega)
        omega
    have key : ∀ J : Nat, J < (putL n).length → ((0 ≤ cut ∧ cut % (putL n).length = J) ∨ (cut < 0 ∧ -9223372036854775808 ≤ cut ∧ -(cut + 1) % (putL n).length = J)) →
        Calls Try.prog 7 #[.slice (some ⟨b, off, none⟩) l.length c, .int .i64 cut] w (Ret (.bool true) w) := fun J hJL hcut => by
      obtain ⟨n2, k2, e2, ht2⟩ := taken_any (l.take J)
      have he2 := taken_cut ⟨n, hn, hp, hJL⟩ ht2
      subst he2
      refine varintOnly_some w b off c l cut n (putL n) J (by omega) hle hpos hJL (hide fun w' hw' => take_at (hv.below hw') ht) n2 k2 (hide fun w' hw' => take_at ((hv.upto J (by omega)).below hw') ht2)
        (hide fun w => (put_any n hn w).mono fun e w' ⟨v, h6, h7, h8⟩ => ⟨v, h6, putL_bytes h7, h8⟩) (hide fun w' hw' => ?_) hcut
      have hu := (hv.upto (putL n).length hle).below hw'
      obtain ⟨t, ht'⟩ := hp
      have : l.take (putL n).length = putL n := by rw [← ht']; simp
      rwa [this] at hu
    rcases (show cut < 0 ∨ 0 ≤ cut by omega) with h | h
    · obtain ⟨J, h6, h7⟩ := hJ (-(cut + 1)) (by omega)
      exact key J h7 (.inr ⟨h, hlo, h6⟩)
    · obtain ⟨J, h6, h7⟩ := hJ cut h
      exact key J h7 (.inl ⟨h, h6⟩)
  · exact varintOnly_none w A c l cut hv ht
end Go.Proofs.Ytllkknbkmcdkaaa
