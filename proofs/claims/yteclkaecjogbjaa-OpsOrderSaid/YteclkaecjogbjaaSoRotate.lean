/-
  Two neighbouring runs of elements change places.
-/
import Derived.Test.YteclkaecjogbjaaSoRange
namespace Go.Proofs.Yteclkaecjogbjaa
open Go.RowKit Go.Sort

/-- lo to m - 1 behind m to hi - 1. -/
def rotR (s : Nat → Nat) (lo m hi : Nat) : Nat → Nat := fun t => if lo ≤ t ∧ t < lo + (hi - m) then s (t - lo + m) else if lo + (hi - m) ≤ t ∧ t < hi then s (t - (hi - m)) else s t

theorem rot_more (s : Nat → Nat) {i j m : Nat} (hi : i ≤ m) (hj : 0 < j) (h : j < i) : rotR (swR s (m - i) m j) (m - i + j) m (m + j) = rotR s (m - i) m (m + j) := by
  funext t
  unfold rotR swR
  by_cases h1 : t < m - i
  · rw [if_neg (by omega), if_neg (by omega), if_neg (by omega), if_neg (by omega), if_neg (by omega), if_neg (by omega)]
  by_cases h2 : t < m - i + j
  · rw [if_neg (by omega), if_neg (by omega), if_pos (by omega), if_pos (by omega)]
  by_cases h3 : t < m - i + j + j
  · by_cases h5 : t < m + j
    · rw [if_pos (by omega)]
      by_cases h4 : t - (m - i + j) + m < m + j
      · rw [if_neg (by omega), if_pos (by omega), if_neg (by omega), if_pos (by omega)]
        congr 1; omega
      · exact absurd h3 (by omega)
    · exact absurd h5 (by omega)
  · by_cases h5 : t < m + j
    · rw [if_neg (by omega), if_pos (by omega), if_neg (by omega), if_neg (by omega), if_neg (by omega), if_pos (by omega)]
    · rw [if_neg (by omega), if_neg (by omega), if_neg (by omega), if_neg (by omega), if_neg (by omega), if_neg (by omega)]
theorem rot_less (s : Nat → Nat) {i j m : Nat} (hi : i ≤ m) (hi0 : 0 < i) (h : i < j) : rotR (swR s (m - i) (m + j - i) i) (m - i) m (m + j - i) = rotR s (m - i) m (m + j) := by
  funext t
  unfold rotR swR
  by_cases h1 : t < m - i
  · rw [if_neg (by omega), if_neg (by omega), if_neg (by omega), if_neg (by omega), if_neg (by omega), if_neg (by omega)]
  by_cases h2 : t < m - i + (j - i)
  · rw [if_pos (by omega), if_neg (by omega), if_neg (by omega), if_pos (by omega)]
  by_cases h3 : t < m + j - i
  · rw [if_neg (by omega), if_pos (by omega), if_pos (by omega), if_pos (by omega)]
    congr 1; omega
  by_cases h4 : t < m + j
  · rw [if_neg (by omega), if_neg (by omega), if_neg (by omega), if_pos (by omega), if_neg (by omega), if_pos (by omega)]
    congr 1; omega
  · rw [if_neg (by omega), if_neg (by omega), if_neg (by omega), if_neg (by omega), if_neg (by omega), if_neg (by omega)]
theorem rot_same (s : Nat → Nat) {i m : Nat} (hi : i ≤ m) : swR s (m - i) m i = rotR s (m - i) m (m + i) := by
  funext t
  unfold rotR swR
  by_cases h1 : t < m - i
  · rw [if_neg (by omega), if_neg (by omega), if_neg (by omega), if_neg (by omega)]
  by_cases h2 : t < m
  · rw [if_pos (by omega), if_pos (by omega)]
  by_cases h4 : t < m + i
  · rw [if_neg (by omega), if_pos (by omega), if_neg (by omega), if_pos (by omega)]
    congr 1; omega
  · rw [if_neg (by omega), if_neg (by omega), if_neg (by omega), if_neg (by omega)]

set_option maxRecDepth 100000 in
set_option maxHeartbeats 8000000 in
theorem rotate_any (L : Nat → OpV) (s : Nat → Nat) (g n cap a m b : Nat) (c : Value) (ham : a < m) (hmb : m < b) (hb : b ≤ n) (hn : n ≤ 1000) (w : World) (hH : Hold w g n fun t => L (s t)) :
    Calls Try.prog 61 #[.slice (some ⟨g, 0, none⟩) n cap, .int .i64 (a : Nat), .int .i64 (m : Nat), .int .i64 (b : Nat), c] w fun e w' => e = .returned (.tuple #[]) ∧ Hold w' g n (fun t => L (rotR s a m b t)) ∧ Turns [g] w w' ∧ Per a b s (rotR s a m b) := by
  obtain ⟨i0, hi0⟩ : ∃ i : Nat, (m : Int) - (a : Int) = (i : Int) := ⟨m - a, by omega⟩
  obtain ⟨j0, hj0⟩ : ∃ j : Nat, (b : Int) - (m : Int) = (j : Int) := ⟨b - m, by omega⟩
  have hi0' : i0 = m - a := by omega
  have hj0' : j0 = b - m := by omega
  go_enter Try.func61, Try.ntmps61
  go_wp2
  have hH := Lib.hid hH
  clear hi0 hj0
  replace hi0' := Lib.hid hi0'
  replace hj0' := Lib.hid hj0'
  go_loopw [10, 11] (fun i' j' wr => ∃ (i j : Nat) (s' : Nat → Nat), i' = .int .i64 i ∧ j' = .int .i64 j ∧ 0 < i ∧ 0 < j ∧ i ≤ m - a ∧ j ≤ b - m ∧ Hold wr g n (fun t => L (s' t)) ∧ Turns [g] w wr ∧ Hid (rotR s' (m - i) m (m + j) = rotR s a m b ∧ Per a b s s')) (fun i' j' _ => (intOf i').toNat + (intOf j').toNat)
  case atStart =>
    have e1 := hi0'.out
    have e2 := hj0'.out
    exact ⟨m - a, b - m, s, by first | rfl | (congr 1; omega), by first | rfl | (congr 1; omega), by omega, by omega, by omega, by omega, hH.out, Turns.refl _ _, Lib.hid ⟨by rw [show m - (m - a) = a by omega, show m + (b - m) = b by omega], .refl _⟩⟩
  case round =>
    clear hH
    obtain ⟨i, j, s', rfl, rfl, hi, hj, him, hjb, hK0, hT, hR⟩ := hrel
    obtain ⟨p, hp⟩ : ∃ p : Nat, (m : Int) - (i : Int) = (p : Int) := ⟨m - i, by omega⟩
    have hp' : p = m - i := by omega
    by_cases hij : i = j
    · subst hij
      have hC := fun W h => swapRange_any L s' g n cap p m i c (by omega) (by omega) hn W h
      have hq : ((i : Int) != (i : Int)) = false := by simp
      rw [hp', rot_same s' (by omega)] at hC
      rw [hR.out.1] at hC
      rw [← hp'] at hC
      have hC := Lib.hid hC
      replace hp' := Lib.hid hp'
      go_wp2_with (go_at_call 62; refine (hC.out _ hK0).mono ?_; rintro e w1 ⟨rfl, h1, h2, h3⟩)
      go_end0
      have e1 := hp'.out
      exact ⟨rfl, h1, hT.trans' h2, hR.out.2.trans (h3.mono (by omega) (by omega))⟩
    · have hne : ((i : Int) != (j : Int)) = true := by simp; omega
      by_cases hgt : j < i
      · have hC := fun W h => swapRange_any L s' g n cap p m j c (by omega) (by omega) hn W h
        have hC := Lib.hid hC
        obtain ⟨i2, hi2⟩ : ∃ i2 : Nat, (i : Int) - (j : Int) = (i2 : Int) := ⟨i - j, by omega⟩
        have hi2' : i2 = i - j := by omega
        have hnext : Hid (rotR (swR s' p m j) (m - i2) m (m + j) = rotR s a m b) := Lib.hid (by
          have := rot_more s' (i := i) (j := j) (m := m) (by omega) hj hgt
          rw [hR.out.1] at this
          rw [hp', show m - i2 = m - i + j by omega]; exact this)
        have hgt' : (j : Int) < (i : Int) := by omega
        replace hp' := Lib.hid hp'
        replace hi2' := Lib.hid hi2'
        go_wp2_with (go_at_call 62; refine (hC.out _ hK0).mono ?_; rintro e w1 ⟨rfl, h1, h2, h3⟩)
        have e1 := hp'.out
        have e2 := hi2'.out
        exact ⟨⟨i2, j, _, rfl, rfl, by omega, hj, by omega, hjb, h1, hT.trans' h2, Lib.hid ⟨hnext.out, hR.out.2.trans (h3.mono (by omega) (by omega))⟩⟩, by simp [intOf]; omega⟩
      · obtain ⟨q, hq⟩ : ∃ q : Nat, (m : Int) + (j : Int) - (i : Int) = (q : Int) := ⟨m + j - i, by omega⟩
        have hq' : q = m + j - i := by omega
        have hC := fun W h => swapRange_any L s' g n cap p q i c (by omega) (by omega) hn W h
        have hC := Lib.hid hC
        obtain ⟨j2, hj2⟩ : ∃ j2 : Nat, (j : Int) - (i : Int) = (j2 : Int) := ⟨j - i, by omega⟩
        have hj2' : j2 = j - i := by omega
        have hnext : Hid (rotR (swR s' p q i) (m - i) m (m + j2) = rotR s a m b) := Lib.hid (by
          have := rot_less s' (i := i) (j := j) (m := m) (by omega) hi (by omega)
          rw [hR.out.1] at this
          rw [hp', hq', show m + j2 = m + j - i by omega]; exact this)
        have hgt' : ¬ (j : Int) < (i : Int) := by omega
        replace hp' := Lib.hid hp'
        replace hq' := Lib.hid hq'
        replace hj2' := Lib.hid hj2'
        go_wp2_with (go_at_call 62; refine (hC.out _ hK0).mono ?_; rintro e w1 ⟨rfl, h1, h2, h3⟩)
        have e1 := hp'.out
        have e2 := hq'.out
        have e3 := hj2'.out
        exact ⟨⟨i, j2, _, rfl, rfl, hi, by omega, him, by omega, h1, hT.trans' h2, Lib.hid ⟨hnext.out, hR.out.2.trans (h3.mono (by omega) (by omega))⟩⟩, by simp [intOf]; omega⟩
end Go.Proofs.Yteclkaecjogbjaa
