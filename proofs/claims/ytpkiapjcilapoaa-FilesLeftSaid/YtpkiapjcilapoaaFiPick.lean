/-
  pick, the document's own.
-/
import Derived.Test.YtpkiapjcilapoaaFiNames
namespace Go.Proofs.Ytpkiapjcilapoaa
open Go.RowKit Go.Sort

/-- Which of n a raw number speaks of. -/
def pickF (c : Int) (n : Nat) : Nat := (if c < 0 then -(c + 1) % (n : Int) else c % (n : Int)).toNat
theorem pickF_lt (c : Int) {n : Nat} (h : 0 < n) : pickF c n < n := by
  unfold pickF
  split
  · have h1 := Int.emod_lt_of_pos (-(c + 1)) (show (0 : Int) < n by omega)
    omega
  · have h1 := Int.emod_lt_of_pos c (show (0 : Int) < n by omega)
    omega

set_option maxRecDepth 20000 in
theorem refPick_any (c : Int) (n : Nat) (w : World) (h1 : -9223372036854775808 ≤ c) (h2 : c ≤ 9223372036854775807) (hn : 0 < n) (hn2 : n ≤ 9223372036854775807) :
    Calls Try.prog 32 #[.int .i64 c, .int .i64 (n : Nat)] w fun e w' => e = .returned (.int .i64 (pickF c n : Nat)) ∧ w = w' := by
  by_cases h0 : c < 0
  · have hp : (pickF c n : Int) = -(c + 1) % (n : Int) := by
      unfold pickF
      rw [if_pos h0]
      have := Int.emod_nonneg (-(c + 1)) (show (n : Int) ≠ 0 by omega)
      omega
    have hm : -((c + 1).tmod n) = -(c + 1) % (n : Int) := by
      rw [← Int.neg_tmod, Int.tmod_eq_emod_of_nonneg (by omega)]
    obtain ⟨J, hJ⟩ : ∃ J, pickF c n = J := ⟨_, rfl⟩
    rw [hJ] at hp ⊢
    rw [← hp] at hm
    have hz : ((n : Int) == 0) = false := beq_false_of_ne (by omega)
    have hp := Lib.hid hp
    go_enter Try.func32, Try.ntmps32
    go_wp2
    go_ret
    exact ⟨by simp; exact hp.out.symm, rfl⟩
  · have hp : (pickF c n : Int) = c % (n : Int) := by
      unfold pickF
      rw [if_neg h0]
      have := Int.emod_nonneg c (show (n : Int) ≠ 0 by omega)
      omega
    have hm : c.tmod n = c % (n : Int) := Int.tmod_eq_emod_of_nonneg (by omega)
    obtain ⟨J, hJ⟩ : ∃ J, pickF c n = J := ⟨_, rfl⟩
    rw [hJ] at hp ⊢
    have h0' : 0 ≤ c := by omega
    have hz : ((n : Int) == 0) = false := beq_false_of_ne (by omega)
    have hp2 := hp.symm
    clear hp hJ h0
    go_enter Try.func32, Try.ntmps32
    go_wp2
    go_ret
    exact ⟨by simp, rfl⟩
end Go.Proofs.Ytpkiapjcilapoaa
