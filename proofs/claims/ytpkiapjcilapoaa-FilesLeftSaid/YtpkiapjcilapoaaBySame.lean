/-
  'Same' of bytes.
-/
import Derived.Test.YtpkiapjcilapoaaBy
namespace Go.Proofs.Ytpkiapjcilapoaa
open Go.RowKit Go.Sort

set_option maxHeartbeats 400000 in
theorem same_at {w : World} {v u : Value} {l m : List Nat} (hv : BytesAt w v l) (hu : BytesAt w u m) :
    Calls Try.prog 19 #[v, u] w fun e w' => e = .returned (.bool (decide (l = m))) ∧ w = w' := by
  have h1 := run_bytes hv
  have h2 := run_bytes hu
  have hd : ((strB l).toList == (strB m).toList) = decide (l = m) := by
    obtain ⟨_, _, _, _, _, h4, _, _⟩ := hv
    obtain ⟨_, _, _, _, _, h5, _, _⟩ := hu
    by_cases h : l = m
    · subst h; simp
    · rw [decide_eq_false h, beq_eq_false_iff_ne]
      intro h'
      rw [ByteArray.toList_eq, ByteArray.toList_eq] at h'
      exact h (strB_inj h4 h5 (ByteArray.ext (Array.toList_inj.1 h')))
  have hd := Lib.hid hd
  obtain ⟨S, hS⟩ : ∃ S, strB l = S := ⟨_, rfl⟩
  obtain ⟨T, hT⟩ : ∃ T, strB m = T := ⟨_, rfl⟩
  rw [hS] at h1
  rw [hT] at h2
  clear hv hu
  rw [hS, hT] at hd
  clear hS hT
  go_enter Try.func19, Try.ntmps19
  go_wp2
  go_ret
  exact ⟨ret_bool hd.out, rfl⟩

theorem same_true {w : World} {v u : Value} {l : List Nat} (hv : BytesAt w v l) (hu : BytesAt w u l) :
    Calls Try.prog 19 #[v, u] w fun e w' => e = .returned (.bool true) ∧ w = w' := by
  have h := same_at hv hu
  rw [decide_eq_true (rfl : l = l)] at h
  exact h
end Go.Proofs.Ytpkiapjcilapoaa
