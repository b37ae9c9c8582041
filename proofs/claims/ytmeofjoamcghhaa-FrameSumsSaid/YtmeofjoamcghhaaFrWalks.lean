/-
  The walks of stage 5's laws, as their statements ask for them.
-/
import Derived.Test.YtmeofjoamcghhaaLaw05c
import Derived.Test.YtmeofjoamcghhaaLaw05d
import Derived.Test.YtmeofjoamcghhaaLaw05e
import Derived.Test.YtmeofjoamcghhaaLaw05f
namespace Go.Proofs.Ytmeofjoamcghhaa
open Go.RowKit Go.Sort

theorem frameSums_walk (w : World) (v : Value) (l : List Nat) (hv : BytesAt w v l) : Calls Try.prog 3 #[v] w (Ret (.bool true) w) := frameSums_walk' w v l hv
theorem frameTakes_walk (w : World) (v : Value) (l : List Nat) (hv : BytesAt w v l) : Calls Try.prog 5 #[v] w (Ret (.bool true) w) := frameTakes_walk' w v l hv
theorem frameOnly_walk (w : World) (v : Value) (l : List Nat) (hv : BytesAt w v l) : Calls Try.prog 7 #[v] w (Ret (.bool true) w) := frameOnly_walk' w v l hv
theorem frameWraps_walk (w : World) (k : Nat) (v : Value) (l : List Nat) (hk : k < 256) (hv : BytesAt w v l) : Calls Try.prog 4 #[.int .u8 k, v] w (Ret (.bool true) w) := frameWraps_walk' w k v l hk hv

theorem frameBack_walk (w : World) (k : Nat) (cut : Int) (v y : Value) (l m : List Nat) (hk : k < 256) (hc : -9223372036854775808 ≤ cut ∧ cut ≤ 9223372036854775807) (hv : BytesAt w v l) (hy : BytesAt w y m) :
    Calls Try.prog 6 #[.agg #[.int .u8 k, v, y, .int .i64 cut]] w (Ret (.bool true) w) := by
  by_cases h : 5000 < l.length ∨ (l.length ≤ 5000 ∧ 5000 < m.length)
  · exact frameBack_long w k cut v y l m hv hy h
  · by_cases h0 : 0 ≤ cut
    · have h1 := Int.emod_nonneg cut (show (11 + (l.length : Int)) ≠ 0 by omega)
      have h2 := Int.emod_lt_of_pos cut (show 0 < 11 + (l.length : Int) by omega)
      exact frameBack_walk' w k (cut % (11 + (l.length : Int))).toNat cut v y l m hv hy (by omega) (by omega) hk (.inl ⟨h0, by omega⟩) (by omega)
    · have h1 := Int.emod_nonneg (-(cut + 1)) (show (11 + (l.length : Int)) ≠ 0 by omega)
      have h2 := Int.emod_lt_of_pos (-(cut + 1)) (show 0 < 11 + (l.length : Int) by omega)
      exact frameBack_walk' w k (-(cut + 1) % (11 + (l.length : Int))).toNat cut v y l m hv hy (by omega) (by omega) hk (.inr ⟨by omega, hc.1, by omega⟩) (by omega)

theorem frameByte_walk (w : World) (k b : Nat) (at' : Int) (v : Value) (l : List Nat) (hk : k < 256) (hb : b < 256) (hc : -9223372036854775808 ≤ at' ∧ at' ≤ 9223372036854775807) (hv : BytesAt w v l) :
    Calls Try.prog 8 #[.agg #[.int .u8 k, v, .int .i64 at', .int .u8 b]] w (Ret (.bool true) w) := by
  rcases Nat.lt_or_ge 5000 l.length with h | h
  · exact frameByte_long w k at' b v l hv h
  · by_cases h0 : 0 ≤ at'
    · obtain ⟨Q, hQ⟩ : ∃ Q : Nat, at' % ((l.length : Int) + 5) = Q := ⟨(at' % ((l.length : Int) + 5)).toNat, by have := Int.emod_nonneg at' (show ((l.length : Int) + 5) ≠ 0 by omega); omega⟩
      have h2 := Int.emod_lt_of_pos at' (show 0 < (l.length : Int) + 5 by omega)
      exact frameByte_walk' w k b Q (if Q = 0 then 2 else 6 + Q) at' v l hv h hk hb (.inl ⟨h0, hc.2, hQ⟩) (by omega) (by split <;> omega)
    · obtain ⟨Q, hQ⟩ : ∃ Q : Nat, -(at' + 1) % ((l.length : Int) + 5) = Q := ⟨(-(at' + 1) % ((l.length : Int) + 5)).toNat, by have := Int.emod_nonneg (-(at' + 1)) (show ((l.length : Int) + 5) ≠ 0 by omega); omega⟩
      have h2 := Int.emod_lt_of_pos (-(at' + 1)) (show 0 < (l.length : Int) + 5 by omega)
      exact frameByte_walk' w k b Q (if Q = 0 then 2 else 6 + Q) at' v l hv h hk hb (.inr ⟨by omega, hc.1, hQ⟩) (by omega) (by split <;> omega)

theorem frameStream_walk (w : World) (v : Value) (cut : Int) (fs : List (Nat × List Nat)) (hv : FramesAt w v fs) (hfs : ∀ f ∈ fs, f.1 < 256 ∧ ∀ x ∈ f.2, x < 256) (h1 : -9223372036854775808 ≤ cut) (_ : cut ≤ 9223372036854775807) :
    Calls Try.prog 9 #[v, .int .i64 cut] w (Ret (.bool true) w) := by
  by_cases h0 : 0 ≤ cut
  · exact frameStream_walk' w v fs cut (cut % 14).toNat hv hfs (.inl ⟨h0, by omega⟩) (by omega)
  · exact frameStream_walk' w v fs cut (-(cut + 1) % 14).toNat hv hfs (.inr ⟨by omega, h1, by omega⟩) (by omega)
end Go.Proofs.Ytmeofjoamcghhaa
