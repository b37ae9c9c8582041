/-
  Take over any slice of bytes.
-/
import Derived.Test.YtdonbgejnllhlaaVaTake
import Derived.Test.YtdonbgejnllhlaaBySame
namespace Go.Proofs.Ytdonbgejnllhlaa
open Go.RowKit Go.Sort

theorem take_at {w : World} {v : Value} {l : List Nat} {n k e : Nat} (hv : BytesAt w v l) (ht : Taken l n k e) :
    Calls Try.prog 40 #[v] w fun e' w' => e' = .returned (.tuple #[.int .u64 n, .int .i64 k, .int .i64 e]) ∧ w = w' := by
  obtain ⟨A, c, rfl, h2, h3, h4, h5, _⟩ := hv
  have hm : (l.length : Int) ≤ 9223372036854775807 := by unfold maxLen at h3; omega
  rcases Nat.eq_zero_or_pos l.length with h0 | h0
  · have : l = [] := List.eq_nil_of_length_eq_zero h0
    subst this
    exact take_nil A c n k e (Lib.hid ht) w
  · obtain ⟨b, off, rfl, _, hc⟩ := h5 h0
    rcases Nat.lt_or_ge 10 l.length with h | h
    · exact take_long b off c l n k e (Lib.hid ht) hm (Lib.hid h4) w (Lib.hid hc) h
    · exact take_short b off c l n k e (Lib.hid ht) hm (Lib.hid h4) w (Lib.hid hc) h

theorem putL_bytes {w : World} {base : Nat} {v : Value} {n : Nat} (h : Own w base v (putL n)) : BytesAt w v (putL n) := h.bytes (putL_byte n)
end Go.Proofs.Ytdonbgejnllhlaa
