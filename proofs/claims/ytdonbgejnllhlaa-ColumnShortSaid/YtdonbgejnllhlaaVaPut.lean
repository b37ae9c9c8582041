/-
  Put, the code's and the document's own: each hands back a new row that holds the number's bytes, and leaves all as it was.
-/
import Derived.Test.YtdonbgejnllhlaaBy
import Derived.Test.YtdonbgejnllhlaaVaNum
namespace Go.Proofs.Ytdonbgejnllhlaa
open Go.RowKit Go.Sort

/-- The bytes that were put so far and those to come. -/
def Sofar (n m k : Nat) (l : List Nat) : Prop := putL n = l ++ putL m ∧ l.length = k

theorem sofar_lt {n m k : Nat} {l : List Nat} (h : Sofar n m k l) (hm : m < 128) : putL n = l ++ [m] := by rw [h.1, putL_lt hm]
theorem sofar_ge {n m k : Nat} {l : List Nat} (h : Sofar n m k l) (hm : 128 ≤ m) : Sofar n (m / 128) (k + 1) (l ++ [m % 128 + 128]) := by
  refine ⟨by rw [h.1, putL_ge hm]; simp, by simp [h.2]⟩
theorem sofar_len {n m k : Nat} {l : List Nat} (h : Sofar n m k l) (hn : n < 18446744073709551616) : k + 1 ≤ 10 ∧ (k = 9 → m < 128) := by
  have h1 := putL_len10 hn
  have h2 := putL_pos m
  have h3 := congrArg List.length h.1
  rw [List.length_append, h.2] at h3
  refine ⟨by omega, fun h9 => ?_⟩
  apply Decidable.byContradiction
  intro hm
  rw [putL_ge (show 128 ≤ m by omega), List.length_cons] at h3
  have := putL_pos (m / 128)
  omega

set_option maxRecDepth 20000 in
set_option maxHeartbeats 1000000 in
theorem refPut_any (n : Nat) (hn : n < 18446744073709551616) (w : World) :
    Calls Try.prog 28 #[.int .u64 n] w fun e w' => ∃ v, e = .returned v ∧ Own w' w.heap.size v (putL n) ∧ Below w.heap.size w w' := by
  obtain ⟨i0, hi0, hz0, hz1, hz2⟩ := info_parts info_u8
  go_enter Try.func28, Try.ntmps28
  go_wp2
  go_loopw [0, 3] (fun t v wr => ∃ (m k : Nat) (l : List Nat), t = .int .u64 m ∧ m < 18446744073709551616 ∧ Sofar n m k l ∧ Own wr w.heap.size v l ∧ Below w.heap.size w wr) (fun t _ _ => (intOf t).toNat)
  case atStart => exact ⟨n, 0, [], rfl, hn, ⟨rfl, rfl⟩, own_none _ _, Below.refl _ _⟩
  case round =>
    obtain ⟨m, k, l, rfl, hm, hs, hown, hbel⟩ := hrel
    have hlen := sofar_len hs hn
    have hl2 := hs.2
    have hcap : l.length ≤ 10 := by omega
    rcases Nat.lt_or_ge m 128 with h128 | h128
    · have hfin := Lib.hid (sofar_lt hs h128)
      clear hs hlen hl2
      have hwx : IntKind.u8.wrap (m : Int) = m := by rw [IntKind.wrap_u8]; omega
      go_wp2_with (at_builtin; refine wpList_append_own _ rfl (.tmp 15) (.tmp 18) _ rfl w.heap.size 5 i0 (.int .u8 0) 1 1 Try.underlying26 hi0 hz0 hz1 hz2 rfl (by decide) _ _ _ rfl (hown.alloc _) ⟨wr.heap.size, 0, none⟩ 1 1 [bval m] rfl rfl (cell_box wr m) (one_box m) ?c3 ?c4 ?c5 ?_)
      case c3 => unfold maxLen; omega
      case c4 => omega
      case c5 => have := hbel.size; simp; omega
      intro v1 w1 hown1 hg1 _
      obtain ⟨ho, hb⟩ := own_more hown hbel hown1 hg1
      clear hown hbel hown1 hg1
      go_wp2
      go_ret
      exact ⟨v1, rfl, by rw [hfin.out]; exact ho, hb⟩
    · have hnext := Lib.hid (sofar_ge hs h128)
      clear hs hl2
      go_wp2_with (at_builtin; refine wpList_append_own _ rfl (.tmp 6) (.tmp 11) _ rfl w.heap.size 5 i0 (.int .u8 0) 1 1 Try.underlying26 hi0 hz0 hz1 hz2 rfl (by decide) _ _ _ rfl (hown.alloc _) ⟨wr.heap.size, 0, none⟩ 1 1 [bval (m % 128 + 128)] rfl rfl (cell_box wr (m % 128 + 128)) (one_box _) ?d3 ?d4 ?d5 ?_)
      case d3 => unfold maxLen; omega
      case d4 => omega
      case d5 => have := hbel.size; simp; omega
      intro v1 w1 hown1 hg1 _
      obtain ⟨ho, hb⟩ := own_more hown hbel hown1 hg1
      clear hown hbel hown1 hg1
      go_wp2
      go_roundw
      case rel => exact ⟨m / 128, k + 1, _, by go_num, by omega, hnext.out, ho, hb⟩
      case measure => simp [intOf]; omega

set_option maxRecDepth 20000 in
set_option maxHeartbeats 1000000 in
theorem put_any (n : Nat) (hn : n < 18446744073709551616) (w : World) :
    Calls Try.prog 26 #[.int .u64 n] w fun e w' => ∃ v, e = .returned v ∧ Own w' w.heap.size v (putL n) ∧ Below w.heap.size w w' := by
  obtain ⟨i0, hi0, hz0, hz1, hz2⟩ := info_parts info_u8
  go_enter Try.func26, Try.ntmps26
  go_wp2
  go_loopw [0, 3, 4] (fun t v i wr => ∃ (m k : Nat) (l : List Nat), t = .int .u64 m ∧ i = .int .i64 k ∧ m < 18446744073709551616 ∧ Sofar n m k l ∧ Own wr w.heap.size v l ∧ Below w.heap.size w wr) (fun t _ _ _ => (intOf t).toNat)
  case atStart => exact ⟨n, 0, [], rfl, rfl, hn, ⟨rfl, rfl⟩, own_none _ _, Below.refl _ _⟩
  case round =>
    obtain ⟨m, k, l, rfl, rfl, hm, hs, hown, hbel⟩ := hrel
    have hlen := sofar_len hs hn
    have hl2 := hs.2
    have hcap : l.length ≤ 10 := by omega
    have hk10 : k < 10 := by omega
    rcases Nat.lt_or_ge m 128 with h128 | h128
    · have hfin := Lib.hid (sofar_lt hs h128)
      clear hs hlen hl2
      have hwx : IntKind.u8.wrap (m : Int) = m := by rw [IntKind.wrap_u8]; omega
      go_wp2_with (at_builtin; refine wpList_append_own _ rfl (.tmp 18) (.tmp 21) _ rfl w.heap.size 5 i0 (.int .u8 0) 1 1 Try.underlying26 hi0 hz0 hz1 hz2 rfl (by decide) _ _ _ rfl (hown.alloc _) ⟨wr.heap.size, 0, none⟩ 1 1 [bval m] rfl rfl (cell_box wr m) (one_box m) ?c3 ?c4 ?c5 ?_)
      case c3 => unfold maxLen; omega
      case c4 => omega
      case c5 => have := hbel.size; simp; omega
      intro v1 w1 hown1 hg1 _
      obtain ⟨ho, hb⟩ := own_more hown hbel hown1 hg1
      clear hown hbel hown1 hg1
      go_wp2
      go_ret
      exact ⟨v1, rfl, by rw [hfin.out]; exact ho, hb⟩
    · have hnext := Lib.hid (sofar_ge hs h128)
      clear hs hl2
      go_wp2_with (at_builtin; refine wpList_append_own _ rfl (.tmp 8) (.tmp 13) _ rfl w.heap.size 5 i0 (.int .u8 0) 1 1 Try.underlying26 hi0 hz0 hz1 hz2 rfl (by decide) _ _ _ rfl (hown.alloc _) ⟨wr.heap.size, 0, none⟩ 1 1 [bval (m % 128 + 128)] rfl rfl (cell_box wr (m % 128 + 128)) (one_box _) ?d3 ?d4 ?d5 ?_)
      case d3 => unfold maxLen; omega
      case d4 => omega
      case d5 => have := hbel.size; simp; omega
      intro v1 w1 hown1 hg1 _
      obtain ⟨ho, hb⟩ := own_more hown hbel hown1 hg1
      clear hown hbel hown1 hg1
      go_wp2
      go_roundw
      case rel => exact ⟨m / 128, k + 1, _, by go_num, by go_num, by omega, hnext.out, ho, hb⟩
      case measure => simp [intOf]; omega
end Go.Proofs.Ytdonbgejnllhlaa
