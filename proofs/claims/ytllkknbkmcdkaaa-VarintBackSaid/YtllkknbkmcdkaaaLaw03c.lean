/-
  Stage 3's statements, walked: VarintLess.
-/
import Derived.Test.YtllkknbkmcdkaaaVaApp
import Derived.Test.YtllkknbkmcdkaaaLaw03
namespace Go.Proofs.Ytllkknbkmcdkaaa
open Go.RowKit Go.Sort

/-- Put, its row told. -/
theorem put_at {n : Nat} {L : List Nat} (hL : putL n = L) (hn : n < 18446744073709551616) (w : World) :
    Calls Try.prog 11 #[.int .u64 n] w fun e w' => ∃ g c : Nat, e = .returned (.slice (some ⟨g, 0, none⟩) L.length c) ∧ BytesAt w' (.slice (some ⟨g, 0, none⟩) L.length c) L ∧ (L.length : Int) ≤ c ∧ (c : Int) ≤ 9223372036854775807 ∧ Below w.heap.size w w' := by
  subst hL
  refine (put_any n hn w).mono ?_
  rintro e w' ⟨v, rfl, ho, hb⟩
  have hby := putL_bytes ho
  obtain ⟨g, c, rfl, h1, h2, _⟩ := own_at ho (by have := putL_pos n; omega)
  exact ⟨g, c, rfl, hby, by omega, by unfold maxLen at h2; omega, hb⟩

theorem taken_put {n : Nat} (hn : n < 18446744073709551616) (t : List Nat) : Taken (putL n ++ t) n (putL n).length 0 := .inl ⟨hn, List.prefix_append _ _, rfl, rfl⟩

set_option maxRecDepth 20000 in
set_option maxHeartbeats 2000000 in
theorem varintLess_walk' (n m : Nat) (hn : n < 18446744073709551616) (hm : m < 18446744073709551616) (w : World) :
    Calls Try.prog 9 #[.int .u64 n, .int .u64 m] w (Ret (.bool true) w) := by
  obtain ⟨L, hL⟩ : ∃ L, putL n = L := ⟨_, rfl⟩
  obtain ⟨M, hM⟩ : ∃ M, putL m = M := ⟨_, rfl⟩
  have hL1 : 1 ≤ L.length := by rw [← hL]; exact putL_pos n
  have hM1 : 1 ≤ M.length := by rw [← hM]; exact putL_pos m
  have hL10 : L.length ≤ 10 := by rw [← hL]; exact putL_len10 hn
  have hM10 : M.length ≤ 10 := by rw [← hM]; exact putL_len10 hm
  have hby : Hid (∀ x ∈ L ++ M, x < 256) := hide (by
    intro x hx
    rw [← hL, ← hM] at hx
    rcases List.mem_append.1 hx with h | h
    · exact putL_byte n x h
    · exact putL_byte m x h)
  have ht1 : Hid (Taken (L ++ M) n L.length 0) := hide (by have := taken_put hn M; rwa [hL] at this)
  have ht2 : Hid (Taken M m M.length 0) := hide (by have := taken_put hm []; rwa [hM, List.append_nil] at this)
  have c1 := hide (fun w => put_at hL hn w)
  have c2 := hide (fun w => put_at hM hm w)
  have hlast : m < n ∨ (n ≤ m ∧ L.length ≤ M.length) := by
    rcases Nat.lt_or_ge m n with h | h
    · exact .inl h
    · exact .inr ⟨h, by rw [← hL, ← hM]; exact putL_mono n m h⟩
  clear hL hM hn hm
  go_enter Try.func9, Try.ntmps9
  go_wp2_with (first
    | (go_at_call 11; (first | (with_reducible refine (c1.out _).mono ?_; rintro e' w1 ⟨g1, k1, rfl, hB1, hc1, hd1, hb1⟩) | (with_reducible refine (c2.out _).mono ?_; rintro e' w2 ⟨g2, k2, rfl, hB2, hc2, hd2, hb2⟩; have hB1' := hide (hB1.below hb2); have hB2' := hide hB2; clear hB1 hB2)))
    | (at_builtin; refine append_bytes rfl (.tmp 18) (.tmp 19) rfl w2.heap.size rfl (own_made w2 _ rfl) rfl (hB1'.out.below (below_box1 _ _)) (by simp; omega) (by simp) ?_; intro v3 w3 ho3 hb3)
    | (at_builtin; refine append_bytes_at rfl (.tmp 20) (.tmp 21) rfl w2.heap.size rfl ho3 rfl (hB2'.out.below ((below_box1 w2 _).trans hb3)) (by simp; omega) ?_ (L ++ M) (L.length + M.length) rfl (by simp) (by omega) ?_))
  · have := hb3.size; simp at this ⊢; omega
  · intro g c w4 ho4 hc4 hcm hg hb4
    have hw2 : Below w.heap.size w w2 := then_call hb1 hb2
    have hw4 : Below w.heap.size w w4 := then_call hw2 (((below_box1 w2 _).trans hb3).trans hb4)
    have hall : BytesAt w4 (.slice (some ⟨g, 0, none⟩) (L.length + M.length) c) (L ++ M) := ho4.bytes hby.out
    have htail := hall.from_ L.length (by simp)
    rw [List.drop_left' rfl, List.length_append, Nat.add_sub_cancel_left, Nat.zero_add] at htail
    have hall := hide hall
    have htail := hide htail
    have hcL : (L.length : Int) < c := by omega
    clear hb1 hb2 hb3 hb4 ho3 ho4 hw2
    rcases hlast with hnm | ⟨hnm, hlen⟩
    all_goals
      go_wp2_with (first
        | (go_at_call 14; (first | with_reducible refine (take_at hall.out ht1.out).mono ?_ | refine (take_at htail.out ht2.out).mono ?_); rintro e' w5 ⟨rfl, rfl⟩)
        | (go_at_call 13; refine (alive_any _).mono ?_; rintro e' w5 ⟨rfl, hb5⟩))
      go_ret
      exact ⟨rfl, then_call hw4 hb5⟩

theorem varintLess_walk (a b : Int) (h0 : 0 ≤ a) (h1 : a ≤ 18446744073709551615) (h2 : 0 ≤ b) (h3 : b ≤ 18446744073709551615) (w : World) : Calls Try.prog 9 #[.int .u64 a, .int .u64 b] w (Ret (.bool true) w) := by
  obtain ⟨n, rfl⟩ : ∃ n : Nat, a = n := ⟨a.toNat, by omega⟩
  obtain ⟨m, rfl⟩ : ∃ m : Nat, b = m := ⟨b.toNat, by omega⟩
  exact varintLess_walk' n m (by omega) (by omega) w
end Go.Proofs.Ytllkknbkmcdkaaa
