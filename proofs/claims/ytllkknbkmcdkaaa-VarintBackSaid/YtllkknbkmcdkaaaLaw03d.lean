/-
  Stage 3's statements, walked: VarintBack.
-/
import Derived.Test.YtllkknbkmcdkaaaLaw03c
import Derived.Deep.QuietTactic
import Derived.BigQuiet
namespace Go.Proofs.Ytllkknbkmcdkaaa
open Go.RowKit Go.Sort

theorem conv_drewN {w : World} {v : Value} {l : List Nat} (h : BytesAt w v l) (k : Nat) : (convert 24 9 v).run Try.prog (w.drewN k) = .ok (.string (strB l)) (w.drewN k) :=
  run_bytes (w := w.drewN k) h

theorem strB_beq {l m : List Nat} (hl : ∀ x ∈ l, x < 256) (hm : ∀ x ∈ m, x < 256) : ((strB l).toList == (strB m).toList) = decide (l = m) := by
  by_cases h : l = m
  · subst h; simp
  · rw [decide_eq_false h, beq_eq_false_iff_ne]
    intro h'
    rw [ByteArray.toList_eq, ByteArray.toList_eq] at h'
    exact h (strB_inj hl hm (ByteArray.ext (Array.toList_inj.1 h')))

set_option maxRecDepth 20000 in
set_option maxHeartbeats 2000000 in
theorem varintBack_long (n m : Nat) (w : World) (A : Option Addr) (c : Nat) (l : List Nat) (h : 1000 < l.length) :
    Calls Try.prog 6 #[.int .u64 n, .int .u64 m, .slice A l.length c] w (Ret (.bool true) w) := by
  go_enter Try.func6, Try.ntmps6
  go_wp2_with (go_at_call 13; refine (alive_any _).mono ?_; rintro e' w5 ⟨rfl, hb5⟩)
  go_ret
  exact ⟨rfl, hb5⟩

set_option maxRecDepth 20000 in
set_option maxHeartbeats 2000000 in
theorem varintBack_walk' (n m : Nat) (hn : n < 18446744073709551616) (hm : m < 18446744073709551616) (w : World) (A : Option Addr) (c : Nat) (l : List Nat) (hv : BytesAt w (.slice A l.length c) l) (hl : ∀ x ∈ l, x < 256) (h : l.length ≤ 1000) :
    Calls Try.prog 6 #[.int .u64 n, .int .u64 m, .slice A l.length c] w (Ret (.bool true) w) := by
  obtain ⟨L, hL⟩ : ∃ L, putL n = L := ⟨_, rfl⟩
  obtain ⟨M, hM⟩ : ∃ M, putL m = M := ⟨_, rfl⟩
  have hL1 : 1 ≤ L.length := by rw [← hL]; exact putL_pos n
  have hM1 : 1 ≤ M.length := by rw [← hM]; exact putL_pos m
  have hL10 : L.length ≤ 10 := by rw [← hL]; exact putL_len10 hn
  have hM10 : M.length ≤ 10 := by rw [← hM]; exact putL_len10 hm
  have hLb : ∀ x ∈ L, x < 256 := by rw [← hL]; exact putL_byte n
  have hMb : ∀ x ∈ M, x < 256 := by rw [← hM]; exact putL_byte m
  have hby : Hid (∀ x ∈ L ++ l, x < 256) := hide (by
    intro x hx
    rcases List.mem_append.1 hx with h | h
    · exact hLb x h
    · exact hl x h)
  have ht1 : Hid (Taken (L ++ l) n L.length 0) := hide (by have := taken_put hn l; rwa [hL] at this)
  have c1 := hide (fun w => put_at hL hn w)
  have c2 := hide (fun w => put_at hM hm w)
  have hv := hide hv
  have hways : ∃ q e : Bool, decide ((L.length : Int) ≤ M.length) = q ∧ ((n : Int) == m) = e ∧ (q = true → ((strB (M.take L.length)).toList == (strB L).toList) = e) ∧ (q = false → e = false) := by
    refine ⟨_, _, rfl, rfl, fun hq => ?_, fun hq => ?_⟩
    · rw [strB_beq (fun x hx => hMb x (List.mem_of_mem_take hx)) hLb]
      rw [Bool.eq_iff_iff, decide_eq_true_eq, beq_iff_eq]
      constructor
      · intro h'
        have h3 := List.take_append_drop L.length M
        rw [h'] at h3
        have := (putL_free n m (M.drop L.length) [] (by rw [hL, hM, h3, List.append_nil])).1
        omega
      · intro h'
        have : n = m := by omega
        rw [← hL, ← hM, this]
        simp
    · rw [beq_eq_false_iff_ne]
      intro h'
      have : n = m := by omega
      subst this
      rw [← hL, ← hM] at hq
      simp at hq
  obtain ⟨q, e, hq, he, hqe, hqf⟩ := hways
  obtain ⟨S, hS⟩ : ∃ S, strB (M.take L.length) = S := ⟨_, rfl⟩
  obtain ⟨T, hT⟩ : ∃ T, strB L = T := ⟨_, rfl⟩
  rw [hS, hT] at hqe
  have hS := hide hS
  have hT := hide hT
  clear hL hM hn hm hl hLb hMb
  go_enter Try.func6, Try.ntmps6
  go_wp2_with (first
    | (go_at_call 11; (first | (with_reducible refine (c1.out _).mono ?_; rintro e' w1 ⟨g1, k1, rfl, hB1, hc1, hd1, hb1⟩) | (with_reducible refine (c2.out _).mono ?_; rintro e' w2 ⟨g2, k2, rfl, hB2, hc2, hd2, hb2⟩; have hB1' := hide (hB1.below hb2); have hB2' := hide hB2; clear hB1 hB2)))
    | (at_builtin; refine append_bytes rfl (.tmp 25) (.tmp 26) rfl w2.heap.size rfl (own_made w2 _ rfl) rfl (hB1'.out.below (below_box1 _ _)) (by simp; omega) (by simp) ?_; intro v3 w3 ho3 hb3)
    | (at_builtin; refine append_bytes_at rfl (.tmp 27) (.tmp 28) rfl w2.heap.size rfl ho3 rfl ((hv.out.below (then_call hb1 hb2)).below ((below_box1 w2 _).trans hb3)) (by simp; omega) ?_ (L ++ l) (L.length + l.length) rfl (by simp) (by omega) ?_))
  · have := hb3.size; simp at this ⊢; omega
  · intro g k4 w4 ho4 hc4 hcm hg hb4
    have hw2 : Below w.heap.size w w2 := then_call hb1 hb2
    have hb24 : Below w2.heap.size w2 w4 := ((below_box1 w2 _).trans hb3).trans hb4
    have hw4 : Below w.heap.size w w4 := then_call hw2 hb24
    have hall : BytesAt w4 (.slice (some ⟨g, 0, none⟩) (L.length + l.length) k4) (L ++ l) := ho4.bytes hby.out
    have hall := hide hall
    have hBL := hide (hB1'.out.below hb24)
    have hBM := hide (hB2'.out.below hb24)
    clear hb1 hb2 hb3 hb4 ho3 ho4 hw2 hb24 hB1' hB2'
    go_wp2_with ((go_at_call 14; refine (take_at hall.out ht1.out).mono ?_; rintro e' w5 ⟨rfl, rfl⟩))
    have hcv1 : ∀ k, (convert 24 9 (.slice (some ⟨g1, 0, none⟩) L.length k1)).run Try.prog (w4.drewN k) = .ok (.string T) (w4.drewN k) := fun k => by rw [← hT.out]; exact conv_drewN hBL.out k
    rcases q with _ | _
    · obtain rfl := hqf rfl
      have hq2 : decide (L.length ≤ M.length) = false := decide_eq_false (fun h => by have := of_decide_eq_false hq; omega)
      go_quiet (fail)
      go_wp2_with ((go_at_call 13; refine (alive_any _).mono ?_; rintro e' w6 ⟨rfl, hb6⟩))
      go_ret
      exact ⟨rfl, then_call (below_drewN hw4 _) hb6⟩
    · have hqe := hqe rfl
      have hle : L.length ≤ M.length := by have := of_decide_eq_true hq; omega
      have hcv2 : ∀ k, (convert 24 9 (.slice (some ⟨g2, 0, none⟩) L.length k2)).run Try.prog (w4.drewN k) = .ok (.string S) (w4.drewN k) := fun k => by rw [← hS.out]; exact conv_drewN (hBM.out.upto L.length hle) k
      have hz : (L.length : Int) ≤ k2 := by omega
      rcases e with _ | _
      all_goals
        go_quiet (fail)
        go_wp2_with ((go_at_call 13; refine (alive_any _).mono ?_; rintro e' w6 ⟨rfl, hb6⟩))
        go_ret
        exact ⟨rfl, then_call (below_drewN hw4 _) hb6⟩

theorem varintBack_walk (w : World) (a b : Int) (A : Option Addr) (c : Nat) (l : List Nat) (h0 : 0 ≤ a) (h1 : a ≤ 18446744073709551615) (h2 : 0 ≤ b) (h3 : b ≤ 18446744073709551615) (hv : BytesAt w (.slice A l.length c) l) (hl : ∀ x ∈ l, x < 256) :
    Calls Try.prog 6 #[.int .u64 a, .int .u64 b, .slice A l.length c] w (Ret (.bool true) w) := by
  obtain ⟨n, rfl⟩ : ∃ n : Nat, a = n := ⟨a.toNat, by omega⟩
  obtain ⟨m, rfl⟩ : ∃ m : Nat, b = m := ⟨b.toNat, by omega⟩
  rcases Nat.lt_or_ge 1000 l.length with h | h
  · exact varintBack_long n m w A c l h
  · exact varintBack_walk' n m (by omega) (by omega) w A c l hv hl h
end Go.Proofs.Ytllkknbkmcdkaaa
