/-
  Take, the document's own answer: what is read is written again.
-/
import Derived.Test.YtdonbgejnllhlaaVaBytes
import Derived.Deep.RegionHeld3
import Derived.Deep.QuietTactic
import Derived.BigQuiet
import Derived.IntWalk
namespace Go.Proofs.Ytdonbgejnllhlaa
open Go.RowKit Go.Sort


set_option maxRecDepth 20000 in
set_option maxHeartbeats 2000000 in
theorem refTake_any (b off c : Nat) (l : List Nat) (n k e : Nat) (ht : Hid (Taken l n k e)) (hlen : (l.length : Int) ≤ 9223372036854775807) (hlc : (l.length : Int) ≤ c) (hcm : (c : Int) ≤ 9223372036854775807) (hby : Hid (∀ x ∈ l, x < 256)) (w : World) (hbw : b < w.heap.size)
    (hc : Hid (∀ i, i < l.length → w.cell? ⟨b, off + i, none⟩ = some (.int .u8 (l.getD i 0 : Nat)))) :
    Calls Try.prog 34 #[.slice (some ⟨b, off, none⟩) l.length c] w (Ret (.tuple #[.int .u64 n, .int .i64 k, .int .i64 e]) w) := by
  go_enter Try.func34, Try.ntmps34
  go_wp2
  go_loop [5, 6] (fun t i => ∃ j : Nat, i = .int .i64 j ∧ j ≤ l.length ∧ j ≤ 10 ∧ t = .int .u64 ((val (l.take j) % 18446744073709551616 : Nat) : Int) ∧ Hid (∀ p, p < j → 128 ≤ l.getD p 0)) (fun _ i => 10 - (intOf i).toNat)
  case atStart => exact ⟨0, rfl, by omega, by omega, rfl, Lib.hid (by omega)⟩
  case round =>
    obtain ⟨j, rfl, hj, hj10, rfl, hg⟩ := hrel
    have HJ : (j < l.length ∧ j < 10) ∨ (j < l.length ∧ j = 10) ∨ j = l.length := by omega
    rcases HJ with ⟨hjl, hjt⟩ | HJ
    · obtain ⟨d, hd⟩ : ∃ d : Nat, l.getD j 0 = d := ⟨_, rfl⟩
      have hcell : w.cell? ⟨b, off + j, none⟩ = some (.int .u8 d) := by rw [← hd]; exact hc.out j (by omega)
      have hd256 : d < 256 := by rw [← hd]; simp only [List.getD]; rw [List.getElem?_eq_getElem (by omega)]; exact hby.out _ (List.getElem_mem _)
      have hsum := val_take_mod (l := l) (i := j) (by omega)
      rw [hd] at hsum
      have hdj := Lib.hid hd
      clear hd
      obtain ⟨R, hR⟩ : ∃ R : Nat, val (l.take (j + 1)) % 18446744073709551616 = R := ⟨_, rfl⟩
      have hRb : R < 18446744073709551616 := by omega
      rw [hR] at hsum
      have hsum := sum_wrap hsum
      have hR := Lib.hid hR
      obtain ⟨V, hV⟩ : ∃ V : Nat, val (l.take j) % 18446744073709551616 = V := ⟨_, rfl⟩
      have hVb : V < 18446744073709551616 := by omega
      rw [hV]
      rw [hV] at hsum
      clear hV
      rcases Nat.lt_or_ge d 128 with h128 | h128
      · -- the bytes, read and written again
        have hbt : BytesAt w (.slice (some ⟨b, off, none⟩) (j + 1) c) (l.take (j + 1)) := by
          refine ⟨some ⟨b, off, none⟩, c, by rw [List.length_take, Nat.min_eq_left (by omega)], by rw [List.length_take]; omega, by unfold maxLen; omega, fun x hx => hby.out x (List.mem_of_mem_take hx), fun _ => ⟨b, off, rfl, hbw, fun i hi => ?_⟩, fun h => by cases h⟩
          rw [List.length_take] at hi
          rw [hc.out i (by omega)]
          simp [List.getD, show i < j + 1 by omega]
        obtain ⟨T, hT⟩ : ∃ T, strB (l.take (j + 1)) = T := ⟨_, rfl⟩
        obtain ⟨U, hU⟩ : ∃ U, strB (putL R) = U := ⟨_, rfl⟩
        have hput : ∀ w : World, Calls Try.prog 28 #[.int .u64 R] w fun e w' => ∃ v, e = .returned v ∧ (convert 26 9 v).run Try.prog w' = .ok (.string U) w' ∧ Below w.heap.size w w' := fun w =>
          (refPut_any R hRb w).mono fun e w' ⟨v, h1, h2, h3⟩ => ⟨v, h1, by rw [← hU]; exact run_bytes (h2.bytes (putL_byte R)), h3⟩
        have hput := hide hput
        have HQ : ((U.toList == T.toList) = true ∧ n = R ∧ k = j + 1 ∧ e = 0) ∨ ((U.toList == T.toList) = false ∧ n = 0 ∧ k = 0 ∧ e = 31) := by
          rcases hE : endsB j d with _ | _
          · obtain ⟨h1, h2, h3, h4⟩ := taken_not (i := j) ht.out hjl (by omega) hg.out (by rw [hdj.out]; exact h128) (by rw [hdj.out]; exact of_decide_eq_false hE)
            refine .inr ⟨?_, h1, h2, h3⟩
            rw [hR.out] at h4
            rw [← hU, ← hT, beq_eq_false_iff_ne]
            intro h'
            rw [ByteArray.toList_eq, ByteArray.toList_eq] at h'
            exact h4 (strB_inj (putL_byte R) (fun x hx => hby.out x (List.mem_of_mem_take hx)) (ByteArray.ext (Array.toList_inj.1 h')))
          · obtain ⟨h1, h2, h3, h4⟩ := taken_yes (i := j) ht.out hjl (by omega) hby.out hg.out (by rw [hdj.out]; exact h128) (by rw [hdj.out]; exact (of_decide_eq_true hE).1) (by rw [hdj.out]; exact (of_decide_eq_true hE).2)
            rw [hR.out] at h1 h4
            refine .inl ⟨?_, h1, h2, h3⟩
            rw [← hU, ← hT, h4]
            simp
        have hcv0 : (convert 26 9 (.slice (some ⟨b, off, none⟩) (j + 1) c)).run Try.prog w.drew = .ok (.string T) w.drew := by rw [← hT]; exact run_bytes (w := w.drew) hbt
        have hbt := Lib.hid hbt
        have hT := Lib.hid hT
        have hU := Lib.hid hU
        rcases HQ with ⟨hq, rfl, rfl, rfl⟩ | ⟨hq, rfl, rfl, rfl⟩
        all_goals
          go_wp2_with (fail)
          clear hsum
          have hz0 : (0 : Int) ≤ ↑j + 1 := by omega
          have hz1 : (↑j + 1 : Int).toNat = j + 1 := by omega
          have hz2 : (↑j + 1 : Int) ≤ c := by omega
          have hz3 : IntKind.i64.wrap (↑j + 1) = ↑j + 1 := IntWalk.i64_in _ (by omega)
          go_region_with ((go_at_call 28; refine (hput.out _).mono ?_; rintro e w1 ⟨v, rfl, hcv1, hb1⟩; have hcv2 : (convert 26 9 (.slice (some ⟨b, off, none⟩) (j + 1) c)).run Try.prog w1 = .ok (.string T) w1 := by rw [← hT.out]; exact run_bytes (BytesAt.below (w := w.drew) hbt.out hb1)))
          all_goals
            clear hz3
            go_wp2
            go_ret3
            exact ⟨by first | rfl | exact ret_three rfl (by omega) rfl, then_call (Below.drew (Below.refl _ _)) hb1⟩
      · have hg2 : Hid (∀ p, p < j + 1 → 128 ≤ l.getD p 0) := Lib.hid (fun p hp => by
          rcases Nat.lt_or_ge p j with h | h
          · exact hg.out p h
          · obtain rfl : p = j := by omega
            rw [hdj.out]; exact h128)
        go_wp2
        exact ⟨⟨j + 1, by go_num, by omega, by omega, by rw [hR.out], hg2⟩, by simp [intOf]; omega⟩
    · obtain ⟨rfl, rfl, rfl⟩ := taken_end ht.out (fun p hp hp' => hg.out p (by omega))
      obtain ⟨V, hV⟩ : ∃ V : Nat, val (l.take j) % 18446744073709551616 = V := ⟨_, rfl⟩
      rw [hV]
      clear hV
      rcases HJ with ⟨h1, rfl⟩ | h1
      · go_wp2
        go_ret3
        exact ⟨rfl, Below.refl _ _⟩
      · have h2 : decide ((j : Int) < l.length) = false := decide_eq_false (by omega)
        go_wp2
        go_ret3
        exact ⟨rfl, Below.refl _ _⟩

set_option maxRecDepth 20000 in
set_option maxHeartbeats 1000000 in
theorem refTake_nil (A : Option Addr) (c : Nat) (n k e : Nat) (ht : Hid (Taken [] n k e)) (w : World) :
    Calls Try.prog 34 #[.slice A 0 c] w (Ret (.tuple #[.int .u64 n, .int .i64 k, .int .i64 e]) w) := by
  obtain ⟨rfl, rfl, rfl⟩ := taken_end ht.out (fun p hp hp' => by simp at hp)
  go_enter Try.func34, Try.ntmps34
  go_wp2
  go_loop [5, 6] (fun t i => i = .int .i64 0) (fun _ i => 0)
  case atStart => rfl
  case round =>
    obtain rfl := hrel
    go_wp2
    go_ret3
    exact ⟨rfl, Below.refl _ _⟩

theorem refTake_at {w : World} {v : Value} {l : List Nat} {n k e : Nat} (hv : BytesAt w v l) (ht : Taken l n k e) :
    Calls Try.prog 34 #[v] w (Ret (.tuple #[.int .u64 n, .int .i64 k, .int .i64 e]) w) := by
  obtain ⟨A, c, rfl, h2, h3, h4, h5, _⟩ := hv
  have hm : (c : Int) ≤ 9223372036854775807 := by unfold maxLen at h3; omega
  rcases Nat.eq_zero_or_pos l.length with h0 | h0
  · have : l = [] := List.eq_nil_of_length_eq_zero h0
    subst this
    exact refTake_nil A c n k e (Lib.hid ht) w
  · obtain ⟨b, off, rfl, hb, hc⟩ := h5 h0
    exact refTake_any b off c l n k e (Lib.hid ht) (by omega) (by omega) hm (Lib.hid h4) w hb (Lib.hid hc)
end Go.Proofs.Ytdonbgejnllhlaa
