/-
  Take, the code's own: it hands back what the document says of the bytes, and leaves all as it was.
-/
import Derived.Test.YtdonbgejnllhlaaVaPut
import Derived.Test.YtdonbgejnllhlaaVaZig
namespace Go.Proofs.Ytdonbgejnllhlaa
open Go.RowKit Go.Sort

theorem ret_three {a b c a' b' c' : Int} (h1 : a = a') (h2 : b = b') (h3 : c = c') :
    Ending.returned (.tuple #[.int .u64 a, .int .i64 b, .int .i64 c]) = .returned (.tuple #[.int .u64 a', .int .i64 b', .int .i64 c']) := by rw [h1, h2, h3]

theorem ends_val {i b : Nat} {x : Bool} (h : endsB i b = x) (hb : b < 256) (w : World) :
    Calls Try.prog 42 #[.int .i64 i, .int .u8 b] w fun e w' => e = .returned (.bool x) ∧ w = w' := by
  subst h
  exact ends_any i b hb w

/-- The sum of a round, as the walk spells it. -/
theorem sum_wrap {V d j R : Nat} (h : (V + d % 128 * 2 ^ (7 * j) % 18446744073709551616) % 18446744073709551616 = R) :
    IntKind.u64.wrap ((V : Int) + IntKind.u64.wrap ((d : Int) % 128 * 2 ^ (7 * j))) = ((R : Nat) : Int) := by
  rw [IntKind.wrap_u64, IntKind.wrap_u64, ← h]
  rw [Int.natCast_emod, Int.natCast_add, Int.natCast_emod, Int.natCast_mul, Int.natCast_emod, Int.natCast_pow]
  rfl

set_option maxRecDepth 20000 in
set_option maxHeartbeats 2000000 in
theorem take_long (b off c : Nat) (l : List Nat) (n k e : Nat) (ht : Hid (Taken l n k e)) (hlen : (l.length : Int) ≤ 9223372036854775807) (hby : Hid (∀ x ∈ l, x < 256)) (w : World)
    (hc : Hid (∀ i, i < l.length → w.cell? ⟨b, off + i, none⟩ = some (.int .u8 (l.getD i 0 : Nat)))) (hl : 10 < l.length) :
    Calls Try.prog 40 #[.slice (some ⟨b, off, none⟩) l.length c] w fun e' w' => e' = .returned (.tuple #[.int .u64 n, .int .i64 k, .int .i64 e]) ∧ w = w' := by
  go_enter Try.func40, Try.ntmps40
  go_wp2
  go_loop [5, 10] (fun t i => ∃ j : Nat, i = .int .i64 j ∧ j ≤ 10 ∧ t = .int .u64 ((val (l.take j) % 18446744073709551616 : Nat) : Int) ∧ Hid (∀ p, p < j → 128 ≤ l.getD p 0)) (fun _ i => 10 - (intOf i).toNat)
  case atStart => exact ⟨0, rfl, by omega, rfl, Lib.hid (by omega)⟩
  case round =>
    obtain ⟨j, rfl, hj, rfl, hg⟩ := hrel
    rcases Nat.lt_or_ge j (10) with hjM | hjM
    · obtain ⟨d, hd⟩ : ∃ d : Nat, l.getD j 0 = d := ⟨_, rfl⟩
      have hcell : w.cell? ⟨b, off + j, none⟩ = some (.int .u8 d) := by rw [← hd]; exact hc.out j (by omega)
      have hd256 : d < 256 := by rw [← hd]; simp only [List.getD]; rw [List.getElem?_eq_getElem (by omega)]; exact hby.out _ (List.getElem_mem _)
      have hsum := val_take_mod (l := l) (i := j) (by omega)
      rw [hd] at hsum
      have hsum := Lib.hid (sum_wrap hsum)
      have hdj := Lib.hid hd
      clear hd
      obtain ⟨V, hV⟩ : ∃ V : Nat, val (l.take j) % 18446744073709551616 = V := ⟨_, rfl⟩
      have hVb : V < 18446744073709551616 := by omega
      rw [hV]
      rw [hV] at hsum
      clear hV
      rcases Nat.lt_or_ge d 128 with h128 | h128
      · rcases hE : endsB j d with _ | _
        · obtain ⟨rfl, rfl, rfl, _⟩ := taken_not (i := j) ht.out (by omega) (by omega) hg.out (by rw [hdj.out]; exact h128) (by rw [hdj.out]; exact of_decide_eq_false hE)
          have hE' := Lib.hid hE
          clear hE
          go_wp2_with (go_at_call 42; refine (ends_val hE'.out hd256 _).mono ?_; rintro e w' ⟨rfl, rfl⟩)
          go_ret3
          exact ⟨rfl, rfl⟩
        · have H := taken_yes (i := j) ht.out (by omega) (by omega) hby.out hg.out (by rw [hdj.out]; exact h128) (by rw [hdj.out]; exact (of_decide_eq_true hE).1) (by rw [hdj.out]; exact (of_decide_eq_true hE).2)
          have H1 := Lib.hid H.1
          obtain ⟨rfl, rfl⟩ : k = j + 1 ∧ e = 0 := ⟨H.2.1, H.2.2.1⟩
          clear H
          have hE' := Lib.hid hE
          clear hE
          go_wp2_with (go_at_call 42; refine (ends_val hE'.out hd256 _).mono ?_; rintro e w' ⟨rfl, rfl⟩)
          go_ret3
          exact ⟨ret_three (by rw [hsum.out, H1.out]) (by omega) rfl, rfl⟩
      · have hg2 : Hid (∀ p, p < j + 1 → 128 ≤ l.getD p 0) := Lib.hid (fun p hp => by
          rcases Nat.lt_or_ge p j with h | h
          · exact hg.out p h
          · obtain rfl : p = j := by omega
            rw [hdj.out]; exact h128)
        go_wp2
        exact ⟨⟨j + 1, by go_num, by omega, by rw [hsum.out], hg2⟩, by simp [intOf]; omega⟩
    · obtain ⟨rfl, rfl, rfl⟩ := taken_end ht.out (fun p hp hp' => hg.out p (by omega))
      obtain ⟨V, hV⟩ : ∃ V : Nat, val (l.take j) % 18446744073709551616 = V := ⟨_, rfl⟩
      rw [hV]
      clear hV
      go_wp2
      go_ret3
      exact ⟨rfl, rfl⟩

set_option maxRecDepth 20000 in
set_option maxHeartbeats 2000000 in
theorem take_short (b off c : Nat) (l : List Nat) (n k e : Nat) (ht : Hid (Taken l n k e)) (hlen : (l.length : Int) ≤ 9223372036854775807) (hby : Hid (∀ x ∈ l, x < 256)) (w : World)
    (hc : Hid (∀ i, i < l.length → w.cell? ⟨b, off + i, none⟩ = some (.int .u8 (l.getD i 0 : Nat)))) (hl : l.length ≤ 10) :
    Calls Try.prog 40 #[.slice (some ⟨b, off, none⟩) l.length c] w fun e' w' => e' = .returned (.tuple #[.int .u64 n, .int .i64 k, .int .i64 e]) ∧ w = w' := by
  go_enter Try.func40, Try.ntmps40
  go_wp2
  go_loop [5, 10] (fun t i => ∃ j : Nat, i = .int .i64 j ∧ j ≤ l.length ∧ t = .int .u64 ((val (l.take j) % 18446744073709551616 : Nat) : Int) ∧ Hid (∀ p, p < j → 128 ≤ l.getD p 0)) (fun _ i => l.length - (intOf i).toNat)
  case atStart => exact ⟨0, rfl, by omega, rfl, Lib.hid (by omega)⟩
  case round =>
    obtain ⟨j, rfl, hj, rfl, hg⟩ := hrel
    rcases Nat.lt_or_ge j (l.length) with hjM | hjM
    · obtain ⟨d, hd⟩ : ∃ d : Nat, l.getD j 0 = d := ⟨_, rfl⟩
      have hcell : w.cell? ⟨b, off + j, none⟩ = some (.int .u8 d) := by rw [← hd]; exact hc.out j (by omega)
      have hd256 : d < 256 := by rw [← hd]; simp only [List.getD]; rw [List.getElem?_eq_getElem (by omega)]; exact hby.out _ (List.getElem_mem _)
      have hsum := val_take_mod (l := l) (i := j) (by omega)
      rw [hd] at hsum
      have hsum := Lib.hid (sum_wrap hsum)
      have hdj := Lib.hid hd
      clear hd
      obtain ⟨V, hV⟩ : ∃ V : Nat, val (l.take j) % 18446744073709551616 = V := ⟨_, rfl⟩
      have hVb : V < 18446744073709551616 := by omega
      rw [hV]
      rw [hV] at hsum
      clear hV
      rcases Nat.lt_or_ge d 128 with h128 | h128
      · rcases hE : endsB j d with _ | _
        · obtain ⟨rfl, rfl, rfl, _⟩ := taken_not (i := j) ht.out (by omega) (by omega) hg.out (by rw [hdj.out]; exact h128) (by rw [hdj.out]; exact of_decide_eq_false hE)
          have hE' := Lib.hid hE
          clear hE
          go_wp2_with (go_at_call 42; refine (ends_val hE'.out hd256 _).mono ?_; rintro e w' ⟨rfl, rfl⟩)
          go_ret3
          exact ⟨rfl, rfl⟩
        · have H := taken_yes (i := j) ht.out (by omega) (by omega) hby.out hg.out (by rw [hdj.out]; exact h128) (by rw [hdj.out]; exact (of_decide_eq_true hE).1) (by rw [hdj.out]; exact (of_decide_eq_true hE).2)
          have H1 := Lib.hid H.1
          obtain ⟨rfl, rfl⟩ : k = j + 1 ∧ e = 0 := ⟨H.2.1, H.2.2.1⟩
          clear H
          have hE' := Lib.hid hE
          clear hE
          go_wp2_with (go_at_call 42; refine (ends_val hE'.out hd256 _).mono ?_; rintro e w' ⟨rfl, rfl⟩)
          go_ret3
          exact ⟨ret_three (by rw [hsum.out, H1.out]) (by omega) rfl, rfl⟩
      · have hg2 : Hid (∀ p, p < j + 1 → 128 ≤ l.getD p 0) := Lib.hid (fun p hp => by
          rcases Nat.lt_or_ge p j with h | h
          · exact hg.out p h
          · obtain rfl : p = j := by omega
            rw [hdj.out]; exact h128)
        go_wp2
        exact ⟨⟨j + 1, by go_num, by omega, by rw [hsum.out], hg2⟩, by simp [intOf]; omega⟩
    · obtain ⟨rfl, rfl, rfl⟩ := taken_end ht.out (fun p hp hp' => hg.out p (by omega))
      obtain ⟨V, hV⟩ : ∃ V : Nat, val (l.take j) % 18446744073709551616 = V := ⟨_, rfl⟩
      rw [hV]
      clear hV
      go_wp2
      go_ret3
      exact ⟨rfl, rfl⟩

set_option maxRecDepth 20000 in
set_option maxHeartbeats 1000000 in
theorem take_nil (A : Option Addr) (c : Nat) (n k e : Nat) (ht : Hid (Taken [] n k e)) (w : World) :
    Calls Try.prog 40 #[.slice A 0 c] w fun e' w' => e' = .returned (.tuple #[.int .u64 n, .int .i64 k, .int .i64 e]) ∧ w = w' := by
  obtain ⟨rfl, rfl, rfl⟩ := taken_end ht.out (fun p hp hp' => by simp at hp)
  go_enter Try.func40, Try.ntmps40
  go_wp2
  go_loop [5, 10] (fun t i => i = .int .i64 0) (fun _ i => 0)
  case atStart => rfl
  case round =>
    obtain rfl := hrel
    go_wp2
    go_ret3
    exact ⟨rfl, rfl⟩
end Go.Proofs.Ytdonbgejnllhlaa
