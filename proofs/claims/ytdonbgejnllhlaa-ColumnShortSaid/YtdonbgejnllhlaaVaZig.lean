/-
  Zig and Zag, the code's and the document's own: each hands back one number and leaves all as it was. And 'ends'.
-/
import Derived.Test.YtdonbgejnllhlaaBase
namespace Go.Proofs.Ytdonbgejnllhlaa
open Go.RowKit Go.Sort

def zig (n : Int) : Int := if n < 0 then -2 * n - 1 else 2 * n
def zag (m : Int) : Int := if m % 2 = 1 then -(m / 2) - 1 else m / 2

theorem zig_ways (n : Int) : (n < 0 ∧ Hid (zig n = -2 * n - 1)) ∨ (0 ≤ n ∧ Hid (zig n = 2 * n)) := by
  by_cases h : n < 0
  · exact .inl ⟨h, Lib.hid (by rw [zig, if_pos h])⟩
  · exact .inr ⟨by omega, Lib.hid (by rw [zig, if_neg h])⟩
theorem zag_ways (m : Int) : ∃ q : Int, (m = 2 * q + 1 ∧ Hid (zag m = -q - 1)) ∨ (m = 2 * q ∧ Hid (zag m = q)) := by
  refine ⟨m / 2, ?_⟩
  by_cases h : m % 2 = 1
  · exact .inl ⟨by omega, Lib.hid (by rw [zag, if_pos h])⟩
  · exact .inr ⟨by omega, Lib.hid (by rw [zag, if_neg h])⟩

theorem ret_u64 {a b : Int} (h : a = b) : Ending.returned (.int .u64 a) = .returned (.int .u64 b) := by rw [h]

set_option maxHeartbeats 400000 in
theorem zig_any (n : Int) (hl : -9223372036854775808 ≤ n) (hh : n ≤ 9223372036854775807) (w : World) :
    Calls Try.prog 27 #[.int .i64 n] w fun e w' => e = .returned (.int .u64 (zig n)) ∧ w = w' := by
  rcases zig_ways n with ⟨h1, H⟩ | ⟨h1, H⟩
  all_goals
    go_enter Try.func27, Try.ntmps27
    go_wp2
    go_ret
    exact ⟨ret_u64 (by have h := H.out; omega), rfl⟩

set_option maxHeartbeats 400000 in
theorem refZig_any (n : Int) (hl : -9223372036854775808 ≤ n) (hh : n ≤ 9223372036854775807) (w : World) :
    Calls Try.prog 29 #[.int .i64 n] w fun e w' => e = .returned (.int .u64 (zig n)) ∧ w = w' := by
  rcases zig_ways n with ⟨h1, H⟩ | ⟨h1, H⟩
  all_goals
    go_enter Try.func29, Try.ntmps29
    go_wp2
    go_ret
    exact ⟨ret_u64 (by have h := H.out; omega), rfl⟩

set_option maxHeartbeats 400000 in
theorem zag_any (m : Int) (hl : 0 ≤ m) (hh : m ≤ 18446744073709551615) (w : World) :
    Calls Try.prog 41 #[.int .u64 m] w fun e w' => e = .returned (.int .i64 (zag m)) ∧ w = w' := by
  obtain ⟨q, ⟨rfl, H⟩ | ⟨rfl, H⟩⟩ := zag_ways m
  all_goals
    go_enter Try.func41, Try.ntmps41
    go_wp2
    go_ret
    exact ⟨ret_int (by have h := H.out; omega), rfl⟩

set_option maxHeartbeats 400000 in
theorem refZag_any (m : Int) (hl : 0 ≤ m) (hh : m ≤ 18446744073709551615) (w : World) :
    Calls Try.prog 35 #[.int .u64 m] w fun e w' => e = .returned (.int .i64 (zag m)) ∧ w = w' := by
  obtain ⟨q, ⟨rfl, H⟩ | ⟨rfl, H⟩⟩ := zag_ways m
  all_goals
    go_enter Try.func35, Try.ntmps35
    go_wp2
    go_ret
    exact ⟨ret_int (by have h := H.out; omega), rfl⟩

/-- What 'ends' tells. -/
def endsB (i b : Nat) : Bool := decide ((i = 9 → b = 1) ∧ (i = 0 ∨ 0 < b))

set_option maxHeartbeats 400000 in
theorem ends_any (i b : Nat) (hb : b < 256) (w : World) :
    Calls Try.prog 42 #[.int .i64 i, .int .u8 b] w fun e w' => e = .returned (.bool (endsB i b)) ∧ w = w' := by
  have H : (i = 9 ∧ b = 1 ∧ Hid (endsB i b = true)) ∨ (i = 9 ∧ b ≠ 1 ∧ Hid (endsB i b = false)) ∨ (i = 0 ∧ Hid (endsB i b = true)) ∨ (i ≠ 0 ∧ i ≠ 9 ∧ b = 0 ∧ Hid (endsB i b = false)) ∨ (i ≠ 0 ∧ i ≠ 9 ∧ 0 < b ∧ Hid (endsB i b = true)) := by
    have ht : ∀ {p : Prop} [Decidable p], p → Hid (decide p = true) := fun h => decide_eq_true h
    have hf : ∀ {p : Prop} [Decidable p], ¬ p → Hid (decide p = false) := fun h => decide_eq_false h
    by_cases h9 : i = 9
    · by_cases hb : b = 1
      · exact .inl ⟨h9, hb, ht ⟨fun _ => hb, by omega⟩⟩
      · exact .inr (.inl ⟨h9, hb, hf (fun h => hb (h.1 h9))⟩)
    · by_cases h0 : i = 0
      · exact .inr (.inr (.inl ⟨h0, ht ⟨fun h => absurd h h9, .inl h0⟩⟩))
      · by_cases hb : b = 0
        · exact .inr (.inr (.inr (.inl ⟨h0, h9, hb, hf (fun h => by omega)⟩)))
        · exact .inr (.inr (.inr (.inr ⟨h0, h9, by omega, ht ⟨fun h => absurd h h9, by omega⟩⟩)))
  rcases H with ⟨rfl, rfl, H⟩ | ⟨rfl, h2, H⟩ | ⟨rfl, H⟩ | ⟨h1, h2, rfl, H⟩ | ⟨h1, h2, h3, H⟩
  · go_enter Try.func42, Try.ntmps42
    go_wp2
    go_ret
    exact ⟨ret_bool (by rw [H.out] <;> first | rfl | exact beq_false_of_ne (by omega)), rfl⟩
  · have hd : decide ((b : Int) = 1) = false := decide_eq_false (by omega)
    go_enter Try.func42, Try.ntmps42
    go_wp2
    go_ret
    exact ⟨ret_bool (by rw [H.out] <;> first | rfl | exact beq_false_of_ne (by omega)), rfl⟩
  · go_enter Try.func42, Try.ntmps42
    go_wp2
    go_ret
    exact ⟨ret_bool (by rw [H.out] <;> first | rfl | exact beq_false_of_ne (by omega)), rfl⟩
  · have hd : decide ((i : Int) = 9) = false := decide_eq_false (by omega)
    have hd2 : decide ((i : Int) = 0) = false := decide_eq_false (by omega)
    go_enter Try.func42, Try.ntmps42
    go_wp2
    go_ret
    exact ⟨ret_bool (by rw [H.out] <;> first | rfl | exact beq_false_of_ne (by omega)), rfl⟩
  · have hd : decide ((i : Int) = 9) = false := decide_eq_false (by omega)
    have hd2 : decide ((i : Int) = 0) = false := decide_eq_false (by omega)
    go_enter Try.func42, Try.ntmps42
    go_wp2
    go_ret
    exact ⟨ret_bool (by rw [H.out] <;> first | rfl | exact beq_false_of_ne (by omega)), rfl⟩
end Go.Proofs.Ytdonbgejnllhlaa
