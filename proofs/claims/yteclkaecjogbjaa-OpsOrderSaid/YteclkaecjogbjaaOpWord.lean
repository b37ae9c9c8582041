/-
  Keys, names and values: which letters may be; the program and the document's own answer.
-/
import Derived.Test.YteclkaecjogbjaaOpDatum
import Derived.Lib.SlicesS
namespace Go.Proofs.Yteclkaecjogbjaa
open Go.RowKit Go.Sort

def letC (c : Nat) : Bool := decide (97 ≤ c ∧ c ≤ 122)
def prC (c : Nat) : Bool := decide (32 ≤ c ∧ c ≤ 126)
def keyC (c : Nat) : Bool := decide (48 ≤ c ∧ c ≤ 57 ∨ 97 ≤ c ∧ c ≤ 122)
def prI (c : Int) : Bool := decide (32 ≤ c ∧ c ≤ 126)
def allB (p : Nat → Bool) (s : ByteArray) : Bool := decide (∀ j, ∀ h : j < s.size, p s[j].toNat = true)
def keyB (s : ByteArray) : Bool := decide ((1 ≤ s.size ∧ s.size ≤ 64 ∧ ∀ h : s.size - 1 < s.size, s[s.size - 1].toNat ≠ 48) ∧ allB keyC s = true)
def nameB (s : ByteArray) : Bool := decide ((1 ≤ s.size ∧ s.size ≤ 8) ∧ allB letC s = true)
def valueB (s : ByteArray) : Bool := decide (s.size ≤ 16 ∧ allB prC s = true)

/-- It hands back a truth and leaves the world. -/
def Says (b : Bool) (w : World) : Ending → World → Prop := fun e w' => e = .returned (.bool b) ∧ w = w'

set_option maxHeartbeats 400000 in
theorem letter_any (c : Nat) (w : World) : Calls Try.prog 59 #[.int .u8 c] w (Says (letC c) w) := by
  have H : (decide (97 ≤ (c : Int)) = false ∧ Hid (letC c = false)) ∨ (decide (97 ≤ (c : Int)) = true ∧ decide ((c : Int) ≤ 122) = false ∧ Hid (letC c = false)) ∨ (decide (97 ≤ (c : Int)) = true ∧ decide ((c : Int) ≤ 122) = true ∧ Hid (letC c = true)) := by
    by_cases h1 : 97 ≤ c
    · by_cases h2 : c ≤ 122
      · exact .inr (.inr ⟨decide_eq_true (by omega), decide_eq_true (by omega), Lib.hid (decide_eq_true ⟨h1, h2⟩)⟩)
      · exact .inr (.inl ⟨decide_eq_true (by omega), decide_eq_false (by omega), Lib.hid (decide_eq_false (by omega))⟩)
    · exact .inl ⟨decide_eq_false (by omega), Lib.hid (decide_eq_false (by omega))⟩
  rcases H with ⟨h1, H⟩ | ⟨h1, h2, H⟩ | ⟨h1, h2, H⟩
  all_goals
    go_enter Try.func59, Try.ntmps59
    go_wp2
    go_ret
    exact ⟨ret_bool H.out.symm, rfl⟩

set_option maxHeartbeats 400000 in
theorem printable_any (c : Int) (w : World) : Calls Try.prog 56 #[.int .i64 c] w (Says (prI c) w) := by
  have H : (decide (32 ≤ c) = false ∧ Hid (prI c = false)) ∨ (decide (32 ≤ c) = true ∧ decide (c ≤ 126) = false ∧ Hid (prI c = false)) ∨ (decide (32 ≤ c) = true ∧ decide (c ≤ 126) = true ∧ Hid (prI c = true)) := by
    by_cases h1 : 32 ≤ c
    · by_cases h2 : c ≤ 126
      · exact .inr (.inr ⟨decide_eq_true (by omega), decide_eq_true (by omega), Lib.hid (decide_eq_true ⟨h1, h2⟩)⟩)
      · exact .inr (.inl ⟨decide_eq_true (by omega), decide_eq_false (by omega), Lib.hid (decide_eq_false (by omega))⟩)
    · exact .inl ⟨decide_eq_false (by omega), Lib.hid (decide_eq_false (by omega))⟩
  rcases H with ⟨h1, H⟩ | ⟨h1, h2, H⟩ | ⟨h1, h2, H⟩
  all_goals
    go_enter Try.func56, Try.ntmps56
    go_wp2
    go_ret
    exact ⟨ret_bool H.out.symm, rfl⟩

set_option maxHeartbeats 400000 in
theorem keyCh_any (c : Nat) (w : World) : Calls Try.prog 58 #[.int .u8 c] w (Says (keyC c) w) := by
  have H : (decide (48 ≤ (c : Int)) = false ∧ Hid (letC c = keyC c)) ∨ (decide (48 ≤ (c : Int)) = true ∧ decide ((c : Int) ≤ 57) = false ∧ Hid (letC c = keyC c)) ∨ (decide (48 ≤ (c : Int)) = true ∧ decide ((c : Int) ≤ 57) = true ∧ Hid (true = keyC c)) := by
    by_cases h1 : 48 ≤ c
    · by_cases h2 : c ≤ 57
      · exact .inr (.inr ⟨decide_eq_true (by omega), decide_eq_true (by omega), Lib.hid (decide_eq_true (.inl ⟨h1, h2⟩)).symm⟩)
      · exact .inr (.inl ⟨decide_eq_true (by omega), decide_eq_false (by omega), Lib.hid (decide_eq_decide.2 (by omega))⟩)
    · exact .inl ⟨decide_eq_false (by omega), Lib.hid (decide_eq_decide.2 (by omega))⟩
  rcases H with ⟨h1, H⟩ | ⟨h1, h2, H⟩ | ⟨h1, h2, H⟩
  all_goals
    go_enter Try.func58, Try.ntmps58
    go_wp2_with (go_at_call 59; refine (letter_any _ _).mono ?_; rintro e w' ⟨rfl, rfl⟩)
    go_ret
    exact ⟨ret_bool H.out, rfl⟩

set_option maxHeartbeats 400000 in
theorem valueCh_any (c : Nat) (hc : c < 256) (w : World) : Calls Try.prog 60 #[.int .u8 c] w (Says (prC c) w) := by
  have H : prI c = prC c := decide_eq_decide.2 (by omega)
  have H := Lib.hid H
  go_enter Try.func60, Try.ntmps60
  go_wp2_with (go_at_call 56; refine (printable_any c _).mono ?_; rintro e w' ⟨rfl, rfl⟩)
  go_ret
  exact ⟨by rfl, rfl⟩

set_option maxHeartbeats 800000 in
/-- 'all', over keyC. -/
theorem all_key (s : ByteArray) (hs : s.size ≤ 9223372036854775807) (w : World) :
    Calls Try.prog 57 #[.string s, .func (.func 58) #[] #[]] w (Says (allB keyC s) w) := by
  go_enter Try.func57, Try.ntmps57
  go_wp2
  go_loop [8] (fun i => ∃ k : Nat, i = .int .i64 k ∧ k ≤ s.size ∧ Hid (∀ j, j < k → ∀ h : j < s.size, keyC s[j].toNat = true)) (fun i => s.size - (intOf i).toNat)
  case atStart => exact ⟨0, rfl, by omega, Lib.hid (by omega)⟩
  case round =>
    obtain ⟨k, rfl, hk, hall⟩ := hrel
    by_cases hlt : k < s.size
    · obtain ⟨c, hc⟩ : ∃ c : Nat, s[k].toNat = c := ⟨_, rfl⟩
      have hb : c < 256 := by have := s[k].toNat_lt; omega
      cases hpc : keyC c with
      | false =>
        have hr : Hid (allB keyC s = false) := Lib.hid (decide_eq_false (fun h => by have := h k hlt; rw [hc, hpc] at this; cases this))
        go_wp2_with fail
        refine (keyCh_any c _).mono ?_
        rintro e w' ⟨rfl, rfl⟩
        rw [hpc]
        go_wp2
        go_ret
        exact ⟨ret_bool hr.out.symm, rfl⟩
      | true =>
        have hnext : Hid (∀ j, j < k + 1 → ∀ h : j < s.size, keyC s[j].toNat = true) := Lib.hid (fun j hj h => by
            rcases Nat.lt_or_ge j k with h' | h'
            · exact hall.out j h' h
            · obtain rfl : j = k := by omega
              rw [hc]; exact hpc)
        clear hall
        go_wp2_with fail
        refine (keyCh_any c _).mono ?_
        rintro e w' ⟨rfl, rfl⟩
        rw [hpc]
        go_wp2
        exact ⟨⟨k + 1, by go_num, by omega, hnext⟩, by simp [intOf]; omega⟩
    · have hks : k = s.size := by omega
      have hr : Hid (allB keyC s = true) := Lib.hid (decide_eq_true (fun j h => hall.out j (by omega) h))
      clear hall
      go_wp2
      go_ret
      exact ⟨ret_bool hr.out.symm, rfl⟩
set_option maxHeartbeats 800000 in
/-- 'all', over letC. -/
theorem all_name (s : ByteArray) (hs : s.size ≤ 9223372036854775807) (w : World) :
    Calls Try.prog 57 #[.string s, .func (.func 59) #[] #[]] w (Says (allB letC s) w) := by
  go_enter Try.func57, Try.ntmps57
  go_wp2
  go_loop [8] (fun i => ∃ k : Nat, i = .int .i64 k ∧ k ≤ s.size ∧ Hid (∀ j, j < k → ∀ h : j < s.size, letC s[j].toNat = true)) (fun i => s.size - (intOf i).toNat)
  case atStart => exact ⟨0, rfl, by omega, Lib.hid (by omega)⟩
  case round =>
    obtain ⟨k, rfl, hk, hall⟩ := hrel
    by_cases hlt : k < s.size
    · obtain ⟨c, hc⟩ : ∃ c : Nat, s[k].toNat = c := ⟨_, rfl⟩
      have hb : c < 256 := by have := s[k].toNat_lt; omega
      cases hpc : letC c with
      | false =>
        have hr : Hid (allB letC s = false) := Lib.hid (decide_eq_false (fun h => by have := h k hlt; rw [hc, hpc] at this; cases this))
        go_wp2_with fail
        refine (letter_any c _).mono ?_
        rintro e w' ⟨rfl, rfl⟩
        rw [hpc]
        go_wp2
        go_ret
        exact ⟨ret_bool hr.out.symm, rfl⟩
      | true =>
        have hnext : Hid (∀ j, j < k + 1 → ∀ h : j < s.size, letC s[j].toNat = true) := Lib.hid (fun j hj h => by
            rcases Nat.lt_or_ge j k with h' | h'
            · exact hall.out j h' h
            · obtain rfl : j = k := by omega
              rw [hc]; exact hpc)
        clear hall
        go_wp2_with fail
        refine (letter_any c _).mono ?_
        rintro e w' ⟨rfl, rfl⟩
        rw [hpc]
        go_wp2
        exact ⟨⟨k + 1, by go_num, by omega, hnext⟩, by simp [intOf]; omega⟩
    · have hks : k = s.size := by omega
      have hr : Hid (allB letC s = true) := Lib.hid (decide_eq_true (fun j h => hall.out j (by omega) h))
      clear hall
      go_wp2
      go_ret
      exact ⟨ret_bool hr.out.symm, rfl⟩
set_option maxHeartbeats 800000 in
/-- 'all', over prC. -/
theorem all_value (s : ByteArray) (hs : s.size ≤ 9223372036854775807) (w : World) :
    Calls Try.prog 57 #[.string s, .func (.func 60) #[] #[]] w (Says (allB prC s) w) := by
  go_enter Try.func57, Try.ntmps57
  go_wp2
  go_loop [8] (fun i => ∃ k : Nat, i = .int .i64 k ∧ k ≤ s.size ∧ Hid (∀ j, j < k → ∀ h : j < s.size, prC s[j].toNat = true)) (fun i => s.size - (intOf i).toNat)
  case atStart => exact ⟨0, rfl, by omega, Lib.hid (by omega)⟩
  case round =>
    obtain ⟨k, rfl, hk, hall⟩ := hrel
    by_cases hlt : k < s.size
    · obtain ⟨c, hc⟩ : ∃ c : Nat, s[k].toNat = c := ⟨_, rfl⟩
      have hb : c < 256 := by have := s[k].toNat_lt; omega
      cases hpc : prC c with
      | false =>
        have hr : Hid (allB prC s = false) := Lib.hid (decide_eq_false (fun h => by have := h k hlt; rw [hc, hpc] at this; cases this))
        go_wp2_with fail
        refine (valueCh_any c hb _).mono ?_
        rintro e w' ⟨rfl, rfl⟩
        rw [hpc]
        go_wp2
        go_ret
        exact ⟨ret_bool hr.out.symm, rfl⟩
      | true =>
        have hnext : Hid (∀ j, j < k + 1 → ∀ h : j < s.size, prC s[j].toNat = true) := Lib.hid (fun j hj h => by
            rcases Nat.lt_or_ge j k with h' | h'
            · exact hall.out j h' h
            · obtain rfl : j = k := by omega
              rw [hc]; exact hpc)
        clear hall
        go_wp2_with fail
        refine (valueCh_any c hb _).mono ?_
        rintro e w' ⟨rfl, rfl⟩
        rw [hpc]
        go_wp2
        exact ⟨⟨k + 1, by go_num, by omega, hnext⟩, by simp [intOf]; omega⟩
    · have hks : k = s.size := by omega
      have hr : Hid (allB prC s = true) := Lib.hid (decide_eq_true (fun j h => hall.out j (by omega) h))
      clear hall
      go_wp2
      go_ret
      exact ⟨ret_bool hr.out.symm, rfl⟩
end Go.Proofs.Yteclkaecjogbjaa
