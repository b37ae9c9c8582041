/-
  Keys, names and values, whole: the program and the document's own answer.
-/
import Derived.Test.YteclkaecjogbjaaOpWord
namespace Go.Proofs.Yteclkaecjogbjaa
open Go.RowKit Go.Sort

theorem keyB_len0 {s : ByteArray} (h : s.size = 0) : keyB s = false := decide_eq_false (fun hh => by omega)
theorem keyB_long {s : ByteArray} (h : 64 < s.size) : keyB s = false := decide_eq_false (fun hh => by omega)
theorem keyB_zero {s : ByteArray} {m : Nat} (hm : s.size = m + 1) (hz : s[m].toNat = 48) : keyB s = false := decide_eq_false (fun hh => hh.1.2.2 (by omega) (by
  have e : s.size - 1 = m := by omega
  simp only [e]; exact hz))
theorem keyB_in {s : ByteArray} {m : Nat} (hm : s.size = m + 1) (h2 : m < 64) (hz : ¬ s[m].toNat = 48) : keyB s = allB keyC s := by
  rw [Bool.eq_iff_iff]
  simp only [keyB, decide_eq_true_eq]
  have e : s.size - 1 = m := by omega
  exact ⟨fun h => h.2, fun h3 => ⟨⟨by omega, by omega, fun _ => by simp only [e]; exact hz⟩, h3⟩⟩

set_option maxHeartbeats 800000 in
theorem keyRight_any (s : ByteArray) (w : World) (hs : s.size ≤ 9223372036854775807) :
    Calls Try.prog 51 #[.string s] w (Says (keyB s) w) := by
  by_cases h0 : s.size = 0
  · have hr := Lib.hid (keyB_len0 h0)
    have q1 : decide ((s.size : Int) < 1) = true := decide_eq_true (by omega)
    clear h0
    go_enter Try.func51, Try.ntmps51
    go_wp2
    go_ret
    exact ⟨ret_bool hr.out.symm, rfl⟩
  · by_cases h64 : 64 < s.size
    · have hr := Lib.hid (keyB_long h64)
      have q1 : decide ((s.size : Int) < 1) = false := decide_eq_false (by omega)
      have q2 : decide (64 < (s.size : Int)) = true := decide_eq_true (by omega)
      clear h0
      go_enter Try.func51, Try.ntmps51
      go_wp2
      go_ret
      exact ⟨ret_bool hr.out.symm, rfl⟩
    · obtain ⟨m, hm⟩ : ∃ m : Nat, s.size = m + 1 := ⟨s.size - 1, by omega⟩
      have hl : m < s.size := by omega
      obtain ⟨c, hc⟩ : ∃ c : Nat, s[m].toNat = c := ⟨_, rfl⟩
      by_cases hz : c = 48
      · have hr := Lib.hid (keyB_zero hm (hc.trans hz))
        have q1 : decide ((m : Int) + 1 < 1) = false := decide_eq_false (by omega)
        have q2 : decide (64 < (m : Int) + 1) = false := decide_eq_false (by omega)
        subst hz
        clear h0 h64
        go_enter Try.func51, Try.ntmps51
        go_wp2_with fail
        go_ret
        exact ⟨ret_bool hr.out.symm, rfl⟩
      · have hr := Lib.hid (keyB_in hm (by omega) (by omega))
        have q1 : decide ((m : Int) + 1 < 1) = false := decide_eq_false (by omega)
        have q2 : decide (64 < (m : Int) + 1) = false := decide_eq_false (by omega)
        have q3 : ((c : Int) == 48) = false := beq_eq_false_iff_ne.2 (by omega)
        clear h0 h64 hz
        go_enter Try.func51, Try.ntmps51
        go_wp2_with (go_at_call 57; refine (all_key s hs _).mono ?_; rintro e w' ⟨rfl, rfl⟩)
        go_ret
        exact ⟨ret_bool hr.out.symm, rfl⟩

theorem nameB_len0 {s : ByteArray} (h : s.size = 0) : nameB s = false := decide_eq_false (fun hh => by omega)
theorem nameB_long {s : ByteArray} (h : 8 < s.size) : nameB s = false := decide_eq_false (fun hh => by omega)
theorem nameB_in {s : ByteArray} (h1 : 1 ≤ s.size) (h2 : s.size ≤ 8) : nameB s = allB letC s := by
  rw [Bool.eq_iff_iff]
  simp only [nameB, decide_eq_true_eq]
  exact ⟨fun h => h.2, fun h3 => ⟨⟨h1, h2⟩, h3⟩⟩
theorem valueB_long {s : ByteArray} (h : 16 < s.size) : valueB s = false := decide_eq_false (fun hh => by omega)
theorem valueB_in {s : ByteArray} (h2 : s.size ≤ 16) : valueB s = allB prC s := by
  rw [Bool.eq_iff_iff]
  simp only [valueB, decide_eq_true_eq]
  exact ⟨fun h => h.2, fun h3 => ⟨h2, h3⟩⟩

set_option maxHeartbeats 800000 in
theorem nameRight_any (s : ByteArray) (w : World) (hs : s.size ≤ 9223372036854775807) :
    Calls Try.prog 52 #[.string s] w (Says (nameB s) w) := by
  have H : (decide (1 ≤ (s.size : Int)) = false ∧ Hid (nameB s = false)) ∨ (decide (1 ≤ (s.size : Int)) = true ∧ decide ((s.size : Int) ≤ 8) = false ∧ Hid (nameB s = false)) ∨ (decide (1 ≤ (s.size : Int)) = true ∧ decide ((s.size : Int) ≤ 8) = true ∧ Hid (nameB s = allB letC s)) := by
    by_cases h1 : 1 ≤ s.size
    · by_cases h2 : s.size ≤ 8
      · exact .inr (.inr ⟨decide_eq_true (by omega), decide_eq_true (by omega), nameB_in h1 h2⟩)
      · exact .inr (.inl ⟨decide_eq_true (by omega), decide_eq_false (by omega), nameB_long (by omega)⟩)
    · exact .inl ⟨decide_eq_false (by omega), nameB_len0 (by omega)⟩
  rcases H with ⟨h1, H⟩ | ⟨h1, h2, H⟩ | ⟨h1, h2, H⟩
  all_goals
    go_enter Try.func52, Try.ntmps52
    go_wp2_with (go_at_call 57; refine (all_name s hs _).mono ?_; rintro e w' ⟨rfl, rfl⟩)
    go_ret
    exact ⟨ret_bool H.out.symm, rfl⟩

set_option maxHeartbeats 800000 in
theorem valueRight_any (s : ByteArray) (w : World) (hs : s.size ≤ 9223372036854775807) :
    Calls Try.prog 53 #[.string s] w (Says (valueB s) w) := by
  have H : (decide ((s.size : Int) ≤ 16) = false ∧ Hid (valueB s = false)) ∨ (decide ((s.size : Int) ≤ 16) = true ∧ Hid (valueB s = allB prC s)) := by
    by_cases h2 : s.size ≤ 16
    · exact .inr ⟨decide_eq_true (by omega), valueB_in h2⟩
    · exact .inl ⟨decide_eq_false (by omega), valueB_long (by omega)⟩
  rcases H with ⟨h1, H⟩ | ⟨h1, H⟩
  all_goals
    go_enter Try.func53, Try.ntmps53
    go_wp2_with (go_at_call 57; refine (all_value s hs _).mono ?_; rintro e w' ⟨rfl, rfl⟩)
    go_ret
    exact ⟨ret_bool H.out.symm, rfl⟩

/-! ### The document's own answer -/

set_option maxHeartbeats 800000 in
theorem word_any (n : ByteArray) (w : World) (hn : n.size ≤ 9223372036854775807) :
    Calls Try.prog 31 #[.string n] w (Says (nameB n) w) := by
  go_enter Try.func31, Try.ntmps31
  go_wp2
  go_loop [3] (fun i => ∃ k : Nat, i = .int .i64 k ∧ k ≤ n.size ∧ Hid (∀ j, j < k → ∀ h : j < n.size, letC n[j].toNat = true)) (fun i => n.size - (intOf i).toNat)
  case atStart => exact ⟨0, rfl, by omega, Lib.hid (by omega)⟩
  case round =>
    obtain ⟨k, rfl, hk, hall⟩ := hrel
    by_cases hlt : k < n.size
    · obtain ⟨c, hc⟩ : ∃ c : Nat, n[k].toNat = c := ⟨_, rfl⟩
      have hb : c < 256 := by have := n[k].toNat_lt; omega
      have hbad : letC c = false → Hid (nameB n = false) := fun hf => Lib.hid (decide_eq_false (fun h => by
        have := (of_decide_eq_true h.2) k hlt; rw [hc, hf] at this; cases this))
      by_cases h1 : c < 97
      · have hr := hbad (decide_eq_false (by omega))
        clear hbad
        go_wp2
        go_ret
        exact ⟨ret_bool hr.out.symm, rfl⟩
      · by_cases h2 : 122 < c
        · have hr := hbad (decide_eq_false (by omega))
          clear hbad
          go_wp2
          go_ret
          exact ⟨ret_bool hr.out.symm, rfl⟩
        · have hnext : Hid (∀ j, j < k + 1 → ∀ h : j < n.size, letC n[j].toNat = true) := Lib.hid (fun j hj h => by
            rcases Nat.lt_or_ge j k with h' | h'
            · exact hall.out j h' h
            · obtain rfl : j = k := by omega
              rw [hc]; exact decide_eq_true (by omega))
          clear hall hbad
          go_wp2
          exact ⟨⟨k + 1, by go_num, by omega, hnext⟩, by simp [intOf]; omega⟩
    · have hks : k = n.size := by omega
      have hlt' : ¬ (k : Int) < n.size := by omega
      have ha : allB letC n = true := decide_eq_true (fun j h => hall.out j (by omega) h)
      have H : (decide (1 ≤ (n.size : Int)) = false ∧ Hid (nameB n = false)) ∨ (decide (1 ≤ (n.size : Int)) = true ∧ decide ((n.size : Int) ≤ 8) = false ∧ Hid (nameB n = false)) ∨ (decide (1 ≤ (n.size : Int)) = true ∧ decide ((n.size : Int) ≤ 8) = true ∧ Hid (nameB n = true)) := by
        by_cases h1 : 1 ≤ n.size
        · by_cases h2 : n.size ≤ 8
          · exact .inr (.inr ⟨decide_eq_true (by omega), decide_eq_true (by omega), (nameB_in h1 h2).trans ha⟩)
          · exact .inr (.inl ⟨decide_eq_true (by omega), decide_eq_false (by omega), nameB_long (by omega)⟩)
        · exact .inl ⟨decide_eq_false (by omega), nameB_len0 (by omega)⟩
      clear hall hks ha hlt
      rcases H with ⟨h1, H⟩ | ⟨h1, h2, H⟩ | ⟨h1, h2, H⟩
      all_goals
        go_wp2
        go_ret
        exact ⟨ret_bool H.out.symm, rfl⟩

set_option maxHeartbeats 800000 in
theorem refValue_any (n : ByteArray) (w : World) (hn : n.size ≤ 9223372036854775807) :
    Calls Try.prog 32 #[.string n] w (Says (valueB n) w) := by
  go_enter Try.func32, Try.ntmps32
  go_wp2
  go_loop [3] (fun i => ∃ k : Nat, i = .int .i64 k ∧ k ≤ n.size ∧ Hid (∀ j, j < k → ∀ h : j < n.size, prC n[j].toNat = true)) (fun i => n.size - (intOf i).toNat)
  case atStart => exact ⟨0, rfl, by omega, Lib.hid (by omega)⟩
  case round =>
    obtain ⟨k, rfl, hk, hall⟩ := hrel
    by_cases hlt : k < n.size
    · obtain ⟨c, hc⟩ : ∃ c : Nat, n[k].toNat = c := ⟨_, rfl⟩
      have hb : c < 256 := by have := n[k].toNat_lt; omega
      have hbad : prC c = false → Hid (valueB n = false) := fun hf => Lib.hid (decide_eq_false (fun h => by
        have := (of_decide_eq_true h.2) k hlt; rw [hc, hf] at this; cases this))
      by_cases h1 : c < 32
      · have hr := hbad (decide_eq_false (by omega))
        clear hbad
        go_wp2
        go_ret
        exact ⟨ret_bool hr.out.symm, rfl⟩
      · by_cases h2 : 126 < c
        · have hr := hbad (decide_eq_false (by omega))
          clear hbad
          go_wp2
          go_ret
          exact ⟨ret_bool hr.out.symm, rfl⟩
        · have hnext : Hid (∀ j, j < k + 1 → ∀ h : j < n.size, prC n[j].toNat = true) := Lib.hid (fun j hj h => by
            rcases Nat.lt_or_ge j k with h' | h'
            · exact hall.out j h' h
            · obtain rfl : j = k := by omega
              rw [hc]; exact decide_eq_true (by omega))
          clear hall hbad
          go_wp2
          exact ⟨⟨k + 1, by go_num, by omega, hnext⟩, by simp [intOf]; omega⟩
    · have hks : k = n.size := by omega
      have hlt' : ¬ (k : Int) < n.size := by omega
      have ha : allB prC n = true := decide_eq_true (fun j h => hall.out j (by omega) h)
      have H : (decide ((n.size : Int) ≤ 16) = false ∧ Hid (valueB n = false)) ∨ (decide ((n.size : Int) ≤ 16) = true ∧ Hid (valueB n = true)) := by
        by_cases h2 : n.size ≤ 16
        · exact .inr ⟨decide_eq_true (by omega), (valueB_in h2).trans ha⟩
        · exact .inl ⟨decide_eq_false (by omega), valueB_long (by omega)⟩
      clear hall hks ha hlt
      rcases H with ⟨h1, H⟩ | ⟨h1, H⟩
      all_goals
        go_wp2
        go_ret
        exact ⟨ret_bool H.out.symm, rfl⟩

set_option maxHeartbeats 1600000 in
theorem key_any (n : ByteArray) (w : World) (hn : n.size ≤ 9223372036854775807) :
    Calls Try.prog 30 #[.string n] w (Says (keyB n) w) := by
  go_enter Try.func30, Try.ntmps30
  go_wp2
  go_loop [3] (fun i => ∃ k : Nat, i = .int .i64 k ∧ k ≤ n.size ∧ Hid (∀ j, j < k → ∀ h : j < n.size, keyC n[j].toNat = true)) (fun i => n.size - (intOf i).toNat)
  case atStart => exact ⟨0, rfl, by omega, Lib.hid (by omega)⟩
  case round =>
    obtain ⟨k, rfl, hk, hall⟩ := hrel
    by_cases hlt : k < n.size
    · obtain ⟨c, hc⟩ : ∃ c : Nat, n[k].toNat = c := ⟨_, rfl⟩
      have hb : c < 256 := by have := n[k].toNat_lt; omega
      have hbad : keyC c = false → Hid (keyB n = false) := fun hf => Lib.hid (decide_eq_false (fun h => by
        have := (of_decide_eq_true h.2) k hlt; rw [hc, hf] at this; cases this))
      have hnext : keyC c = true → Hid (∀ j, j < k + 1 → ∀ h : j < n.size, keyC n[j].toNat = true) := fun ht => Lib.hid (fun j hj h => by
            rcases Nat.lt_or_ge j k with h' | h'
            · exact hall.out j h' h
            · obtain rfl : j = k := by omega
              rw [hc]; exact ht)
      clear hall
      have H : (decide (48 ≤ (c : Int)) = false ∧ decide (97 ≤ (c : Int)) = false ∧ Hid (keyB n = false)) ∨ (decide (48 ≤ (c : Int)) = true ∧ decide ((c : Int) ≤ 57) = true ∧ Hid (∀ j, j < k + 1 → ∀ h : j < n.size, keyC n[j].toNat = true)) ∨ (decide (48 ≤ (c : Int)) = true ∧ decide ((c : Int) ≤ 57) = false ∧ decide (97 ≤ (c : Int)) = false ∧ Hid (keyB n = false)) ∨ (decide (48 ≤ (c : Int)) = true ∧ decide ((c : Int) ≤ 57) = false ∧ decide (97 ≤ (c : Int)) = true ∧ decide ((c : Int) ≤ 122) = true ∧ Hid (∀ j, j < k + 1 → ∀ h : j < n.size, keyC n[j].toNat = true)) ∨ (decide (48 ≤ (c : Int)) = true ∧ decide ((c : Int) ≤ 57) = false ∧ decide (97 ≤ (c : Int)) = true ∧ decide ((c : Int) ≤ 122) = false ∧ Hid (keyB n = false)) := by
        by_cases h1 : 48 ≤ c
        · by_cases h2 : c ≤ 57
          · exact .inr (.inl ⟨decide_eq_true (by omega), decide_eq_true (by omega), hnext (decide_eq_true (by omega))⟩)
          · by_cases h3 : 97 ≤ c
            · by_cases h4 : c ≤ 122
              · exact .inr (.inr (.inr (.inl ⟨decide_eq_true (by omega), decide_eq_false (by omega), decide_eq_true (by omega), decide_eq_true (by omega), hnext (decide_eq_true (by omega))⟩)))
              · exact .inr (.inr (.inr (.inr ⟨decide_eq_true (by omega), decide_eq_false (by omega), decide_eq_true (by omega), decide_eq_false (by omega), hbad (decide_eq_false (by omega))⟩)))
            · exact .inr (.inr (.inl ⟨decide_eq_true (by omega), decide_eq_false (by omega), decide_eq_false (by omega), hbad (decide_eq_false (by omega))⟩))
        · exact .inl ⟨decide_eq_false (by omega), decide_eq_false (by omega), hbad (decide_eq_false (by omega))⟩
      clear hbad hnext
      rcases H with ⟨h1, h2, hr⟩ | ⟨h1, h2, hnext⟩ | ⟨h1, h2, h3, hr⟩ | ⟨h1, h2, h3, h4, hnext⟩ | ⟨h1, h2, h3, h4, hr⟩
      · go_wp2
        go_ret
        exact ⟨ret_bool hr.out.symm, rfl⟩
      · go_wp2
        exact ⟨⟨k + 1, by go_num, by omega, hnext⟩, by simp [intOf]; omega⟩
      · go_wp2
        go_ret
        exact ⟨ret_bool hr.out.symm, rfl⟩
      · go_wp2
        exact ⟨⟨k + 1, by go_num, by omega, hnext⟩, by simp [intOf]; omega⟩
      · go_wp2
        go_ret
        exact ⟨ret_bool hr.out.symm, rfl⟩
    · have hks : k = n.size := by omega
      have ha : allB keyC n = true := decide_eq_true (fun j h => hall.out j (by omega) h)
      clear hall
      by_cases h0 : n.size = 0
      · have hr := Lib.hid (keyB_len0 h0)
        have hlt' : ¬ (k : Int) < n.size := by omega
        have q1 : decide (1 ≤ (n.size : Int)) = false := decide_eq_false (by omega)
        clear hks ha hlt h0
        go_wp2
        go_ret
        exact ⟨ret_bool hr.out.symm, rfl⟩
      · by_cases h64 : 64 < n.size
        · have hr := Lib.hid (keyB_long h64)
          have hlt' : ¬ (k : Int) < n.size := by omega
          have q1 : decide (1 ≤ (n.size : Int)) = true := decide_eq_true (by omega)
          have q2 : decide ((n.size : Int) ≤ 64) = false := decide_eq_false (by omega)
          clear hks ha hlt h0 h64
          go_wp2
          go_ret
          exact ⟨ret_bool hr.out.symm, rfl⟩
        · obtain ⟨m, hm⟩ : ∃ m : Nat, n.size = m + 1 := ⟨n.size - 1, by omega⟩
          have hl : m < n.size := by omega
          obtain ⟨c, hc⟩ : ∃ c : Nat, n[m].toNat = c := ⟨_, rfl⟩
          have hlt' : ¬ (k : Int) < (m : Int) + 1 := by omega
          have q1 : decide (1 ≤ (m : Int) + 1) = true := decide_eq_true (by omega)
          have q2 : decide ((m : Int) + 1 ≤ 64) = true := decide_eq_true (by omega)
          have H : (c = 48 ∧ Hid (keyB n = false)) ∨ (((c : Int) != 48) = true ∧ Hid (keyB n = true)) := by
            by_cases hz : c = 48
            · exact .inl ⟨hz, keyB_zero hm (hc.trans hz)⟩
            · exact .inr ⟨bne_iff_ne.2 (by omega), (keyB_in hm (by omega) (by omega)).trans ha⟩
          clear hks ha hlt h0 h64
          rcases H with ⟨rfl, H⟩ | ⟨q3, H⟩
          all_goals
            go_wp2
            go_ret
            exact ⟨ret_bool H.out.symm, rfl⟩
end Go.Proofs.Yteclkaecjogbjaa
