/-
  'Same' and 'SameBools': are two lists one.
-/
import Derived.Test.YtdonbgejnllhlaaSl
import Derived.Deep.QuietTactic
namespace Go.Proofs.Ytdonbgejnllhlaa
open Go.RowKit Go.Sort

theorem differ_at {α : Type} [DecidableEq α] {l m : List α} {d : α} {k : Nat} (h : l.getD k d ≠ m.getD k d) : decide (l = m) = false := by
  apply decide_eq_false
  rintro rfl
  exact h rfl

theorem same_upto {α : Type} [DecidableEq α] {l m : List α} {d : α} (hl : l.length = m.length) (h : ∀ j, j < l.length → l.getD j d = m.getD j d) : decide (l = m) = true := by
  apply decide_eq_true
  apply List.ext_getElem hl
  intro j h1 h2
  have := h j h1
  simpa [List.getD, List.getElem?_eq_getElem h1, List.getElem?_eq_getElem h2] using this

set_option maxHeartbeats 1000000 in
theorem sameI_at (v u : Value) (l m : List Int) (w : World) (hv : IntsAt w v l) (hu : IntsAt w u m) :
    Calls Try.prog 17 #[v, u] w (Ret (.bool (decide (l = m))) w) := by
  have hlv := fun W => hv.len (ty := 3) W
  have hlu := fun W => hu.len (ty := 3) W
  have hlen : (l.length : Int) ≤ 9223372036854775807 := by have := hv.le; rwa [ints_len] at this
  by_cases hne : l.length = m.length
  · have hv := Lib.hid hv
    have hu := Lib.hid hu
    go_enter Try.func17, Try.ntmps17
    go_wp2
    go_loopw [5] (fun i wr => ∃ k : Nat, i = .int .i64 k ∧ k ≤ l.length ∧ Hid (∀ j, j < k → l.getD j 0 = m.getD j 0) ∧ Below w.heap.size w wr) (fun i _ => l.length - (intOf i).toNat)
    case atStart => exact ⟨0, rfl, by omega, Lib.hid (by omega), Below.refl _ _⟩
    case round =>
      obtain ⟨k, rfl, hk, hsame, hbel⟩ := hrel
      rcases Nat.lt_or_ge k l.length with hkl | hkl
      · obtain ⟨ad, ha, hac, hab⟩ := hv.out.index hkl
        obtain ⟨bd, hb, hbc, hbb⟩ := hu.out.index (k := k) (by omega)
        rw [← hbel.cell (p := ad) hab] at hac
        rw [← hbel.cell (p := bd) hbb] at hbc
        obtain ⟨x, hx⟩ : ∃ x, l.getD k 0 = x := ⟨_, rfl⟩
        obtain ⟨y, hy⟩ : ∃ y, m.getD k 0 = y := ⟨_, rfl⟩
        rw [hx] at hac
        rw [hy] at hbc
        have hx := Lib.hid hx
        have hy := Lib.hid hy
        by_cases hxy : x = y
        · subst hxy
          have hs2 : Hid (∀ j, j < k + 1 → l.getD j 0 = m.getD j 0) := Lib.hid (fun j hj => by
            rcases Nat.lt_or_ge j k with h | h
            · exact hsame.out j h
            · obtain rfl : j = k := by omega
              rw [hx.out, hy.out])
          go_wp2
          go_quiet (fail)
          go_wp2
          go_roundw
          case rel => exact ⟨k + 1, by go_num, by omega, hs2, below_drewN hbel _⟩
          case measure => simp [intOf]; omega
        · have hd := Lib.hid (differ_at (l := l) (m := m) (k := k) (d := (0 : Int)) (by rw [hx.out, hy.out]; exact hxy))
          have hq : (x != y) = true := by simp [hxy]
          go_wp2
          go_quiet (fail)
          go_wp2
          go_ret
          exact ⟨ret_bool hd.out.symm, below_drewN hbel _⟩
      · have hd := Lib.hid (same_upto hne (d := (0 : Int)) (fun j hj => hsame.out j (by omega)))
        go_wp2
        go_ret
        exact ⟨ret_bool hd.out.symm, hbel⟩
  · have hd : decide (l = m) = false := decide_eq_false (fun h => hne (by rw [h]))
    have hne' : decide ((l.length : Int) = m.length) = false := decide_eq_false (by omega)
    have hv := Lib.hid hv
    have hu := Lib.hid hu
    go_enter Try.func17, Try.ntmps17
    go_wp2
    go_ret
    exact ⟨ret_bool hd.symm, Below.refl _ _⟩

set_option maxHeartbeats 1000000 in
theorem sameT_at (v u : Value) (l m : List Bool) (w : World) (hv : TruthsAt w v l) (hu : TruthsAt w u m) :
    Calls Try.prog 24 #[v, u] w (Ret (.bool (decide (l = m))) w) := by
  have hlv := fun W => hv.len (ty := 3) W
  have hlu := fun W => hu.len (ty := 3) W
  have hlen : (l.length : Int) ≤ 9223372036854775807 := by have := hv.le; rwa [truths_len] at this
  by_cases hne : l.length = m.length
  · have hv := Lib.hid hv
    have hu := Lib.hid hu
    go_enter Try.func24, Try.ntmps24
    go_wp2
    go_loopw [5] (fun i wr => ∃ k : Nat, i = .int .i64 k ∧ k ≤ l.length ∧ Hid (∀ j, j < k → l.getD j false = m.getD j false) ∧ Below w.heap.size w wr) (fun i _ => l.length - (intOf i).toNat)
    case atStart => exact ⟨0, rfl, by omega, Lib.hid (by omega), Below.refl _ _⟩
    case round =>
      obtain ⟨k, rfl, hk, hsame, hbel⟩ := hrel
      rcases Nat.lt_or_ge k l.length with hkl | hkl
      · obtain ⟨ad, ha, hac, hab⟩ := hv.out.index hkl
        obtain ⟨bd, hb, hbc, hbb⟩ := hu.out.index (k := k) (by omega)
        rw [← hbel.cell (p := ad) hab] at hac
        rw [← hbel.cell (p := bd) hbb] at hbc
        obtain ⟨x, hx⟩ : ∃ x, l.getD k false = x := ⟨_, rfl⟩
        obtain ⟨y, hy⟩ : ∃ y, m.getD k false = y := ⟨_, rfl⟩
        rw [hx] at hac
        rw [hy] at hbc
        have hx := Lib.hid hx
        have hy := Lib.hid hy
        by_cases hxy : x = y
        · subst hxy
          have hs2 : Hid (∀ j, j < k + 1 → l.getD j false = m.getD j false) := Lib.hid (fun j hj => by
            rcases Nat.lt_or_ge j k with h | h
            · exact hsame.out j h
            · obtain rfl : j = k := by omega
              rw [hx.out, hy.out])
          have hq : (x != x) = false := by simp
          go_wp2
          go_quiet (fail)
          go_wp2
          go_roundw
          case rel => exact ⟨k + 1, by go_num, by omega, hs2, below_drewN hbel _⟩
          case measure => simp [intOf]; omega
        · have hd := Lib.hid (differ_at (l := l) (m := m) (k := k) (d := false) (by rw [hx.out, hy.out]; exact hxy))
          have hxy2 : (x = true ∧ y = false) ∨ (x = false ∧ y = true) := by revert hxy; cases x <;> cases y <;> simp
          clear hxy
          rcases hxy2 with ⟨rfl, rfl⟩ | ⟨rfl, rfl⟩
          all_goals
            go_wp2
            go_quiet (fail)
            go_wp2
            go_ret
            exact ⟨ret_bool hd.out.symm, below_drewN hbel _⟩
      · have hd := Lib.hid (same_upto hne (d := false) (fun j hj => hsame.out j (by omega)))
        go_wp2
        go_ret
        exact ⟨ret_bool hd.out.symm, hbel⟩
  · have hd : decide (l = m) = false := decide_eq_false (fun h => hne (by rw [h]))
    have hne' : decide ((l.length : Int) = m.length) = false := decide_eq_false (by omega)
    have hv := Lib.hid hv
    have hu := Lib.hid hu
    go_enter Try.func24, Try.ntmps24
    go_wp2
    go_ret
    exact ⟨ret_bool hd.symm, Below.refl _ _⟩
end Go.Proofs.Ytdonbgejnllhlaa
