/-
  Which names may be, the document's own answer.
-/
import Derived.Test.YtpkiapjcilapoaaFiNum
import Derived.Lib.SlicesS
namespace Go.Proofs.Ytpkiapjcilapoaa
open Go.RowKit Go.Sort

/-- 1 to 8 letters a to z. -/
def rightF (n : ByteArray) : Bool := decide ((∀ i, ∀ h : i < n.size, 97 ≤ n[i].toNat ∧ n[i].toNat ≤ 122) ∧ 1 ≤ n.size ∧ n.size ≤ 8)

set_option maxHeartbeats 800000 in
theorem refRight_any (n : ByteArray) (w : World) (hn : n.size ≤ 9223372036854775807) :
    Calls Try.prog 61 #[.string n] w fun e w' => e = .returned (.bool (rightF n)) ∧ w = w' := by
  go_enter Try.func61, Try.ntmps61
  go_wp2
  go_loop [3] (fun i => ∃ k : Nat, i = .int .i64 k ∧ k ≤ n.size ∧ Hid (∀ j, j < k → ∀ h : j < n.size, 97 ≤ n[j].toNat ∧ n[j].toNat ≤ 122)) (fun i => n.size - (intOf i).toNat)
  case atStart => exact ⟨0, rfl, by omega, Lib.hid (by omega)⟩
  case round =>
    obtain ⟨k, rfl, hk, hall⟩ := hrel
    by_cases hlt : k < n.size
    · obtain ⟨c, hc⟩ : ∃ c : Nat, n[k].toNat = c := ⟨_, rfl⟩
      have hb : c < 256 := by have := n[k].toNat_lt; omega
      by_cases h1 : c < 97
      · have hr : Hid (rightF n = false) := Lib.hid (decide_eq_false (fun h => by have := (h.1 k hlt).1; omega))
        go_wp2
        go_ret
        exact ⟨by rw [hr.out]; rfl, rfl⟩
      · by_cases h2 : 122 < c
        · have hr : Hid (rightF n = false) := Lib.hid (decide_eq_false (fun h => by have := (h.1 k hlt).2; omega))
          go_wp2
          go_ret
          exact ⟨by rw [hr.out]; rfl, rfl⟩
        · have hnext : Hid (∀ j, j < k + 1 → ∀ h : j < n.size, 97 ≤ n[j].toNat ∧ n[j].toNat ≤ 122) := Lib.hid (fun j hj h => by
            rcases Nat.lt_or_ge j k with h' | h'
            · exact hall.out j h' h
            · obtain rfl : j = k := by omega
              omega)
          clear hall
          go_wp2
          exact ⟨⟨k + 1, by go_num, by omega, hnext⟩, by simp [intOf]; omega⟩
    · have hks : k = n.size := by omega
      have hlt' : ¬ (k : Int) < n.size := by omega
      have hall2 : ∀ j, ∀ h : j < n.size, 97 ≤ n[j].toNat ∧ n[j].toNat ≤ 122 := fun j h => hall.out j (by omega) h
      by_cases h0 : 1 ≤ n.size
      · by_cases h8 : n.size ≤ 8
        · have hr : Hid (rightF n = true) := Lib.hid (decide_eq_true ⟨hall2, h0, h8⟩)
          clear hall hall2 hks
          go_wp2
          go_ret
          exact ⟨by rw [hr.out]; simp <;> omega, rfl⟩
        · have hr : Hid (rightF n = false) := Lib.hid (decide_eq_false (fun h => h8 h.2.2))
          have h8' : 8 < n.size := by omega
          clear hall hall2 hks h8
          go_wp2
          go_ret
          exact ⟨by rw [hr.out]; simp <;> omega, rfl⟩
      · have hr : Hid (rightF n = false) := Lib.hid (decide_eq_false (fun h => h0 h.2.1))
        have hq : decide ((1 : Int) ≤ n.size) = false := decide_eq_false (by omega)
        clear hall hall2 hks
        go_wp2
        go_ret
        exact ⟨by rw [hr.out]; simp <;> omega, rfl⟩
end Go.Proofs.Ytpkiapjcilapoaa
