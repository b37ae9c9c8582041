/-
  Which names may be; where the file of a name lies: the program.
-/
import Derived.Test.YtpkiapjcilapoaaFkMore
import Derived.Laws.RangeAny
import Derived.LoopTactic
import Derived.Deep.CutRange
namespace Go.Proofs.Ytpkiapjcilapoaa
open Go.RowKit Go.Sort Go.Maps

theorem right_len0 {n : ByteArray} (h : n.size = 0) : rightF n = false := decide_eq_false (fun hh => by omega)
theorem right_len9 {n : ByteArray} (h : 8 < n.size) : rightF n = false := decide_eq_false (fun hh => by omega)

set_option maxRecDepth 1000000 in
set_option maxHeartbeats 4000000 in
theorem nameRight_any (s : ByteArray) (w : World) (hs : s.size ≤ 9223372036854775807) :
    Calls Try.prog 50 #[.string s] w (Ret (.bool (rightF s)) w) := by
  rcases Nat.lt_or_ge 8 s.size with h8 | h8
  · have hr := Lib.hid (right_len9 h8)
    have q1 : ((s.size : Int) == 0) = false := beq_eq_false_iff_ne.2 (by omega)
    have q2 : decide (8 < (s.size : Int)) = true := decide_eq_true (by omega)
    go_enter Try.func50, Try.ntmps50
    go_wp2
    go_ret
    exact ⟨by rw [hr.out]; rfl, Below.refl _ _⟩
  · by_cases h0 : s.size = 0
    · have hr := Lib.hid (right_len0 h0)
      have q1 : ((s.size : Int) == 0) = true := beq_iff_eq.2 (by omega)
      have q2 : decide (8 < (s.size : Int)) = false := decide_eq_false (by omega)
      clear h0
      go_enter Try.func50, Try.ntmps50
      go_wp2
      go_ret
      exact ⟨by rw [hr.out]; rfl, Below.refl _ _⟩
    · have q1 : ((s.size : Int) == 0) = false := beq_eq_false_iff_ne.2 (by omega)
      have q2 : decide (8 < (s.size : Int)) = false := decide_eq_false (by omega)
      go_enter Try.func50, Try.ntmps50
      go_wp2
      go_loopw [4] (fun _ wr => ∃ k : Nat, wr = w.iter s k ∧ k ≤ s.size ∧ Hid (∀ j, j < k → ∀ h : j < s.size, 97 ≤ s[j].toNat ∧ s[j].toNat ≤ 122)) (fun _ wr => s.size - wr.iterPos w.heap.size)
      case atStart => exact ⟨0, rfl, by omega, Lib.hid (by omega)⟩
      case round =>
        obtain ⟨k, rfl, hk, hall⟩ := hrel
        by_cases hlt : k < s.size
        · obtain ⟨c, hc⟩ : ∃ c : Nat, s[k].toNat = c := ⟨_, rfl⟩
          have hcb : c < 256 := by have := s[k].toNat_lt; omega
          have hb : Below w.heap.size w (w.iter s (k + 1)) := below_box1 _ _
          by_cases hh : c < 128
          · have hnx : ∀ ty, (Instr.next (.pointer (some ⟨w.heap.size, 0, none⟩)) true ty).run Try.prog (w.iter s k) = .ok (.tuple #[.bool true, .int .i64 k, .int .i32 (c : Nat)]) (w.iter s (k + 1)) := fun ty => by
              rw [run_next_ascii w s k ty hlt (by omega), hc]
            by_cases h1 : c < 97
            · have hr : Hid (rightF s = false) := Lib.hid (decide_eq_false (fun h => by have := (h.1 k hlt).1; omega))
              have hb := Lib.hid hb
              clear hall hc
              go_wp2
              go_ret
              exact ⟨by rw [hr.out]; rfl, hb.out⟩
            · by_cases h2 : 122 < c
              · have hr : Hid (rightF s = false) := Lib.hid (decide_eq_false (fun h => by have := (h.1 k hlt).2; omega))
                have hb := Lib.hid hb
                clear hall hc
                go_wp2
                go_ret
                exact ⟨by rw [hr.out]; rfl, hb.out⟩
              · have hnext : Hid (∀ j, j < k + 1 → ∀ h : j < s.size, 97 ≤ s[j].toNat ∧ s[j].toNat ≤ 122) := Lib.hid (fun j hj h => by
                  rcases Nat.lt_or_ge j k with h' | h'
                  · exact hall.out j h' h
                  · obtain rfl : j = k := by omega
                    omega)
                have hb := Lib.hid hb
                clear hall hc
                go_wp2
                go_roundw
                case rel => exact ⟨k + 1, rfl, by omega, hnext⟩
                case measure => simp [World.iterPos_iter]; omega
          · have hr : Hid (rightF s = false) := Lib.hid (decide_eq_false (fun h => by have := (h.1 k hlt).2; omega))
            obtain ⟨d1, d2⟩ := decode_high s k hlt (by omega)
            obtain ⟨r, hrr⟩ : ∃ r, (Utf8.decode s k).1 = r := ⟨_, rfl⟩
            obtain ⟨wd, hwd⟩ : ∃ wd, (Utf8.decode s k).2 = wd := ⟨_, rfl⟩
            have hnx : ∀ ty, (Instr.next (.pointer (some ⟨w.heap.size, 0, none⟩)) true ty).run Try.prog (w.iter s k) = .ok (.tuple #[.bool true, .int .i64 k, .int .i32 (r : Nat)]) (w.iter s (k + wd)) := fun ty => by
              rw [run_next_any w s k ty hlt, hrr, hwd]
            rw [hrr] at d1
            have hb := Lib.hid (below_box1 w (.stringIter s (k + wd)))
            have g1 : decide ((r : Int) < 97) = false := decide_eq_false (by omega)
            have g2 : decide (122 < (r : Int)) = true := decide_eq_true (by omega)
            clear hall hc hrr hwd d1 d2
            go_wp2
            go_ret
            exact ⟨by rw [hr.out]; rfl, hb.out⟩
        · have hks : k = s.size := by omega
          have hr : Hid (rightF s = true) := Lib.hid (decide_eq_true ⟨fun j h => hall.out j (by omega) h, by omega, by omega⟩)
          have hnx : ∀ ty, (Instr.next (.pointer (some ⟨w.heap.size, 0, none⟩)) true ty).run Try.prog (w.iter s k) = .ok (.tuple #[.bool false]) (w.iter s k) := fun ty => run_next_end w s k ty hlt
          have hb := Lib.hid (below_box1 w (.stringIter s k))
          clear hall hks
          go_wp2
          go_ret
          exact ⟨by rw [hr.out]; rfl, hb.out⟩

/-- Where a name's file lies. -/
def findK (d : CDisk) (nm : ByteArray) : Option Nat := fileAt (namesOf d.nam) nm

set_option maxRecDepth 20000 in
set_option maxHeartbeats 4000000 in
theorem find_any {n p : Nat} {w : World} {d : CDisk} (h : DiskK n w p d) (nm : ByteArray) (hz : nm.size ≤ maxLen) :
    Calls Try.prog 47 #[.pointer (some ⟨p, 0, none⟩), .string nm] w fun e w' => w' = w ∧ e = .returned (.tuple #[ptrV (findK d nm), .int .i64 ((if (findK d nm).isSome then 0 else 61 : Nat) : Nat)]) := by
  have c0 := h.c0
  have hlk := h.map.look hz
  unfold findK
  cases hf : fileAt (namesOf d.nam) nm with
  | none =>
    rw [hf] at hlk
    simp only [ptrV] at hlk
    clear hf h
    go_enter Try.func47, Try.ntmps47
    go_wp2
    go_ret2
    exact ⟨rfl, rfl⟩
  | some q =>
    rw [hf] at hlk
    simp only [ptrV] at hlk
    clear hf h
    go_enter Try.func47, Try.ntmps47
    go_wp2
    go_ret2
    exact ⟨rfl, rfl⟩

theorem changes_any {n p : Nat} {w : World} {d : CDisk} (h : DiskK n w p d) :
    Calls Try.prog 18 #[.pointer (some ⟨p, 0, none⟩)] w fun e w' => w' = w ∧ e = .returned (.int .i64 (d.calls : Nat)) := by
  have c4 := h.c4
  clear h
  go_enter Try.func18, Try.ntmps18
  go_wp2
  go_ret
  exact ⟨rfl, rfl⟩

/-- A disk without anything, at the heap's end. -/
abbrev newDisk : CDisk := ⟨none, .slice none 0 0, .slice none 0 0, .slice none 0 0, [], [], [], 0, []⟩
theorem fileAt_nil (nm : ByteArray) : fileAt (.map []) nm = none := rfl
theorem newDisk_at {n : Nat} (w : World) (hn : n ≤ w.heap.size) : DiskK n (w.alloc (.cells #[.map none, .slice none 0 0, .slice none 0 0, .slice none 0 0, .int .i64 0] 64)) w.heap.size newDisk := by
  refine ⟨heap_alloc_new w _, rfl, OwnRows.none_ _ _ _ _, OwnRows.none_ _ _ _ _, OwnRows.none_ _ _ _ _, by simp, ⟨fun nm q h => absurd (h.symm.trans (fileAt_nil nm)) (by simp), fun a b q h => absurd (h.symm.trans (fileAt_nil a)) (by simp)⟩, ?_, ?_, ?_⟩
  · simp [CDisk.wb, Value.ownBlock]
  · simp [CDisk.rb]
  · intro b hb
    simp [CDisk.bs, CDisk.wb, CDisk.rb, Value.ownBlock] at hb
    subst hb
    simp; omega

set_option maxRecDepth 20000 in
set_option maxHeartbeats 4000000 in
theorem new_any {n : Nat} (w : World) (hn : n ≤ w.heap.size) :
    Calls Try.prog 8 #[] w fun e w' => e = .returned (.pointer (some ⟨w.heap.size, 0, none⟩)) ∧ DiskK n w' w.heap.size newDisk ∧ Below w.heap.size w w' := by
  have hd := Lib.hid (newDisk_at w hn)
  have hb := Lib.hid (below_box1 w (.cells #[.map none, .slice none 0 0, .slice none 0 0, .slice none 0 0, .int .i64 0] 64))
  clear hn
  go_enter Try.func8, Try.ntmps8
  go_wp2
  go_ret
  exact ⟨rfl, hd.out, hb.out⟩
end Go.Proofs.Ytpkiapjcilapoaa
