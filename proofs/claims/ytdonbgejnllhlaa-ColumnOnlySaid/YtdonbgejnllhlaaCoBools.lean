/-
  Bools, the document's own answer: how many are false, how many true, and so on, in a new row.
-/
import Derived.Test.YtdonbgejnllhlaaCoRuns
namespace Go.Proofs.Ytdonbgejnllhlaa
open Go.RowKit Go.Sort

theorem drop_pieceB : ∀ (m i : Nat) (l : List Bool) (x : Bool), i + m ≤ l.length → (∀ j, i ≤ j → j < i + m → l.getD j false = x) → l.drop i = List.replicate m x ++ l.drop (i + m)
  | 0, i, l, x, _, _ => by simp
  | m + 1, i, l, x, hle, h => by
    have hi : i < l.length := by omega
    rw [List.drop_eq_getElem_cons hi, List.replicate_succ, List.cons_append, drop_pieceB m (i + 1) l x (by omega) (fun j h1 h2 => h j (by omega) (by omega))]
    have := h i (by omega) (by omega)
    simp only [List.getD, List.getElem?_eq_getElem hi, Option.getD_some] at this
    rw [this, show i + 1 + m = i + (m + 1) by omega]

/-- What has been put of truths, x the one that is counted next. -/
structure PutT (l : List Bool) (i : Nat) (x : Bool) (done : List Nat) : Prop where
  bytes : bytesB l = done ++ encB (cntB x (l.drop i))
  short : done.length ≤ 10 * (i + 1)
  fits : i < l.length → l.getD i false = x ∨ done = []

theorem PutT.start (l : List Bool) : PutT l 0 false [] := ⟨rfl, by simp, fun _ => .inr rfl⟩
theorem PutT.next {l : List Bool} {i k m : Nat} {x : Bool} {done : List Nat} (h : PutT l i x done) (hk : k = i + m) (hil : i < l.length) (hkl : k ≤ l.length) (hl : l.length ≤ 65536) (hall : ∀ j, i ≤ j → j < k → l.getD j false = x) (hend : k = l.length ∨ l.getD k false ≠ x) :
    PutT l k (!x) (done ++ putL m) := by
  have hne : ∀ t', l.drop k ≠ x :: t' := by
    intro t' ht
    rcases hend with h | h
    · rw [List.drop_eq_nil_of_le (by omega)] at ht; cases ht
    · have hlt : k < l.length := by
        rcases Nat.lt_or_ge k l.length with h' | h'
        · exact h'
        · rw [List.drop_eq_nil_of_le h'] at ht; cases ht
      rw [List.drop_eq_getElem_cons hlt] at ht
      injection ht with h1 _
      simp only [List.getD, List.getElem?_eq_getElem hlt, Option.getD_some] at h
      exact h h1
  refine ⟨?_, ?_, fun hkl' => .inl ?_⟩
  · rw [h.bytes, drop_pieceB m i l x (by omega) (fun j h1 h2 => hall j h1 (by omega)), ← hk, bytesB_step hne]
    · simp
    · rcases Nat.eq_zero_or_pos m with h0 | h0
      · right
        intro hn
        have := congrArg List.length hn
        simp at this
        omega
      · exact .inl h0
  · have h1 := putL_len10 (n := m) (by omega)
    have h3 := h.short
    rw [List.length_append]
    rcases Nat.eq_zero_or_pos m with h0 | h0
    · have hik : i = k := by omega
      subst hik
      rcases hend with h' | h'
      · omega
      · rcases h.fits hil with h4 | h4
        · exact absurd h4 h'
        · rw [h4]; simp; omega
    · omega
  · rcases hend with h' | h'
    · omega
    · revert h'; cases l.getD k false <;> cases x <;> simp
theorem PutT.done {l : List Bool} {i : Nat} {x : Bool} {done : List Nat} (h : PutT l i x done) (hi : l.length ≤ i) : done = bytesB l := by
  rw [h.bytes, List.drop_eq_nil_of_le hi]; simp [cntB, encB]

/-- What the outer loop's rounds lower. -/
def boolOf : Value → Bool
  | .bool b => b
  | _ => false
def leftB (l : List Bool) (x : Value) (i : Value) : Nat := 2 * (l.length - (intOf i).toNat) + (if boolOf x = l.getD (intOf i).toNat false then 0 else 1)

theorem leftB_eq (l : List Bool) (y : Bool) (j : Nat) : leftB l (.bool y) (.int .i64 (j : Int)) = 2 * (l.length - j) + (if y = l.getD j false then 0 else 1) := rfl
theorem leftB_less {l : List Bool} {i k m : Nat} {x : Bool} (hk : k = i + m) (hil : i < l.length) (hkl : k ≤ l.length) (hend : k = l.length ∨ l.getD k false ≠ x) :
    leftB l (.bool (!x)) (.int .i64 (k : Int)) < leftB l (.bool x) (.int .i64 (i : Int)) := by
  rw [leftB_eq, leftB_eq]
  rcases Nat.eq_zero_or_pos m with h0 | h0
  · have hki : k = i := by omega
    rcases hend with h' | h'
    · omega
    · rw [hki] at h' ⊢
      rw [if_pos (show (!x) = l.getD i false by revert h'; cases x <;> cases l.getD i false <;> simp), if_neg (fun e => h' e.symm)]
      omega
  · split <;> split <;> omega

set_option maxRecDepth 20000 in
set_option maxHeartbeats 2000000 in
theorem refBools_any (v : Value) (l : List Bool) (w : World) (hv : TruthsAt w v l) (hl : l.length ≤ 65536) :
    Calls Try.prog 16 #[v] w fun e w' => ∃ v', e = .returned v' ∧ Own w' w.heap.size v' (bytesB l) ∧ Below w.heap.size w w' := by
  have hlv := fun W => hv.len (ty := 3) W
  have hv := Lib.hid hv
  go_enter Try.func16, Try.ntmps16
  go_wp2
  go_loopw [3, 4, 5] (fun o b t wr => ∃ (i : Nat) (x : Bool) (done : List Nat), t = .int .i64 i ∧ b = .bool x ∧ i ≤ l.length ∧ Own wr w.heap.size o done ∧ Hid (PutT l i x done) ∧ Below w.heap.size w wr) (fun _ b t _ => leftB l b t)
  case atStart => exact ⟨0, false, [], rfl, rfl, by omega, own_none _ _, Lib.hid (PutT.start l), Below.refl _ _⟩
  case round =>
    obtain ⟨i, x, done, rfl, rfl, hi, hown, hso, hbel⟩ := hrel
    rcases Nat.lt_or_ge i l.length with hil | hil
    · go_wp2
      obtain ⟨wo, rfl⟩ : ∃ wo : World, wo = wr := ⟨_, rfl⟩
      go_loopw [6] (fun t wr => ∃ k : Nat, t = .int .i64 k ∧ i ≤ k ∧ k ≤ l.length ∧ Hid (∀ j, i ≤ j → j < k → l.getD j false = x) ∧ Below wo.heap.size wo wr) (fun t _ => l.length - (intOf t).toNat)
      case atStart => exact ⟨i, rfl, by omega, by omega, Lib.hid (by omega), Below.refl _ _⟩
      case round =>
        obtain ⟨k, rfl, hik, hk, hall, hbk⟩ := hrel
        have hbelr : Below w.heap.size w wr := then_call hbel hbk
        by_cases hgo : k < l.length ∧ l.getD k false = x
        · obtain ⟨hkl, hkx⟩ := hgo
          obtain ⟨bd, hb, hbc, hbb⟩ := hv.out.index hkl
          rw [hkx, ← hbelr.cell (p := bd) hbb] at hbc
          have hall2 : Hid (∀ j, i ≤ j → j < k + 1 → l.getD j false = x) := Lib.hid (fun j h1 h2 => by
            rcases Nat.lt_or_ge j k with h | h
            · exact hall.out j h1 h
            · obtain rfl : j = k := by omega
              exact hkx)
          have hkx := Lib.hid hkx
          have hq : (x == x) = true := by simp
          go_wp2
          go_roundw
          case rel => exact ⟨k + 1, by go_num, by omega, by omega, hall2, hbk⟩
          case measure => simp [intOf]; omega
        · obtain ⟨m, hkm⟩ : ∃ m, k = i + m := ⟨k - i, by omega⟩
          have hmb : m ≤ 65536 := by omega
          have hsub : (k : Int) - i = m := by omega
          have hend : k = l.length ∨ l.getD k false ≠ x := by
            by_cases h : k < l.length
            · exact .inr (fun h' => hgo ⟨h, h'⟩)
            · exact .inl (by omega)
          have hnext := PutT.next hso.out hkm hil hk hl hall.out hend
          have hless := leftB_less hkm hil hk hend
          have hless := Lib.hid hless
          have hnext := Lib.hid hnext
          have c1 := hide (fun W => refPut_any m (by omega) W)
          have hlens : done.length ≤ 655370 := by have := hso.out.short; omega
          have hm10 : (putL m).length ≤ 10 := putL_len10 (by omega)
          clear hkm
          have HW : (k < l.length ∧ ∃ bd, (∀ W, (Instr.indexAt 23 v (.int .i64 (k : Int))).run Try.prog W = .ok (.pointer (some bd)) W) ∧ wr.cell? bd = some (.bool (!x))) ∨ decide (k < l.length) = false := by
            by_cases hkl : k < l.length
            · obtain ⟨bd, hb, hbc, hbb⟩ := hv.out.index hkl
              refine .inl ⟨hkl, bd, hb, ?_⟩
              rw [hbelr.cell (p := bd) hbb, hbc]
              have : l.getD k false = !x := by
                rcases hend with h' | h'
                · omega
                · revert h'; cases x <;> cases l.getD k false <;> simp
              rw [this]
            · exact .inr (decide_eq_false hkl)
          clear hgo hend
          have hqn : ((!x) == x) = false := by cases x <;> rfl
          rcases HW with ⟨hkl, bd, hb, hbc⟩ | hqf
          all_goals
            go_wp2_with (first
              | (go_at_call 28; refine (c1.out _).mono ?_; rintro e' w1 ⟨v1, rfl, ho1, hb1⟩; have hbel1 := then_call hbelr hb1; have hown1 := (hown.later hbk).later hb1)
              | (at_builtin; refine append_bytes rfl (.tmp 26) (.tmp 31) rfl w.heap.size rfl hown1 rfl (putL_bytes ho1) (by omega) hbel1.size ?_; intro v2 w2 hown2 hb2; have hbel2 := hbel1.trans hb2))
            go_roundw
            case rel => exact ⟨k, _, _, by go_num, rfl, by omega, hown2, hnext, hbel2⟩
            case measure => exact hless.out
    · have hd := Lib.hid (hso.out.done hil)
      go_wp2
      go_ret
      exact ⟨_, rfl, by rw [← hd.out]; exact hown, hbel⟩
end Go.Proofs.Ytdonbgejnllhlaa
