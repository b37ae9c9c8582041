/-
  TakeDeltas, the document's own answer.
-/
import Derived.Test.YtdonbgejnllhlaaCoTakeRuns
namespace Go.Proofs.Ytdonbgejnllhlaa
open Go.RowKit Go.Sort

/-- The sums so far, the last one, and it without a sign. -/
def SumSo (d : List Int) (i : Nat) (s : List Int) (U : Int) : Prop := s = sumL 0 (d.take i) ∧ U = IntKind.u64.wrap (s.getLast?.getD 0)

theorem SumSo.start (d : List Int) : SumSo d 0 [] 0 := ⟨rfl, rfl⟩

theorem SumSo.next {d : List Int} {i : Nat} {s : List Int} {U x : Int} (h : SumSo d i s U) (hi : i < d.length) (hx : d.getD i 0 = x) :
    ∃ U' y, IntKind.u64.wrap (U + IntKind.u64.wrap x) = U' ∧ IntKind.i64.wrap U' = y ∧ SumSo d (i + 1) (s ++ [y]) U' ∧ 0 ≤ U' ∧ U' ≤ 18446744073709551615 := by
  obtain ⟨h1, h2⟩ := h
  refine ⟨_, _, rfl, rfl, ⟨?_, ?_⟩, ?_, ?_⟩
  · have e : d.take (i + 1) = d.take i ++ [x] := by
      rw [List.take_add_one, List.getElem?_eq_getElem hi]
      simp only [List.getD, List.getElem?_eq_getElem hi, Option.getD_some] at hx
      simp [hx]
    rw [e, sum_snoc, ← h1, h2]
    congr 2
    rw [IntKind.wrap_i64, IntKind.wrap_u64, IntKind.wrap_u64, IntKind.wrap_u64]
    unfold w64
    omega
  · rw [h2]
    simp
    rw [IntKind.wrap_i64, IntKind.wrap_u64, IntKind.wrap_u64, IntKind.wrap_u64, IntKind.wrap_u64]
    omega
  · rw [IntKind.wrap_u64]; omega
  · rw [IntKind.wrap_u64]; omega

set_option maxRecDepth 20000 in
set_option maxHeartbeats 2000000 in
theorem refTakeDeltas_of (v : Value) (n : Int) (d : List Int) (a e : Nat) (w : World) (hd : d.length ≤ 65536) (hz : e = 0 ∨ d = [] ∧ a = 0)
    (c1 : Hid (Calls Try.prog 19 #[v, .int .i64 n] w (GivesI d a e w))) :
    Calls Try.prog 21 #[v, .int .i64 n] w (GivesI (sumL 0 d) a e w) := by
  rcases Nat.eq_zero_or_pos e with rfl | he
  · go_enter Try.func21, Try.ntmps21
    go_wp2_with (go_at_call 19; refine c1.out.mono ?_; rintro e' w1 ⟨v1, rfl, hown1, hb1⟩; have hd1 := Lib.hid (show IntsAt w1 v1 d from hown1.row); have hlv := fun W => hd1.out.len (ty := 3) W)
    go_loopw [10, 11, 12] (fun o u t wr => ∃ (i : Nat) (s : List Int) (U : Int), t = .int .i64 i ∧ u = .int .u64 U ∧ i ≤ d.length ∧ s.length = i ∧ OwnRow wr w1.heap.size 3 o (ints s) ∧ Hid (SumSo d i s U) ∧ 0 ≤ U ∧ U ≤ 18446744073709551615 ∧ Below w1.heap.size w1 wr) (fun _ _ t _ => d.length - (intOf t).toNat)
    case atStart => exact ⟨0, [], 0, rfl, rfl, by omega, rfl, OwnRow.none_ _ _ _, Lib.hid (SumSo.start d), by omega, by omega, Below.refl _ _⟩
    case round =>
      obtain ⟨i, s, U, rfl, rfl, hi, hsl, hown, hso, hU0, hU1, hbel⟩ := hrel
      have hbw : Below w.heap.size w wr := then_call hb1 hbel
      rcases Nat.lt_or_ge i d.length with hil | hil
      · obtain ⟨ad, ha, hac, hab⟩ := hd1.out.index hil
        obtain ⟨x, hx⟩ : ∃ x, d.getD i 0 = x := ⟨_, rfl⟩
        rw [hx, ← hbel.cell (p := ad) hab] at hac
        obtain ⟨U', y, hsw1, hsw2, hnext, hU2, hU3⟩ := hso.out.next hil hx
        have hnext := Lib.hid hnext
        have hs65 : (ints s).length ≤ 65536 := by rw [ints_len]; omega
        have hsl := Lib.hid hsl
        clear hx hso
        go_wp2_with (at_builtin; refine append_row elemI rfl (.tmp 36) (.tmp 39) rfl w1.heap.size rfl (hown.alloc _) rfl (row_box _ _ _) (by intro u hu; simp at hu; subst hu; rfl) (by simp; omega) (by have := hbel.size; simp; omega) ?_; intro v6 w6 hown6 hb6; have hbel6 : Below w1.heap.size w1 w6 := (then_box hbel _).trans hb6)
        go_roundw
        case rel => exact ⟨i + 1, s ++ [y], U', by go_num, by go_num, by omega, by simp [hsl.out], by rw [ints_app]; exact hown6, hnext, hU2, hU3, hbel6⟩
        case measure => simp [intOf]; omega
      · have hd2 : Hid (s = sumL 0 d) := Lib.hid (by have := hso.out.1; rwa [List.take_of_length_le hil] at this)
        go_wp2
        go_ret3
        exact ⟨_, rfl, by rw [← hd2.out]; exact hown.lower hb1.size, hbw⟩
  · obtain ⟨rfl, rfl⟩ : d = [] ∧ a = 0 := by
      rcases hz with h | h
      · omega
      · exact h
    have hne : decide ((e : Int) = 0) = false := decide_eq_false (by omega)
    go_enter Try.func21, Try.ntmps21
    go_wp2_with (go_at_call 19; refine c1.out.mono ?_; rintro e' w1 ⟨v1, rfl, hown1, hb1⟩)
    go_ret3
    exact GivesI.nil hb1
end Go.Proofs.Ytdonbgejnllhlaa
