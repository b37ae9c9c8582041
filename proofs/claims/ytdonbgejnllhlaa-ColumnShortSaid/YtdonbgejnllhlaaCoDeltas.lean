/-
  Deltas, the document's own answer.
-/
import Derived.Test.YtdonbgejnllhlaaCoRuns
import Derived.IntWalk
import Derived.Deep.RegionHeld3
namespace Go.Proofs.Ytdonbgejnllhlaa
open Go.RowKit Go.Sort

def DeltaSo (l : List Int) (i : Nat) (d : List Int) : Prop := d = deltaL 0 (l.take i)

theorem delta_first {l : List Int} {x : Int} (hl : 0 < l.length) (hx : l.getD 0 0 = x) (hr : InR x) {d : List Int} (h : DeltaSo l 0 d) : DeltaSo l 1 (d ++ [x]) := by
  unfold DeltaSo at *
  subst h
  cases l with
  | nil => simp at hl
  | cons y t =>
    simp at hx
    subst hx
    simp [deltaL, w64_id hr]

theorem delta_next {l : List Int} {i : Nat} {x y : Int} (hi : 0 < i) (hl : i < l.length) (hx : l.getD i 0 = x) (hy : l.getD (i - 1) 0 = y) {d : List Int} (h : DeltaSo l i d) : DeltaSo l (i + 1) (d ++ [w64 (x - y)]) := by
  unfold DeltaSo at *
  subst h
  have e : l.take (i + 1) = l.take i ++ [x] := by
    rw [List.take_add_one, List.getElem?_eq_getElem hl]
    simp only [List.getD, List.getElem?_eq_getElem hl, Option.getD_some] at hx
    simp [hx]
  rw [e, delta_snoc]
  have : (l.take i).getLast?.getD 0 = y := by
    rw [List.getLast?_eq_getElem?, List.length_take, Nat.min_eq_left (by omega), List.getElem?_take, if_pos (by omega)]
    exact hy
  rw [this]

/-- The difference, as the code reckons it. -/
theorem sub_wrap (a b : Int) : IntKind.i64.wrap (IntKind.u64.wrap (IntKind.u64.wrap a - IntKind.u64.wrap b)) = w64 (a - b) := by
  rw [IntKind.wrap_i64, IntKind.wrap_u64, IntKind.wrap_u64, IntKind.wrap_u64]
  unfold w64
  omega

set_option maxRecDepth 20000 in
set_option maxHeartbeats 2000000 in
theorem refDeltas_any (v : Value) (l : List Int) (w : World) (hv : IntsAt w v l) (hr : ∀ x ∈ l, InR x) (hl : l.length ≤ 65536) :
    Calls Try.prog 14 #[v] w fun e w' => ∃ v', e = .returned v' ∧ Own w' w.heap.size v' (bytesR (deltaL 0 l)) ∧ Below w.heap.size w w' := by
  have hlv := fun W => hv.len (ty := 3) W
  have hv := Lib.hid hv
  have hr := Lib.hid hr
  go_enter Try.func14, Try.ntmps14
  go_wp2
  go_loopw [3, 4] (fun o t wr => ∃ (i : Nat) (d : List Int), t = .int .i64 i ∧ i ≤ l.length ∧ OwnRow wr w.heap.size 3 o (ints d) ∧ Hid (DeltaSo l i d) ∧ d.length = i ∧ Below w.heap.size w wr) (fun _ t _ => l.length - (intOf t).toNat)
  case atStart => exact ⟨0, [], rfl, by omega, OwnRow.none_ _ _ _, Lib.hid (by simp [DeltaSo, deltaL]), rfl, Below.refl _ _⟩
  case round =>
    obtain ⟨i, d, rfl, hi, hown, hso, hdl, hbel⟩ := hrel
    rcases Nat.lt_or_ge i l.length with hil | hil
    · obtain ⟨ad, ha, hac, hab⟩ := hv.out.index hil
      obtain ⟨x, hx⟩ : ∃ x, l.getD i 0 = x := ⟨_, rfl⟩
      have hacw : w.cell? ad = some (.int .i64 x) := by rw [hac, hx]
      rw [hx, ← hbel.cell (p := ad) hab] at hac
      have hxr : InR x := by
        rw [← hx]
        simp only [List.getD, List.getElem?_eq_getElem hil, Option.getD_some]
        exact hr.out _ (List.getElem_mem hil)
      have hdi := Lib.hid hdl
      have hd65 : (ints d).length ≤ 65536 := by rw [ints_len]; omega
      clear hdl
      rcases Nat.eq_zero_or_pos i with h0 | h0
      · have hnext : Hid (DeltaSo l (i + 1) (d ++ [x])) := Lib.hid (by
          have h1 := hso.out
          rw [h0] at h1 hil hx ⊢
          exact delta_first hil hx hxr h1)
        have hq : decide ((i : Int) = 0) = true := decide_eq_true (by omega)
        have hq2 : ((i : Int) == 0) = true := by simp [h0]
        have ha0 : ∀ W, (Instr.indexAt 22 v (.int .i64 0)).run Try.prog W = .ok (.pointer (some ad)) W := by
          have h1 := ha
          rw [h0] at h1
          exact h1
        have h0 := Lib.hid h0
        clear hx hso
        go_wp2_with (at_builtin; refine append_row elemI rfl (.tmp 13) (.tmp 18) rfl w.heap.size rfl (hown.alloc _) rfl (row_box wr _ _) (by intro u hu; simp at hu; subst hu; rfl) (by simp; omega) (by have := hbel.size; simp; omega) ?_; intro v2 w2 hown2 hb2; have hbel2 : Below w.heap.size w w2 := (then_box hbel _).trans hb2)
        go_roundw
        case rel => exact ⟨i + 1, d ++ [x], by go_num, by omega, by rw [ints_app]; exact hown2, hnext, by simp [hdi.out], hbel2⟩
        case measure => simp [intOf]; omega
      · obtain ⟨bd, hb, hbc, hbb⟩ := hv.out.index (k := i - 1) (by omega)
        obtain ⟨y, hy⟩ : ∃ y, l.getD (i - 1) 0 = y := ⟨_, rfl⟩
        have hbcw : w.cell? bd = some (.int .i64 y) := by rw [hbc, hy]
        rw [hy, ← hbel.cell (p := bd) hbb] at hbc
        have hnext := Lib.hid (delta_next h0 hil hx hy hso.out)
        clear hx hy hso
        have hi1 : (i : Int) - 1 = ((i - 1 : Nat) : Int) := by omega
        have hne : decide ((i : Int) = 0) = false := decide_eq_false (by omega)
        have hw : IntKind.i64.wrap ((i - 1 : Nat) : Int) = ((i - 1 : Nat) : Int) := IntWalk.i64_in _ (by omega)
        have hsw := sub_wrap x y
        have habr : ad.block < wr.heap.size := Nat.lt_of_lt_of_le hab hbel.size
        have hbbr : bd.block < wr.heap.size := Nat.lt_of_lt_of_le hbb hbel.size
        go_wp2
        go_region_held3 (fun w' => w'.cell? ad = some (.int .i64 x) ∧ w'.cell? bd = some (.int .i64 y)) (go_keep) ((refine step_append_row elemI (by rfl) (.tmp 20) (.tmp 34) (by rfl) w.heap.size (by rfl) ((hown.alloc _).drew) (by rfl) (row_box wr _ _).drew (by intro u hu; simp at hu; subst hu; rfl) (by simp; omega) (by have := hbel.size; simp; omega) ?_; intro v2 w2 hown2 hb2; have hbel2 : Below w.heap.size w w2 := ((then_box hbel _).drew).trans hb2; have hA2 : w2.cell? ad = some (.int .i64 x) := (hbel2.cell (p := ad) hab).trans hacw; have hB2 : w2.cell? bd = some (.int .i64 y) := (hbel2.cell (p := bd) hbb).trans hbcw))
        go_wp2
        go_roundw
        case rel => exact ⟨i + 1, d ++ [w64 (x - y)], by go_num, by omega, by rw [ints_app]; exact hown2, hnext, by simp [hdi.out], hbel2⟩
        case measure => simp [intOf]; omega
    · have hd : Hid (d = deltaL 0 l) := Lib.hid (by have := hso.out; unfold DeltaSo at this; rwa [List.take_of_length_le hil] at this)
      go_wp2_with (go_at_call 12; refine (refRuns_any _ d _ hown.row (by rw [hd.out]; exact delta_in 0 l) (by omega)).mono ?_; rintro e' w2 ⟨v2, rfl, ho2, hb2⟩)
      go_ret
      exact ⟨_, rfl, by rw [← hd.out]; exact ho2.lower hbel.size, then_call hbel hb2⟩
end Go.Proofs.Ytdonbgejnllhlaa
