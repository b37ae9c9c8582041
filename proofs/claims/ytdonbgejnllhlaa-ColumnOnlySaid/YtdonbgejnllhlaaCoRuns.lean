/-
  Runs, the document's own answer: the bytes of a list's runs, in a new row.
-/
import Derived.Test.YtdonbgejnllhlaaVaApp
import Derived.Test.YtdonbgejnllhlaaCoNum2
import Derived.Test.YtdonbgejnllhlaaSl
import Derived.Deep.QuietTactic
import Derived.BigQuiet
import Derived.Outline
namespace Go.Proofs.Ytdonbgejnllhlaa
open Go.RowKit Go.Sort

theorem zig_N (x : Int) : zig x = (zigN x : Nat) := by
  unfold zig zigN; split <;> omega
theorem zag_N (m : Nat) : zag (m : Int) = zagN m := by
  unfold zag zagN; split <;> split <;> omega

theorem refZig_N {x : Int} {z : Nat} (h : zigN x = z) (hx : InR x) (w : World) : Calls Try.prog 29 #[.int .i64 x] w fun e w' => e = .returned (.int .u64 (z : Nat)) ∧ w = w' := by
  have := refZig_any x hx.1 hx.2 w
  rw [zig_N, h] at this
  exact this
theorem refZag_N {m : Nat} {x : Int} (h : zagN m = x) (hm : m < 18446744073709551616) (w : World) : Calls Try.prog 35 #[.int .u64 m] w fun e w' => e = .returned (.int .i64 x) ∧ w = w' := by
  have := refZag_any m (by omega) (by omega) w
  rw [zag_N, h] at this
  exact this

theorem drop_piece : ∀ (m i : Nat) (l : List Int) (x : Int), i + m ≤ l.length → (∀ j, i ≤ j → j < i + m → l.getD j 0 = x) → l.drop i = List.replicate m x ++ l.drop (i + m)
  | 0, i, l, x, _, _ => by simp
  | m + 1, i, l, x, hle, h => by
    have hi : i < l.length := by omega
    rw [List.drop_eq_getElem_cons hi, List.replicate_succ, List.cons_append, drop_piece m (i + 1) l x (by omega) (fun j h1 h2 => h j (by omega) (by omega))]
    have := h i (by omega) (by omega)
    simp only [List.getD, List.getElem?_eq_getElem hi, Option.getD_some] at this
    rw [this, show i + 1 + m = i + (m + 1) by omega]

/-- A run of a list, and what it adds. -/
theorem run_piece {l : List Int} {i k m : Nat} {x : Int} (hk : k = i + m) (hm : 1 ≤ m) (hkl : k ≤ l.length) (hall : ∀ j, i ≤ j → j < k → l.getD j 0 = x) (hend : k = l.length ∨ l.getD k 0 ≠ x) :
    bytesR (l.drop i) = putL m ++ (putL (zigN x) ++ bytesR (l.drop k)) := by
  subst hk
  rw [drop_piece m i l x hkl hall]
  refine bytes_rep ?_ hm
  intro y t' ht
  rcases hend with h | h
  · rw [List.drop_eq_nil_of_le (by omega)] at ht; cases ht
  · have hlt : i + m < l.length := by
      rcases Nat.lt_or_ge (i + m) l.length with h' | h'
      · exact h'
      · rw [List.drop_eq_nil_of_le h'] at ht; cases ht
    rw [List.drop_eq_getElem_cons hlt] at ht
    injection ht with h1 _
    simp only [List.getD, List.getElem?_eq_getElem hlt, Option.getD_some] at h
    rw [← h1]; exact h

/-- What has been put of a list, and how many bytes at most. -/
structure PutSo (l : List Int) (i : Nat) (done : List Nat) : Prop where
  bytes : bytesR l = done ++ bytesR (l.drop i)
  short : done.length ≤ 20 * i

theorem PutSo.start (l : List Int) : PutSo l 0 [] := ⟨rfl, by simp⟩
theorem PutSo.next {l : List Int} {i k m : Nat} {x : Int} {done : List Nat} (h : PutSo l i done) (hk : k = i + m) (hm : 1 ≤ m) (hkl : k ≤ l.length) (hl : l.length ≤ 65536) (hx : InR x) (hall : ∀ j, i ≤ j → j < k → l.getD j 0 = x) (hend : k = l.length ∨ l.getD k 0 ≠ x) :
    PutSo l k (done ++ putL m ++ putL (zigN x)) := by
  refine ⟨by rw [h.bytes, run_piece hk hm hkl hall hend]; simp, ?_⟩
  have h1 := putL_len10 (n := m) (by omega)
  have h2 := putL_len10 (zigN_lt hx)
  have h3 := h.short
  rw [List.length_append, List.length_append]
  omega
theorem PutSo.done {l : List Int} {i : Nat} {done : List Nat} (h : PutSo l i done) (hi : l.length ≤ i) : done = bytesR l := by
  rw [h.bytes, List.drop_eq_nil_of_le hi]; simp [bytesR, runsL, encR]

set_option maxRecDepth 20000 in
set_option maxHeartbeats 2000000 in
theorem refRuns_any (v : Value) (l : List Int) (w : World) (hv : IntsAt w v l) (hr : ∀ x ∈ l, InR x) (hl : l.length ≤ 65536) :
    Calls Try.prog 12 #[v] w fun e w' => ∃ v', e = .returned v' ∧ Own w' w.heap.size v' (bytesR l) ∧ Below w.heap.size w w' := by
  have hlv := fun W => hv.len (ty := 3) W
  have hv := Lib.hid hv
  have hr := Lib.hid hr
  go_enter Try.func12, Try.ntmps12
  go_wp2
  go_loopw [3, 4] (fun o t wr => ∃ (i : Nat) (done : List Nat), t = .int .i64 i ∧ i ≤ l.length ∧ Own wr w.heap.size o done ∧ Hid (PutSo l i done) ∧ Below w.heap.size w wr) (fun _ t _ => l.length - (intOf t).toNat)
  case atStart => exact ⟨0, [], rfl, by omega, own_none _ _, Lib.hid (PutSo.start l), Below.refl _ _⟩
  case round =>
    obtain ⟨i, done, rfl, hi, hown, hso, hbel⟩ := hrel
    rcases Nat.lt_or_ge i l.length with hil | hil
    · obtain ⟨ad, ha, hac, hab⟩ := hv.out.index hil
      obtain ⟨x, hx⟩ : ∃ x, l.getD i 0 = x := ⟨_, rfl⟩
      rw [hx] at hac
      have hx := Lib.hid hx
      go_wp2
      obtain ⟨wo, rfl⟩ : ∃ wo : World, wo = wr := ⟨_, rfl⟩
      go_loopw [5] (fun t wr => ∃ k : Nat, t = .int .i64 k ∧ i ≤ k ∧ k ≤ l.length ∧ Hid (∀ j, i ≤ j → j < k → l.getD j 0 = x) ∧ Below wo.heap.size wo wr) (fun t _ => l.length - (intOf t).toNat)
      case atStart => exact ⟨i, rfl, by omega, by omega, Lib.hid (by omega), Below.refl _ _⟩
      case round =>
        obtain ⟨k, rfl, hik, hk, hall, hbk⟩ := hrel
        have hbelr : Below w.heap.size w wr := then_call hbel hbk
        have hacr : wr.cell? ad = some (.int .i64 x) := (hbelr.cell (p := ad) hab).trans hac
        by_cases hgo : k < l.length ∧ l.getD k 0 = x
        · obtain ⟨hkl, hkx⟩ := hgo
          obtain ⟨bd, hb, hbc, hbb⟩ := hv.out.index hkl
          rw [hkx, ← hbelr.cell (p := bd) hbb] at hbc
          have hall2 : Hid (∀ j, i ≤ j → j < k + 1 → l.getD j 0 = x) := Lib.hid (fun j h1 h2 => by
            rcases Nat.lt_or_ge j k with h | h
            · exact hall.out j h1 h
            · obtain rfl : j = k := by omega
              exact hkx)
          have hkx := Lib.hid hkx
          go_wp2
          go_quiet (fail)
          go_wp2
          go_roundw
          case rel => exact ⟨k + 1, by go_num, by omega, by omega, hall2, below_drewN hbk _⟩
          case measure => simp [intOf]; omega
        · have hik2 : i < k := by
            rcases Nat.lt_or_ge i k with h | h
            · exact h
            · obtain rfl : k = i := by omega
              exact absurd ⟨hil, hx.out⟩ hgo
          obtain ⟨m, hkm⟩ : ∃ m, k = i + m := ⟨k - i, by omega⟩
          have hm1 : 1 ≤ m := by omega
          have hsub : (k : Int) - i = m := by omega
          have hxr : InR x := by
            rw [← hx.out]
            simp only [List.getD, List.getElem?_eq_getElem hil, Option.getD_some]
            exact hr.out _ (List.getElem_mem hil)
          rcases Nat.lt_or_ge k l.length with hkl | hkl
          · obtain ⟨bd, hb, hbc, hbb⟩ := hv.out.index hkl
            obtain ⟨y, hy⟩ : ∃ y, l.getD k 0 = y := ⟨_, rfl⟩
            have hyx : y ≠ x := fun h => hgo ⟨hkl, by rw [hy, h]⟩
            have hend : k = l.length ∨ l.getD k 0 ≠ x := .inr (by rw [hy]; exact hyx)
            rw [hy, ← hbelr.cell (p := bd) hbb] at hbc
            have hqf : (y == x) = false := beq_false_of_ne hyx
            clear hgo hy
            have hnext := Lib.hid (PutSo.next hso.out hkm hm1 hk hl hxr hall.out hend)
            have c1 := hide (fun W => refPut_any m (by omega) W)
            have c2 := hide (fun W => refPut_any (zigN x) (zigN_lt hxr) W)
            have c3 := hide (fun W => refZig_N (x := x) rfl hxr W)
            obtain ⟨z, hz⟩ : ∃ z, zigN x = z := ⟨_, rfl⟩
            rw [hz] at c2 c3 hnext
            have hlens : done.length ≤ 20 * 65536 := by have := hso.out.short; omega
            have hz10 : (putL z).length ≤ 10 := by rw [← hz]; exact putL_len10 (zigN_lt hxr)
            have hm10 : (putL m).length ≤ 10 := putL_len10 (by omega)
            clear hz hxr hend hall hso hkm
            go_wp2
            go_quiet (fail)
            go_wp2_with (first
              | (go_at_call 28; (first | (with_reducible refine (c1.out _).mono ?_; rintro e' w1 ⟨v1, rfl, ho1, hb1⟩; have hbel1 := then_call (below_drewN hbelr _) hb1; have hown1 := ((hown.later hbk).drewN _).later hb1) | (with_reducible refine (c2.out _).mono ?_; rintro e' w3 ⟨v3, rfl, ho3, hb3⟩; have hown3 := hown2.later hb3; have hbel3 := then_call hbel2 hb3)))
              | (go_at_call 29; refine (c3.out _).mono ?_; rintro e' w4 ⟨rfl, rfl⟩)
              | (at_builtin; refine append_bytes rfl (.tmp 28) (.tmp 33) rfl w.heap.size rfl hown1 rfl (putL_bytes ho1) (by omega) hbel1.size ?_; intro v2 w2 hown2 hb2; have hbel2 := hbel1.trans hb2; have hcx2 : w2.cell? ad = some (.int .i64 x) := (hbel2.cell (p := ad) hab).trans hac)
              | (at_builtin; refine append_bytes rfl (.tmp 35) (.tmp 41) rfl w.heap.size rfl hown3 rfl (putL_bytes ho3) (by simp; omega) hbel3.size ?_; intro v5 w5 hown5 hb5; have hbel5 := hbel3.trans hb5))
            go_roundw
            case rel => exact ⟨k, _, by go_num, by omega, hown5, hnext, hbel5⟩
            case measure => simp [intOf]; omega
          · have hend : k = l.length ∨ l.getD k 0 ≠ x := .inl (by omega)
            have hqf : decide (k < l.length) = false := decide_eq_false (by omega)
            clear hgo
            have hnext := Lib.hid (PutSo.next hso.out hkm hm1 hk hl hxr hall.out hend)
            have c1 := hide (fun W => refPut_any m (by omega) W)
            have c2 := hide (fun W => refPut_any (zigN x) (zigN_lt hxr) W)
            have c3 := hide (fun W => refZig_N (x := x) rfl hxr W)
            obtain ⟨z, hz⟩ : ∃ z, zigN x = z := ⟨_, rfl⟩
            rw [hz] at c2 c3 hnext
            have hlens : done.length ≤ 20 * 65536 := by have := hso.out.short; omega
            have hz10 : (putL z).length ≤ 10 := by rw [← hz]; exact putL_len10 (zigN_lt hxr)
            have hm10 : (putL m).length ≤ 10 := putL_len10 (by omega)
            clear hz hxr hend hall hso hkm
            go_wp2
            go_quiet (fail)
            go_wp2_with (first
              | (go_at_call 28; (first | (with_reducible refine (c1.out _).mono ?_; rintro e' w1 ⟨v1, rfl, ho1, hb1⟩; have hbel1 := then_call (below_drewN hbelr _) hb1; have hown1 := ((hown.later hbk).drewN _).later hb1) | (with_reducible refine (c2.out _).mono ?_; rintro e' w3 ⟨v3, rfl, ho3, hb3⟩; have hown3 := hown2.later hb3; have hbel3 := then_call hbel2 hb3)))
              | (go_at_call 29; refine (c3.out _).mono ?_; rintro e' w4 ⟨rfl, rfl⟩)
              | (at_builtin; refine append_bytes rfl (.tmp 28) (.tmp 33) rfl w.heap.size rfl hown1 rfl (putL_bytes ho1) (by omega) hbel1.size ?_; intro v2 w2 hown2 hb2; have hbel2 := hbel1.trans hb2; have hcx2 : w2.cell? ad = some (.int .i64 x) := (hbel2.cell (p := ad) hab).trans hac)
              | (at_builtin; refine append_bytes rfl (.tmp 35) (.tmp 41) rfl w.heap.size rfl hown3 rfl (putL_bytes ho3) (by simp; omega) hbel3.size ?_; intro v5 w5 hown5 hb5; have hbel5 := hbel3.trans hb5))
            go_roundw
            case rel => exact ⟨k, _, by go_num, by omega, hown5, hnext, hbel5⟩
            case measure => simp [intOf]; omega
    · have hd := Lib.hid (hso.out.done hil)
      go_wp2
      go_ret
      exact ⟨_, rfl, by rw [← hd.out]; exact hown, hbel⟩
end Go.Proofs.Ytdonbgejnllhlaa
