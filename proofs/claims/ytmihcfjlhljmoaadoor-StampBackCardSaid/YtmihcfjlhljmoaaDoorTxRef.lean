/-
  What the document's own answer to Parse hands back.
-/
import Derived.Test.YtmihcfjlhljmoaaDoorTxParse
import Derived.Deep.RegionHeld3
import Derived.Deep.DrawnRows
namespace Go.Proofs.YtmihcfjlhljmoaaDoor
open Go.RowKit Go.Sort Go.Lib

theorem below_drew1 {B : Nat} {a w : World} (h : Below B a w) : Below B a w.drew := ⟨h.os, h.tape, h.output, h.size, h.block⟩
theorem nonempty_of {s : ByteArray} {k : Nat} (h : k < s.size) : s.data.toList.isEmpty = false := by
  have hl : s.data.toList.length = s.size := rfl
  cases h' : s.data.toList with
  | nil => rw [h'] at hl; simp at hl; omega
  | cons _ _ => rfl

theorem ref_key {s : ByteArray} {k : Nat} (hk : k < s.size) (h46 : s[k].toNat = 46) (hno : ∀ j, j < k → ∀ hj : j < s.data.toList.length, s.data.toList[j] ≠ 46) :
    (good s.data.toList ∧ num (s.extract 0 k).data.toList = pn s.data.toList ∧ num (s.extract (k + 1) s.size).data.toList = pr s.data.toList ∧ ((str (txt (num (s.extract 0 k).data.toList) (num (s.extract (k + 1) s.size).data.toList))).toList == s.toList) = true) ∨ (¬ good s.data.toList ∧ ((str (txt (num (s.extract 0 k).data.toList) (num (s.extract (k + 1) s.size).data.toList))).toList == s.toList) = false) := by
  have hl : s.data.toList.length = s.size := rfl
  have e1 : (s.extract 0 k).data.toList = s.data.toList.take k := by rw [Lib.extract_data]; simp
  have e2 : (s.extract (k + 1) s.size).data.toList = s.data.toList.drop (k + 1) := by rw [Lib.extract_data, List.take_of_length_le]; rw [List.length_drop, hl]; omega
  have h46' : s.data.toList[k]'(by rw [hl]; exact hk) = 46 := UInt8.toNat_inj.1 h46
  rw [e1, e2, str_toList, ByteArray.toList_eq]
  by_cases g : good s.data.toList
  · refine .inl ⟨g, ?_⟩
    obtain ⟨n, r, ho, hlt⟩ := (good_iff _).1 g
    obtain ⟨p1, p2⟩ := p_txt ho
    rw [← hlt] at p1 p2
    have hb := ok_bounds ho
    have hk' : k < (txt n r).length := by rw [← hlt, hl]; exact hk
    have e46 : (txt n r)[k] = 46 := by simpa only [hlt] using h46'
    obtain ⟨t1, t2⟩ := point_at ho hk' e46 (fun j hj => by
      have := hno j hj (by rw [hl]; omega)
      simpa only [hlt] using this)
    rw [← hlt] at t1 t2
    rw [t1, t2, num_dec (by omega), num_dec (by omega)]
    refine ⟨by omega, by omega, ?_⟩
    rw [beq_iff_eq, Int.toNat_of_nonneg hb.1, Int.toNat_of_nonneg hb.2.2.1]
    exact hlt.symm
  · refine .inr ⟨g, ?_⟩
    rw [beq_eq_false_iff_ne]
    intro e
    refine g ((good_iff _).2 ⟨_, _, txt_ne.1 ?_, e.symm⟩)
    rw [e]
    intro e0
    rw [e0] at hl
    simp at hl
    omega

theorem ref_none {l : List UInt8} {k : Nat} (hk : l.length ≤ k ∨ 20 ≤ k) (hno : ∀ j, j < k → ∀ hj : j < l.length, l[j] ≠ 46) : ¬ good l := by
  intro g
  obtain ⟨n, r, ho, rfl⟩ := (good_iff _).1 g
  obtain ⟨j, hj, h20, e⟩ := point_there ho
  exact hno j (by omega) hj e

set_option maxHeartbeats 1000000 in
theorem refParse_any (s : ByteArray) (w : World) (hs : s.size ≤ 9223372036854775700) :
    Calls Tryd.prog 7 #[.string s] w (ReadEnd s.data.toList w) := by
  have R0 : (w.alloc (.cells #[.int .i64 0, .int .i64 0] 23)).heap[w.heap.size]? = some (.cells #[.int .i64 0, .int .i64 0] 23) := Go.heap_alloc_new w _
  obtain ⟨W, hW, hsz, hb, bR⟩ := new_box w (.cells #[.int .i64 0, .int .i64 0] 23)
  clear R0
  go_enter Tryd.func7, Tryd.ntmps7
  go_wp2
  clear hW
  go_loop [4] (fun i => ∃ k : Nat, i = .int .i64 k ∧ k ≤ s.size ∧ k ≤ 20 ∧ ∀ j, j < k → ∀ hj : j < s.data.toList.length, s.data.toList[j] ≠ 46) (fun i => s.size - (RowKit.intOf i).toNat)
  case atStart => exact ⟨0, rfl, by omega, by omega, fun j hj => absurd hj (by omega)⟩
  case round =>
    obtain ⟨k, rfl, hks, hk20, hno⟩ := hrel
    have hno := Lib.hid hno
    have R := Lib.hid bR
    by_cases hk : k < s.size
    · by_cases hk2 : k < 20
      · obtain ⟨c, hc⟩ : ∃ c : Nat, s[k].toNat = c := ⟨_, rfl⟩
        by_cases h46 : c = 46
        · have he : ((c : Int) == 46) = true := beq_iff_eq.2 (by omega)
          have h46 := Lib.hid h46
          go_wp2_with fail
          have hw1 : IntKind.i64.wrap ((k : Int) + 1) = (k : Int) + 1 := IntWalk.i64_in _ (by omega)
          have hp1 : (0 : Int) ≤ (k : Int) + 1 := by omega
          have hp2 : ((k : Int) + 1).toNat = k + 1 := by omega
          have hk0 : (0 : Int) ≤ (k : Int) := by omega
          have hk1 : (k : Int) ≤ s.size := by omega
          have hk3 : (k : Int) + 1 ≤ s.size := by omega
          have hx1 := Lib.hid (number_any (s.extract 0 k) · (by simp [ByteArray.size_extract]; omega))
          have hx2 := Lib.hid (number_any (s.extract (k + 1) s.size) · (by simp [ByteArray.size_extract]; omega))
          have key : (good s.data.toList ∧ num (s.extract 0 k).data.toList = pn s.data.toList ∧ num (s.extract (k + 1) s.size).data.toList = pr s.data.toList ∧ ((str (txt (num (s.extract 0 k).data.toList) (num (s.extract (k + 1) s.size).data.toList))).toList == s.toList) = true) ∨ (¬ good s.data.toList ∧ ((str (txt (num (s.extract 0 k).data.toList) (num (s.extract (k + 1) s.size).data.toList))).toList == s.toList) = false) := ref_key hk (by rw [hc]; exact h46.out) hno.out
          have hne : s.toList.isEmpty = false := by rw [ByteArray.toList_eq]; exact nonempty_of hk
          generalize hX : num (s.extract 0 k).data.toList = X at *
          generalize hY : num (s.extract (k + 1) s.size).data.toList = Y at *
          have hX := Lib.hid hX
          have hY := Lib.hid hY
          clear hs
          go_region_held3 (fun _ => True) (trivial) ((go_at_call 13; (first | with_reducible refine (hx1.out _).mono ?_ | with_reducible refine (hx2.out _).mono ?_); rintro e w' ⟨rfl, rfl⟩))
          all_goals
            go_wp2_with fail
            refine (refText_any _ _ _).mono ?_
            rintro e w5 ⟨rfl, hb5⟩
            have c0 := cell_later (a := ⟨w.heap.size + 1, 0, none⟩) (v := .int .i64 X) hb5 (by go_simp)
            have c1 := cell_later (a := ⟨w.heap.size + 1, 1, none⟩) (v := .int .i64 Y) hb5 (by go_simp)
            have hbW : Below W.heap.size W w5 := then_call (below_drew1 (below_box1 W _)) hb5
            have bR5 := later_box hbW R.out
            have hb' := then_call hb hbW
            clear hb5 hbW R hx1 hx2
            obtain ⟨q0, q1, f0, f1⟩ := two_cells bR5
            rcases key with ⟨g, rfl, rfl, e1⟩ | ⟨g, e1⟩
            · have g := Lib.hid g
              have fin := Lib.hid (set1 (set0 bR5 (.int .i64 (pn s.data.toList))) (.int .i64 (pr s.data.toList)))
              have R5 := Lib.hid bR5
              go_wp2
              refine bodyPost_ret (results_stamp rfl _ _ _ _ _ rfl fin.out) rfl ⟨_, .inl ⟨g.out, rfl⟩, rfl, (hb'.setCell (by first | (simp; done) | (simp; omega)) _).setCell (by first | (simp; done) | (simp; omega)) _⟩
            · have g := Lib.hid g
              have fin := Lib.hid (set1 (set0 bR5 (.int .i64 0)) (.int .i64 0))
              have R5 := Lib.hid bR5
              go_wp2
              refine bodyPost_ret (results_stamp rfl _ _ _ _ _ rfl fin.out) rfl ⟨_, .inr ⟨g.out, rfl⟩, rfl, (hb'.setCell (by first | (simp; done) | (simp; omega)) _).setCell (by first | (simp; done) | (simp; omega)) _⟩
        · have he : ((c : Int) == 46) = false := beq_eq_false_iff_ne.2 (by omega)
          have h46 := Lib.hid h46
          have h46 := Lib.hid (show ¬ (s.data.toList[k]'(show k < s.data.toList.length from hk)) = 46 from fun h => h46.out (by rw [← hc]; exact congrArg UInt8.toNat h))
          go_wp2
          exact ⟨⟨k + 1, by go_num, by omega, by omega, fun j hj hjl => by
            rcases Nat.lt_or_eq_of_le (Nat.le_of_lt_succ hj) with h | rfl
            · exact hno.out j h hjl
            · exact h46.out⟩, by simp [RowKit.intOf]; omega⟩
      · have g : Hid (¬ good s.data.toList) := ref_none (k := k) (.inr (by omega)) hno.out
        have fin := Lib.hid (set1 (set0 bR (.int .i64 0)) (.int .i64 0))
        obtain ⟨q0, q1, f0, f1⟩ := two_cells bR
        have hk2' : (20 : Int) ≤ k := by omega
        clear bR
        go_wp2
        refine bodyPost_ret (results_stamp rfl _ _ _ _ _ rfl fin.out) rfl ⟨_, .inr ⟨g.out, rfl⟩, rfl, (hb.setCell (by first | (simp; done) | (simp; omega)) _).setCell (by first | (simp; done) | (simp; omega)) _⟩
    · have g : Hid (¬ good s.data.toList) := ref_none (k := k) (.inl (by have : s.data.toList.length = s.size := rfl; omega)) hno.out
      have fin := Lib.hid (set1 (set0 bR (.int .i64 0)) (.int .i64 0))
      obtain ⟨q0, q1, f0, f1⟩ := two_cells bR
      have hk' : (s.size : Int) ≤ k := by omega
      clear bR
      go_wp2
      refine bodyPost_ret (results_stamp rfl _ _ _ _ _ rfl fin.out) rfl ⟨_, .inr ⟨g.out, rfl⟩, rfl, (hb.setCell (by first | (simp; done) | (simp; omega)) _).setCell (by first | (simp; done) | (simp; omega)) _⟩

end Go.Proofs.YtmihcfjlhljmoaaDoor
