/-
  StampTexts: it hands back true and leaves all that was there as it was.
-/
import Derived.Test.YtmihcfjlhljmoaaDoorTxRef
namespace Go.Proofs.YtmihcfjlhljmoaaDoor
open Go.RowKit Go.Sort Go.Lib

open Classical in
noncomputable def px (l : List UInt8) : Int := if good l then pn l else 0
open Classical in
noncomputable def py (l : List UInt8) : Int := if good l then pr l else 0
open Classical in
noncomputable def pe (l : List UInt8) : Int := if good l then 0 else 12
theorem p_good {l : List UInt8} (h : good l) : px l = pn l ∧ py l = pr l ∧ pe l = 0 := ⟨if_pos h, if_pos h, if_pos h⟩
theorem p_bad {l : List UInt8} (h : ¬ good l) : px l = 0 ∧ py l = 0 ∧ pe l = 12 := ⟨if_neg h, if_neg h, if_neg h⟩
theorem read_is {l : List UInt8} {w : World} {e : Ending} {w' : World} (h : ReadEnd l w e w') : Ret (.tuple #[.agg #[.int .i64 (px l), .int .i64 (py l)], .int .i64 (pe l)]) w e w' := by
  obtain ⟨v, hv, he, hb⟩ := h
  rcases hv with ⟨g, rfl⟩ | ⟨g, rfl⟩
  · obtain ⟨h1, h2, h3⟩ := p_good g; rw [h1, h2, h3]; exact ⟨he, hb⟩
  · obtain ⟨h1, h2, h3⟩ := p_bad g; rw [h1, h2, h3]; exact ⟨he, hb⟩
theorem parse_is (s : ByteArray) (w : World) (T : Tab w) (hs : s.size ≤ 9223372036854775700) : Calls Tryd.prog 6 #[.string s] w (Ret (.tuple #[.agg #[.int .i64 (px s.data.toList), .int .i64 (py s.data.toList)], .int .i64 (pe s.data.toList)]) w) :=
  (parse_any s w T hs).mono fun _ _ => read_is
theorem refParse_is (s : ByteArray) (w : World) (hs : s.size ≤ 9223372036854775700) : Calls Tryd.prog 7 #[.string s] w (Ret (.tuple #[.agg #[.int .i64 (px s.data.toList), .int .i64 (py s.data.toList)], .int .i64 (pe s.data.toList)]) w) :=
  (refParse_any s w hs).mono fun _ _ => read_is

theorem text_live (w : World) (T : Tab w) : Calls Tryd.prog 8 #[.agg #[.int .i64 12, .int .i64 0]] w (Ret (.string ⟨#[49, 50, 46, 48]⟩) w) := by
  have h := text_any 12 0 w T
  have e : str (txt 12 0) = (⟨#[49, 50, 46, 48]⟩ : ByteArray) := by
    rw [txt_ok (.inr (by decide)), dec_big (by decide)]
    rw [show (12 : Int).toNat / 10 = 1 from rfl, show (12 : Int).toNat % 10 = 2 from rfl, show (0 : Int).toNat = 0 from rfl, decDigits_one (by decide), decDigits_one (by decide)]
    rfl
  rw [e] at h
  exact h

set_option maxHeartbeats 1000000 in
theorem stampTexts_walk (n r : Int) (s : ByteArray) (w : World) (T : Tab w) (hs : s.size ≤ 9223372036854775700) :
    Calls Tryd.prog 3 #[.agg #[.int .i64 n, .int .i64 r], .string s] w (Ret (.bool true) w) := by
  obtain ⟨W, hW, hb, TW, c0, c1⟩ := one_box w n r T
  have P1 := fun W T => parse_is s W T hs
  have P2 := fun W => refParse_is s W hs
  generalize px s.data.toList = x at P1 P2
  generalize py s.data.toList = y at P1 P2
  generalize pe s.data.toList = z at P1 P2
  have M1 := Lib.hid P1
  have M2 := Lib.hid P2
  clear P1 P2
  go_enter Tryd.func3, Tryd.ntmps3
  go_wp2_with fail
  clear hW
  refine (M1.out _ TW).mono ?_
  rintro e w1 ⟨rfl, hb1⟩
  replace c0 := cell_later hb1 c0
  replace c1 := cell_later hb1 c1
  replace TW := TW.after hb1
  replace hb := then_call hb hb1
  clear hb1
  go_wp2_with fail
  refine (M2.out _).mono ?_
  rintro e w2 ⟨rfl, hb2⟩
  have d0 := cell_later (a := ⟨w1.heap.size, 0, none⟩) (v := .int .i64 x) hb2 (by go_simp)
  have d1 := cell_later (a := ⟨w1.heap.size, 1, none⟩) (v := .int .i64 y) hb2 (by go_simp)
  replace c0 := cell_later hb2 (cell_later (below_box1 w1 _) c0)
  replace c1 := cell_later hb2 (cell_later (below_box1 w1 _) c1)
  replace TW := (TW.alloc _).after hb2
  replace hb := then_call (then_box hb _) hb2
  clear hb2
  go_wp2_with fail
  have W3 : w2.alloc (.cells #[.int .i64 x, .int .i64 y] 23) = w2.alloc (.cells #[.int .i64 x, .int .i64 y] 23) := rfl
  have e0 := cell_regrown (cell_later (below_box1 w2 (.cells #[.int .i64 x, .int .i64 y] 23)) c0)
  have e1 := cell_regrown (cell_later (below_box1 w2 (.cells #[.int .i64 x, .int .i64 y] 23)) c1)
  have f0 := cell_regrown (cell_later (below_box1 w2 (.cells #[.int .i64 x, .int .i64 y] 23)) d0)
  have f1 := cell_regrown (cell_later (below_box1 w2 (.cells #[.int .i64 x, .int .i64 y] 23)) d1)
  have g0 := cell_regrown (w := w2.alloc (.cells #[.int .i64 x, .int .i64 y] 23)) (a := ⟨w2.heap.size, 0, none⟩) (v := .int .i64 x) (by go_simp)
  have g1 := cell_regrown (w := w2.alloc (.cells #[.int .i64 x, .int .i64 y] 23)) (a := ⟨w2.heap.size, 1, none⟩) (v := .int .i64 y) (by go_simp)
  replace TW := TW.alloc (.cells #[.int .i64 x, .int .i64 y] 23)
  replace hb := then_box hb (.cells #[.int .i64 x, .int .i64 y] 23)
  clear c0 c1 d0 d1 W3 M1 M2
  refine wp_region_quiet_below (by kernel_rfl) (by kernel_rfl) ?_
  repeat (go_big_quiet_step (first
    | (go_at_call 8; first | with_reducible exact Calls.ret_regrown (text_live _ (TW.regrown _ _)) | with_reducible exact Calls.ret_regrown (text_any _ _ _ (TW.regrown _ _)))
    | (go_at_call 9; with_reducible exact Calls.ret_regrown (refText_any _ _ _))))
  refine wpQuiet_nil ?_
  intro w4 hw'
  have hb4 := then_call hb (below_of_regrown hw')
  clear hw' e0 e1 f0 f1 g0 g1
  go_wp2
  go_ret
  exact ⟨rfl, hb4⟩

end Go.Proofs.YtmihcfjlhljmoaaDoor
