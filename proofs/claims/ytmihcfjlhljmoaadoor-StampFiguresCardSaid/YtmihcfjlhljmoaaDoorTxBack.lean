/-
  StampBack: it hands back true and leaves all that was there as it was.
-/
import Derived.Test.YtmihcfjlhljmoaaDoorTxLaw
namespace Go.Proofs.YtmihcfjlhljmoaaDoor
open Go.RowKit Go.Sort Go.Lib

theorem good_txt {n r : Int} (h : ok n r) : good (txt n r) := (good_iff _).2 ⟨n, r, h, rfl⟩
theorem parse_ok {n r : Int} (h : ok n r) (w : World) (T : Tab w) : Calls Tryd.prog 6 #[.string (str (txt n r))] w (Ret (.tuple #[.agg #[.int .i64 n, .int .i64 r], .int .i64 0]) w) := by
  have hl : (txt n r).length ≤ 15 := by
    obtain ⟨h1, h2⟩ := txt_size h
    rw [str_size] at h1 h2
    rw [txt_ok h, List.length_append, List.length_cons]
    omega
  have := parse_is (str (txt n r)) w T (by rw [str_size]; omega)
  rw [str_list] at this
  obtain ⟨e1, e2, e3⟩ := p_good (good_txt h)
  obtain ⟨e4, e5⟩ := p_txt h
  rw [e1, e2, e3, e4, e5] at this
  exact this
theorem parse_empty {n r : Int} (h : ¬ ok n r) (w : World) (T : Tab w) : Calls Tryd.prog 6 #[.string (str (txt n r))] w (Ret (.tuple #[.agg #[.int .i64 0, .int .i64 0], .int .i64 12]) w) := by
  have := parse_is (str (txt n r)) w T (by rw [str_size, txt_no h]; simp)
  rw [str_list] at this
  obtain ⟨e1, e2, e3⟩ := p_bad (l := txt n r) (fun g => g.2 (txt_no h))
  rw [e1, e2, e3] at this
  exact this
theorem parse_live (w : World) (T : Tab w) : Calls Tryd.prog 6 #[.string ⟨#[56, 46, 50]⟩] w (Ret (.tuple #[.agg #[.int .i64 8, .int .i64 2], .int .i64 0]) w) := by
  have e : str (txt 8 2) = (⟨#[56, 46, 50]⟩ : ByteArray) := by
    rw [txt_ok (.inr (by decide)), show (8 : Int).toNat = 8 from rfl, show (2 : Int).toNat = 2 from rfl, decDigits_one (by decide), decDigits_one (by decide)]
    rfl
  rw [← e]
  exact parse_ok (.inr (by decide)) w T
theorem parse_good {s : ByteArray} (g : good s.data.toList) (hs : s.size ≤ 9223372036854775700) (w : World) (T : Tab w) : Calls Tryd.prog 6 #[.string s] w (Ret (.tuple #[.agg #[.int .i64 (pn s.data.toList), .int .i64 (pr s.data.toList)], .int .i64 0]) w) := by
  have := parse_is s w T hs
  obtain ⟨e1, e2, e3⟩ := p_good g
  rw [e1, e2, e3] at this
  exact this
theorem parse_bad {s : ByteArray} (g : ¬ good s.data.toList) (hs : s.size ≤ 9223372036854775700) (w : World) (T : Tab w) : Calls Tryd.prog 6 #[.string s] w (Ret (.tuple #[.agg #[.int .i64 0, .int .i64 0], .int .i64 12]) w) := by
  have := parse_is s w T hs
  obtain ⟨e1, e2, e3⟩ := p_bad g
  rw [e1, e2, e3] at this
  exact this

theorem back_boxes (w : World) (n r n' r' : Int) (T : Tab w) : ∃ W, (w.alloc (.cells #[.int .i64 n, .int .i64 r] 23)).alloc (.cells #[.int .i64 n', .int .i64 r'] 23) = W ∧ Below w.heap.size w W ∧ Tab W ∧ W.cell? ⟨w.heap.size, 0, none⟩ = some (.int .i64 n) ∧ W.cell? ⟨w.heap.size, 1, none⟩ = some (.int .i64 r) ∧ W.cell? ⟨w.heap.size + 1, 0, none⟩ = some (.int .i64 n') ∧ W.cell? ⟨w.heap.size + 1, 1, none⟩ = some (.int .i64 r') :=
  ⟨_, rfl, below_alloc2 _ _ _, (T.alloc _).alloc _, by go_simp, by go_simp, by go_simp, by go_simp⟩

/-- The ways on which StampBack goes, of its first part. -/
theorem back_ways (n r n' r' : Int) :
    (ok n r ∧ (str (txt n r)).toList.isEmpty = false ∧ rightB n r = true ∧ ((str (txt n r)).toList == (str (txt n' r')).toList) = false) ∨
    (ok n r ∧ (str (txt n r)).toList.isEmpty = false ∧ rightB n r = true ∧ ((str (txt n r)).toList == (str (txt n' r')).toList) = true ∧ n = n' ∧ r = r') ∨
    (ok n r ∧ (str (txt n r)).toList.isEmpty = false ∧ rightB n r = false ∧ n = 0 ∧ r = 0 ∧ ((str (txt n r)).toList == (str (txt n' r')).toList) = false) ∨
    (ok n r ∧ (str (txt n r)).toList.isEmpty = false ∧ rightB n r = false ∧ n = 0 ∧ r = 0 ∧ ((str (txt n r)).toList == (str (txt n' r')).toList) = true ∧ n = n' ∧ r = r') ∨
    (¬ ok n r ∧ (str (txt n r)).toList.isEmpty = true ∧ rightB n r = false ∧ ((n == 0) = false ∨ ((n == 0) = true ∧ (r == 0) = false))) := by
  rw [str_toList, str_toList]
  by_cases h : ok n r
  · have he : (txt n r).isEmpty = false := by
      cases h' : txt n r with
      | nil => exact absurd h' (txt_ne.2 h)
      | cons _ _ => rfl
    have hq : (((txt n r) == (txt n' r')) = false) ∨ (((txt n r) == (txt n' r')) = true ∧ n = n' ∧ r = r') := by
      by_cases e : txt n r = txt n' r'
      · have h' : ok n' r' := txt_ne.1 (by rw [← e]; exact txt_ne.2 h)
        exact .inr ⟨by rw [e]; exact beq_self_eq_true _, txt_inj h h' e⟩
      · exact .inl (beq_eq_false_iff_ne.2 e)
    by_cases hr : rightB n r = true
    · rcases hq with hq | hq
      · exact .inl ⟨h, he, hr, hq⟩
      · exact .inr (.inl ⟨h, he, hr, hq⟩)
    · have hz : n = 0 ∧ r = 0 := h.resolve_right hr
      have hr' : rightB n r = false := by simpa using hr
      rcases hq with hq | hq
      · exact .inr (.inr (.inl ⟨h, he, hr', hz.1, hz.2, hq⟩))
      · exact .inr (.inr (.inr (.inl ⟨h, he, hr', hz.1, hz.2, hq⟩)))
  · refine .inr (.inr (.inr (.inr ⟨h, by rw [txt_no h]; rfl, ?_, ?_⟩)))
    · rw [Bool.eq_false_iff]; exact fun h' => h (.inr h')
    · by_cases e : n = 0
      · exact .inr ⟨beq_iff_eq.2 e, beq_eq_false_iff_ne.2 fun e' => h (.inl ⟨e, e'⟩)⟩
      · exact .inl (beq_eq_false_iff_ne.2 e)

set_option maxHeartbeats 2000000 in
theorem stampBack_1 (n r n' r' : Int) (s : ByteArray) (w : World) (T : Tab w) (hs : s.size ≤ 9223372036854775700)
    (h : ok n r) (_h1 : (str (txt n r)).toList.isEmpty = false) (_h2 : rightB n r = true) (_h3 : ((str (txt n r)).toList == (str (txt n' r')).toList) = false) :
    Calls Tryd.prog 4 #[.agg #[.int .i64 n, .int .i64 r], .agg #[.int .i64 n', .int .i64 r'], .string s] w (Ret (.bool true) w) := by
  obtain ⟨W, hW, hb, TW, c0, c1, b0, b1⟩ := back_boxes w n r n' r' T
  have M1 := Lib.hid (fun W T => parse_ok h W T)
  clear h
  go_enter Tryd.func4, Tryd.ntmps4
  go_wp2_with (go_at_call 8; (with_reducible refine (text_any _ _ _ TW).mono ?_); rintro e w1 ⟨rfl, hb1⟩; replace c0 := cell_later hb1 c0; replace c1 := cell_later hb1 c1; replace b0 := cell_later hb1 b0; replace b1 := cell_later hb1 b1; replace TW := TW.after hb1; replace hb := then_call hb hb1; clear hb1)
  clear hW
  refine (M1.out _ TW).mono ?_
  rintro e w1 ⟨rfl, hb1⟩
  have e1 := cell_later (below_box1 w1 (.cells #[.int .i64 n, .int .i64 r] 23)) (cell_later hb1 c0)
  have e2 := cell_later (below_box1 w1 (.cells #[.int .i64 n, .int .i64 r] 23)) (cell_later hb1 c1)
  have e3 := cell_later (below_box1 w1 (.cells #[.int .i64 n, .int .i64 r] 23)) (cell_later hb1 b0)
  have e4 := cell_later (below_box1 w1 (.cells #[.int .i64 n, .int .i64 r] 23)) (cell_later hb1 b1)
  have x0 : (w1.alloc (.cells #[.int .i64 n, .int .i64 r] 23)).cell? ⟨w1.heap.size, 0, none⟩ = some (.int .i64 n) := by go_simp
  have x1 : (w1.alloc (.cells #[.int .i64 n, .int .i64 r] 23)).cell? ⟨w1.heap.size, 1, none⟩ = some (.int .i64 r) := by go_simp
  replace TW := (TW.after hb1).alloc (.cells #[.int .i64 n, .int .i64 r] 23)
  replace hb := then_box (then_call hb hb1) (.cells #[.int .i64 n, .int .i64 r] 23)
  clear hb1 M1 c0 c1 b0 b1
  go_wp2_with (first
    | (go_at_call 8; (with_reducible refine (text_any _ _ _ TW).mono ?_); rintro e w2 ⟨rfl, hb1⟩; replace e1 := cell_later hb1 e1; replace e2 := cell_later hb1 e2; replace e3 := cell_later hb1 e3; replace e4 := cell_later hb1 e4; replace x0 := cell_later hb1 x0; replace x1 := cell_later hb1 x1; replace TW := TW.after hb1; replace hb := then_call hb hb1; clear hb1)
    | (go_at_call 10; (with_reducible refine (right_any _ _ _).mono ?_); rintro e w2 ⟨rfl, hb1⟩; replace e1 := cell_later hb1 e1; replace e2 := cell_later hb1 e2; replace e3 := cell_later hb1 e3; replace e4 := cell_later hb1 e4; replace x0 := cell_later hb1 x0; replace x1 := cell_later hb1 x1; replace TW := TW.after hb1; replace hb := then_call hb hb1; clear hb1))
  clear e1 e2 e3 e4 x0 x1
  by_cases g : good s.data.toList
  · have e1 : ((str (txt (pn s.data.toList) (pr s.data.toList))).toList == s.toList) = true := by rw [str_toList, ByteArray.toList_eq, g.1]; exact beq_self_eq_true _
    have M2 := Lib.hid (fun W T => parse_good g hs W T)
    clear g
    generalize hyn : (pn s.data.toList : Int) = yn at *
    generalize hyr : (pr s.data.toList : Int) = yr at *
    clear hyn hyr
    refine (M2.out _ TW).mono ?_
    rintro e w3 ⟨rfl, hb3⟩
    replace TW := (TW.after hb3).alloc (.cells #[.int .i64 yn, .int .i64 yr] 23)
    replace hb := then_box (then_call hb hb3) (.cells #[.int .i64 yn, .int .i64 yr] 23)
    have y0 : (w3.alloc (.cells #[.int .i64 yn, .int .i64 yr] 23)).cell? ⟨w3.heap.size, 0, none⟩ = some (.int .i64 yn) := by go_simp
    have y1 : (w3.alloc (.cells #[.int .i64 yn, .int .i64 yr] 23)).cell? ⟨w3.heap.size, 1, none⟩ = some (.int .i64 yr) := by go_simp
    clear M2 hb3
    go_wp2_with fail
    refine (parse_live _ TW).mono ?_
    rintro e w4 ⟨rfl, hb4⟩
    replace TW := (TW.after hb4).alloc (.cells #[.int .i64 8, .int .i64 2] 23)
    replace hb := then_box (then_call hb hb4) (.cells #[.int .i64 8, .int .i64 2] 23)
    replace y0 := cell_later (below_box1 w4 (.cells #[.int .i64 8, .int .i64 2] 23)) (cell_later hb4 y0)
    replace y1 := cell_later (below_box1 w4 (.cells #[.int .i64 8, .int .i64 2] 23)) (cell_later hb4 y1)
    clear hb4
    go_wp2_with (go_at_call 8; (with_reducible refine (text_any _ _ _ TW).mono ?_); rintro e w5 ⟨rfl, hb1⟩; replace hb := then_call hb hb1; clear hb1)
    go_ret
    exact ⟨rfl, hb⟩
  · have M2 := Lib.hid (fun W T => parse_bad g hs W T)
    clear g
    refine (M2.out _ TW).mono ?_
    rintro e w3 ⟨rfl, hb3⟩
    replace TW := (TW.after hb3).alloc (.cells #[.int .i64 0, .int .i64 0] 23)
    replace hb := then_box (then_call hb hb3) (.cells #[.int .i64 0, .int .i64 0] 23)
    clear M2 hb3
    go_wp2_with fail
    refine (parse_live _ TW).mono ?_
    rintro e w4 ⟨rfl, hb4⟩
    replace hb := then_box (then_call hb hb4) (.cells #[.int .i64 8, .int .i64 2] 23)
    clear hb4
    go_wp2
    go_ret
    exact ⟨rfl, hb⟩

set_option maxHeartbeats 2000000 in
theorem stampBack_2 (n r : Int) (s : ByteArray) (w : World) (T : Tab w) (hs : s.size ≤ 9223372036854775700)
    (h : ok n r) (_h1 : (str (txt n r)).toList.isEmpty = false) (_h2 : rightB n r = true) :
    Calls Tryd.prog 4 #[.agg #[.int .i64 n, .int .i64 r], .agg #[.int .i64 n, .int .i64 r], .string s] w (Ret (.bool true) w) := by
  obtain ⟨W, hW, hb, TW, c0, c1, b0, b1⟩ := back_boxes w n r n r T
  have M1 := Lib.hid (fun W T => parse_ok h W T)
  clear h
  go_enter Tryd.func4, Tryd.ntmps4
  go_wp2_with (go_at_call 8; (with_reducible refine (text_any _ _ _ TW).mono ?_); rintro e w1 ⟨rfl, hb1⟩; replace c0 := cell_later hb1 c0; replace c1 := cell_later hb1 c1; replace b0 := cell_later hb1 b0; replace b1 := cell_later hb1 b1; replace TW := TW.after hb1; replace hb := then_call hb hb1; clear hb1)
  clear hW
  refine (M1.out _ TW).mono ?_
  rintro e w1 ⟨rfl, hb1⟩
  have e1 := cell_later (below_box1 w1 (.cells #[.int .i64 n, .int .i64 r] 23)) (cell_later hb1 c0)
  have e2 := cell_later (below_box1 w1 (.cells #[.int .i64 n, .int .i64 r] 23)) (cell_later hb1 c1)
  have e3 := cell_later (below_box1 w1 (.cells #[.int .i64 n, .int .i64 r] 23)) (cell_later hb1 b0)
  have e4 := cell_later (below_box1 w1 (.cells #[.int .i64 n, .int .i64 r] 23)) (cell_later hb1 b1)
  have x0 : (w1.alloc (.cells #[.int .i64 n, .int .i64 r] 23)).cell? ⟨w1.heap.size, 0, none⟩ = some (.int .i64 n) := by go_simp
  have x1 : (w1.alloc (.cells #[.int .i64 n, .int .i64 r] 23)).cell? ⟨w1.heap.size, 1, none⟩ = some (.int .i64 r) := by go_simp
  replace TW := (TW.after hb1).alloc (.cells #[.int .i64 n, .int .i64 r] 23)
  replace hb := then_box (then_call hb hb1) (.cells #[.int .i64 n, .int .i64 r] 23)
  clear hb1 M1 c0 c1 b0 b1
  go_wp2_with (first
    | (go_at_call 8; (with_reducible refine (text_any _ _ _ TW).mono ?_); rintro e w2 ⟨rfl, hb1⟩; replace e1 := cell_later hb1 e1; replace e2 := cell_later hb1 e2; replace e3 := cell_later hb1 e3; replace e4 := cell_later hb1 e4; replace x0 := cell_later hb1 x0; replace x1 := cell_later hb1 x1; replace TW := TW.after hb1; replace hb := then_call hb hb1; clear hb1)
    | (go_at_call 10; (with_reducible refine (right_any _ _ _).mono ?_); rintro e w2 ⟨rfl, hb1⟩; replace e1 := cell_later hb1 e1; replace e2 := cell_later hb1 e2; replace e3 := cell_later hb1 e3; replace e4 := cell_later hb1 e4; replace x0 := cell_later hb1 x0; replace x1 := cell_later hb1 x1; replace TW := TW.after hb1; replace hb := then_call hb hb1; clear hb1))
  clear e1 e2 e3 e4 x0 x1
  by_cases g : good s.data.toList
  · have e1 : ((str (txt (pn s.data.toList) (pr s.data.toList))).toList == s.toList) = true := by rw [str_toList, ByteArray.toList_eq, g.1]; exact beq_self_eq_true _
    have M2 := Lib.hid (fun W T => parse_good g hs W T)
    clear g
    generalize hyn : (pn s.data.toList : Int) = yn at *
    generalize hyr : (pr s.data.toList : Int) = yr at *
    clear hyn hyr
    refine (M2.out _ TW).mono ?_
    rintro e w3 ⟨rfl, hb3⟩
    replace TW := (TW.after hb3).alloc (.cells #[.int .i64 yn, .int .i64 yr] 23)
    replace hb := then_box (then_call hb hb3) (.cells #[.int .i64 yn, .int .i64 yr] 23)
    have y0 : (w3.alloc (.cells #[.int .i64 yn, .int .i64 yr] 23)).cell? ⟨w3.heap.size, 0, none⟩ = some (.int .i64 yn) := by go_simp
    have y1 : (w3.alloc (.cells #[.int .i64 yn, .int .i64 yr] 23)).cell? ⟨w3.heap.size, 1, none⟩ = some (.int .i64 yr) := by go_simp
    clear M2 hb3
    go_wp2_with fail
    refine (parse_live _ TW).mono ?_
    rintro e w4 ⟨rfl, hb4⟩
    replace TW := (TW.after hb4).alloc (.cells #[.int .i64 8, .int .i64 2] 23)
    replace hb := then_box (then_call hb hb4) (.cells #[.int .i64 8, .int .i64 2] 23)
    replace y0 := cell_later (below_box1 w4 (.cells #[.int .i64 8, .int .i64 2] 23)) (cell_later hb4 y0)
    replace y1 := cell_later (below_box1 w4 (.cells #[.int .i64 8, .int .i64 2] 23)) (cell_later hb4 y1)
    clear hb4
    go_wp2_with (go_at_call 8; (with_reducible refine (text_any _ _ _ TW).mono ?_); rintro e w5 ⟨rfl, hb1⟩; replace hb := then_call hb hb1; clear hb1)
    go_ret
    exact ⟨rfl, hb⟩
  · have M2 := Lib.hid (fun W T => parse_bad g hs W T)
    clear g
    refine (M2.out _ TW).mono ?_
    rintro e w3 ⟨rfl, hb3⟩
    replace TW := (TW.after hb3).alloc (.cells #[.int .i64 0, .int .i64 0] 23)
    replace hb := then_box (then_call hb hb3) (.cells #[.int .i64 0, .int .i64 0] 23)
    clear M2 hb3
    go_wp2_with fail
    refine (parse_live _ TW).mono ?_
    rintro e w4 ⟨rfl, hb4⟩
    replace hb := then_box (then_call hb hb4) (.cells #[.int .i64 8, .int .i64 2] 23)
    clear hb4
    go_wp2
    go_ret
    exact ⟨rfl, hb⟩

set_option maxHeartbeats 2000000 in
theorem stampBack_3 (n' r' : Int) (s : ByteArray) (w : World) (T : Tab w) (hs : s.size ≤ 9223372036854775700)
    (h : ok 0 0) (_h1 : (str (txt 0 0)).toList.isEmpty = false) (_h2 : rightB 0 0 = false) (_h3 : ((str (txt 0 0)).toList == (str (txt n' r')).toList) = false) :
    Calls Tryd.prog 4 #[.agg #[.int .i64 0, .int .i64 0], .agg #[.int .i64 n', .int .i64 r'], .string s] w (Ret (.bool true) w) := by
  obtain ⟨W, hW, hb, TW, c0, c1, b0, b1⟩ := back_boxes w 0 0 n' r' T
  have M1 := Lib.hid (fun W T => parse_ok h W T)
  clear h
  go_enter Tryd.func4, Tryd.ntmps4
  go_wp2_with (go_at_call 8; (with_reducible refine (text_any _ _ _ TW).mono ?_); rintro e w1 ⟨rfl, hb1⟩; replace c0 := cell_later hb1 c0; replace c1 := cell_later hb1 c1; replace b0 := cell_later hb1 b0; replace b1 := cell_later hb1 b1; replace TW := TW.after hb1; replace hb := then_call hb hb1; clear hb1)
  clear hW
  refine (M1.out _ TW).mono ?_
  rintro e w1 ⟨rfl, hb1⟩
  have e1 := cell_later (below_box1 w1 (.cells #[.int .i64 0, .int .i64 0] 23)) (cell_later hb1 c0)
  have e2 := cell_later (below_box1 w1 (.cells #[.int .i64 0, .int .i64 0] 23)) (cell_later hb1 c1)
  have e3 := cell_later (below_box1 w1 (.cells #[.int .i64 0, .int .i64 0] 23)) (cell_later hb1 b0)
  have e4 := cell_later (below_box1 w1 (.cells #[.int .i64 0, .int .i64 0] 23)) (cell_later hb1 b1)
  have x0 : (w1.alloc (.cells #[.int .i64 0, .int .i64 0] 23)).cell? ⟨w1.heap.size, 0, none⟩ = some (.int .i64 0) := by go_simp
  have x1 : (w1.alloc (.cells #[.int .i64 0, .int .i64 0] 23)).cell? ⟨w1.heap.size, 1, none⟩ = some (.int .i64 0) := by go_simp
  replace TW := (TW.after hb1).alloc (.cells #[.int .i64 0, .int .i64 0] 23)
  replace hb := then_box (then_call hb hb1) (.cells #[.int .i64 0, .int .i64 0] 23)
  clear hb1 M1 c0 c1 b0 b1
  go_wp2_with (first
    | (go_at_call 8; (with_reducible refine (text_any _ _ _ TW).mono ?_); rintro e w2 ⟨rfl, hb1⟩; replace e1 := cell_later hb1 e1; replace e2 := cell_later hb1 e2; replace e3 := cell_later hb1 e3; replace e4 := cell_later hb1 e4; replace x0 := cell_later hb1 x0; replace x1 := cell_later hb1 x1; replace TW := TW.after hb1; replace hb := then_call hb hb1; clear hb1)
    | (go_at_call 10; (with_reducible refine (right_any _ _ _).mono ?_); rintro e w2 ⟨rfl, hb1⟩; replace e1 := cell_later hb1 e1; replace e2 := cell_later hb1 e2; replace e3 := cell_later hb1 e3; replace e4 := cell_later hb1 e4; replace x0 := cell_later hb1 x0; replace x1 := cell_later hb1 x1; replace TW := TW.after hb1; replace hb := then_call hb hb1; clear hb1))
  clear e1 e2 e3 e4 x0 x1
  by_cases g : good s.data.toList
  · have e1 : ((str (txt (pn s.data.toList) (pr s.data.toList))).toList == s.toList) = true := by rw [str_toList, ByteArray.toList_eq, g.1]; exact beq_self_eq_true _
    have M2 := Lib.hid (fun W T => parse_good g hs W T)
    clear g
    generalize hyn : (pn s.data.toList : Int) = yn at *
    generalize hyr : (pr s.data.toList : Int) = yr at *
    clear hyn hyr
    refine (M2.out _ TW).mono ?_
    rintro e w3 ⟨rfl, hb3⟩
    replace TW := (TW.after hb3).alloc (.cells #[.int .i64 yn, .int .i64 yr] 23)
    replace hb := then_box (then_call hb hb3) (.cells #[.int .i64 yn, .int .i64 yr] 23)
    have y0 : (w3.alloc (.cells #[.int .i64 yn, .int .i64 yr] 23)).cell? ⟨w3.heap.size, 0, none⟩ = some (.int .i64 yn) := by go_simp
    have y1 : (w3.alloc (.cells #[.int .i64 yn, .int .i64 yr] 23)).cell? ⟨w3.heap.size, 1, none⟩ = some (.int .i64 yr) := by go_simp
    clear M2 hb3
    go_wp2_with fail
    refine (parse_live _ TW).mono ?_
    rintro e w4 ⟨rfl, hb4⟩
    replace TW := (TW.after hb4).alloc (.cells #[.int .i64 8, .int .i64 2] 23)
    replace hb := then_box (then_call hb hb4) (.cells #[.int .i64 8, .int .i64 2] 23)
    replace y0 := cell_later (below_box1 w4 (.cells #[.int .i64 8, .int .i64 2] 23)) (cell_later hb4 y0)
    replace y1 := cell_later (below_box1 w4 (.cells #[.int .i64 8, .int .i64 2] 23)) (cell_later hb4 y1)
    clear hb4
    go_wp2_with (go_at_call 8; (with_reducible refine (text_any _ _ _ TW).mono ?_); rintro e w5 ⟨rfl, hb1⟩; replace hb := then_call hb hb1; clear hb1)
    go_ret
    exact ⟨rfl, hb⟩
  · have M2 := Lib.hid (fun W T => parse_bad g hs W T)
    clear g
    refine (M2.out _ TW).mono ?_
    rintro e w3 ⟨rfl, hb3⟩
    replace TW := (TW.after hb3).alloc (.cells #[.int .i64 0, .int .i64 0] 23)
    replace hb := then_box (then_call hb hb3) (.cells #[.int .i64 0, .int .i64 0] 23)
    clear M2 hb3
    go_wp2_with fail
    refine (parse_live _ TW).mono ?_
    rintro e w4 ⟨rfl, hb4⟩
    replace hb := then_box (then_call hb hb4) (.cells #[.int .i64 8, .int .i64 2] 23)
    clear hb4
    go_wp2
    go_ret
    exact ⟨rfl, hb⟩

set_option maxHeartbeats 2000000 in
theorem stampBack_4  (s : ByteArray) (w : World) (T : Tab w) (hs : s.size ≤ 9223372036854775700)
    (h : ok 0 0) (_h1 : (str (txt 0 0)).toList.isEmpty = false) (_h2 : rightB 0 0 = false) :
    Calls Tryd.prog 4 #[.agg #[.int .i64 0, .int .i64 0], .agg #[.int .i64 0, .int .i64 0], .string s] w (Ret (.bool true) w) := by
  obtain ⟨W, hW, hb, TW, c0, c1, b0, b1⟩ := back_boxes w 0 0 0 0 T
  have M1 := Lib.hid (fun W T => parse_ok h W T)
  clear h
  go_enter Tryd.func4, Tryd.ntmps4
  go_wp2_with (go_at_call 8; (with_reducible refine (text_any _ _ _ TW).mono ?_); rintro e w1 ⟨rfl, hb1⟩; replace c0 := cell_later hb1 c0; replace c1 := cell_later hb1 c1; replace b0 := cell_later hb1 b0; replace b1 := cell_later hb1 b1; replace TW := TW.after hb1; replace hb := then_call hb hb1; clear hb1)
  clear hW
  refine (M1.out _ TW).mono ?_
  rintro e w1 ⟨rfl, hb1⟩
  have e1 := cell_later (below_box1 w1 (.cells #[.int .i64 0, .int .i64 0] 23)) (cell_later hb1 c0)
  have e2 := cell_later (below_box1 w1 (.cells #[.int .i64 0, .int .i64 0] 23)) (cell_later hb1 c1)
  have e3 := cell_later (below_box1 w1 (.cells #[.int .i64 0, .int .i64 0] 23)) (cell_later hb1 b0)
  have e4 := cell_later (below_box1 w1 (.cells #[.int .i64 0, .int .i64 0] 23)) (cell_later hb1 b1)
  have x0 : (w1.alloc (.cells #[.int .i64 0, .int .i64 0] 23)).cell? ⟨w1.heap.size, 0, none⟩ = some (.int .i64 0) := by go_simp
  have x1 : (w1.alloc (.cells #[.int .i64 0, .int .i64 0] 23)).cell? ⟨w1.heap.size, 1, none⟩ = some (.int .i64 0) := by go_simp
  replace TW := (TW.after hb1).alloc (.cells #[.int .i64 0, .int .i64 0] 23)
  replace hb := then_box (then_call hb hb1) (.cells #[.int .i64 0, .int .i64 0] 23)
  clear hb1 M1 c0 c1 b0 b1
  go_wp2_with (first
    | (go_at_call 8; (with_reducible refine (text_any _ _ _ TW).mono ?_); rintro e w2 ⟨rfl, hb1⟩; replace e1 := cell_later hb1 e1; replace e2 := cell_later hb1 e2; replace e3 := cell_later hb1 e3; replace e4 := cell_later hb1 e4; replace x0 := cell_later hb1 x0; replace x1 := cell_later hb1 x1; replace TW := TW.after hb1; replace hb := then_call hb hb1; clear hb1)
    | (go_at_call 10; (with_reducible refine (right_any _ _ _).mono ?_); rintro e w2 ⟨rfl, hb1⟩; replace e1 := cell_later hb1 e1; replace e2 := cell_later hb1 e2; replace e3 := cell_later hb1 e3; replace e4 := cell_later hb1 e4; replace x0 := cell_later hb1 x0; replace x1 := cell_later hb1 x1; replace TW := TW.after hb1; replace hb := then_call hb hb1; clear hb1))
  clear e1 e2 e3 e4 x0 x1
  by_cases g : good s.data.toList
  · have e1 : ((str (txt (pn s.data.toList) (pr s.data.toList))).toList == s.toList) = true := by rw [str_toList, ByteArray.toList_eq, g.1]; exact beq_self_eq_true _
    have M2 := Lib.hid (fun W T => parse_good g hs W T)
    clear g
    generalize hyn : (pn s.data.toList : Int) = yn at *
    generalize hyr : (pr s.data.toList : Int) = yr at *
    clear hyn hyr
    refine (M2.out _ TW).mono ?_
    rintro e w3 ⟨rfl, hb3⟩
    replace TW := (TW.after hb3).alloc (.cells #[.int .i64 yn, .int .i64 yr] 23)
    replace hb := then_box (then_call hb hb3) (.cells #[.int .i64 yn, .int .i64 yr] 23)
    have y0 : (w3.alloc (.cells #[.int .i64 yn, .int .i64 yr] 23)).cell? ⟨w3.heap.size, 0, none⟩ = some (.int .i64 yn) := by go_simp
    have y1 : (w3.alloc (.cells #[.int .i64 yn, .int .i64 yr] 23)).cell? ⟨w3.heap.size, 1, none⟩ = some (.int .i64 yr) := by go_simp
    clear M2 hb3
    go_wp2_with fail
    refine (parse_live _ TW).mono ?_
    rintro e w4 ⟨rfl, hb4⟩
    replace TW := (TW.after hb4).alloc (.cells #[.int .i64 8, .int .i64 2] 23)
    replace hb := then_box (then_call hb hb4) (.cells #[.int .i64 8, .int .i64 2] 23)
    replace y0 := cell_later (below_box1 w4 (.cells #[.int .i64 8, .int .i64 2] 23)) (cell_later hb4 y0)
    replace y1 := cell_later (below_box1 w4 (.cells #[.int .i64 8, .int .i64 2] 23)) (cell_later hb4 y1)
    clear hb4
    go_wp2_with (go_at_call 8; (with_reducible refine (text_any _ _ _ TW).mono ?_); rintro e w5 ⟨rfl, hb1⟩; replace hb := then_call hb hb1; clear hb1)
    go_ret
    exact ⟨rfl, hb⟩
  · have M2 := Lib.hid (fun W T => parse_bad g hs W T)
    clear g
    refine (M2.out _ TW).mono ?_
    rintro e w3 ⟨rfl, hb3⟩
    replace TW := (TW.after hb3).alloc (.cells #[.int .i64 0, .int .i64 0] 23)
    replace hb := then_box (then_call hb hb3) (.cells #[.int .i64 0, .int .i64 0] 23)
    clear M2 hb3
    go_wp2_with fail
    refine (parse_live _ TW).mono ?_
    rintro e w4 ⟨rfl, hb4⟩
    replace hb := then_box (then_call hb hb4) (.cells #[.int .i64 8, .int .i64 2] 23)
    clear hb4
    go_wp2
    go_ret
    exact ⟨rfl, hb⟩

set_option maxHeartbeats 2000000 in
theorem stampBack_5 (n r n' r' : Int) (s : ByteArray) (w : World) (T : Tab w) (hs : s.size ≤ 9223372036854775700)
    (h : ¬ ok n r) (_h1 : (str (txt n r)).toList.isEmpty = true) (_h2 : rightB n r = false) (_h3 : (n == 0) = false) :
    Calls Tryd.prog 4 #[.agg #[.int .i64 n, .int .i64 r], .agg #[.int .i64 n', .int .i64 r'], .string s] w (Ret (.bool true) w) := by
  obtain ⟨W, hW, hb, TW, c0, c1, b0, b1⟩ := back_boxes w n r n' r' T
  have M1 := Lib.hid (fun W T => parse_empty h W T)
  clear h
  go_enter Tryd.func4, Tryd.ntmps4
  go_wp2_with (go_at_call 8; (with_reducible refine (text_any _ _ _ TW).mono ?_); rintro e w1 ⟨rfl, hb1⟩; replace c0 := cell_later hb1 c0; replace c1 := cell_later hb1 c1; replace b0 := cell_later hb1 b0; replace b1 := cell_later hb1 b1; replace TW := TW.after hb1; replace hb := then_call hb hb1; clear hb1)
  clear hW
  refine (M1.out _ TW).mono ?_
  rintro e w1 ⟨rfl, hb1⟩
  have e1 := cell_later (below_box1 w1 (.cells #[.int .i64 0, .int .i64 0] 23)) (cell_later hb1 c0)
  have e2 := cell_later (below_box1 w1 (.cells #[.int .i64 0, .int .i64 0] 23)) (cell_later hb1 c1)
  have e3 := cell_later (below_box1 w1 (.cells #[.int .i64 0, .int .i64 0] 23)) (cell_later hb1 b0)
  have e4 := cell_later (below_box1 w1 (.cells #[.int .i64 0, .int .i64 0] 23)) (cell_later hb1 b1)
  have x0 : (w1.alloc (.cells #[.int .i64 0, .int .i64 0] 23)).cell? ⟨w1.heap.size, 0, none⟩ = some (.int .i64 0) := by go_simp
  have x1 : (w1.alloc (.cells #[.int .i64 0, .int .i64 0] 23)).cell? ⟨w1.heap.size, 1, none⟩ = some (.int .i64 0) := by go_simp
  replace TW := (TW.after hb1).alloc (.cells #[.int .i64 0, .int .i64 0] 23)
  replace hb := then_box (then_call hb hb1) (.cells #[.int .i64 0, .int .i64 0] 23)
  clear hb1 M1 c0 c1 b0 b1
  go_wp2_with (first
    | (go_at_call 8; (with_reducible refine (text_any _ _ _ TW).mono ?_); rintro e w2 ⟨rfl, hb1⟩; replace e1 := cell_later hb1 e1; replace e2 := cell_later hb1 e2; replace e3 := cell_later hb1 e3; replace e4 := cell_later hb1 e4; replace x0 := cell_later hb1 x0; replace x1 := cell_later hb1 x1; replace TW := TW.after hb1; replace hb := then_call hb hb1; clear hb1)
    | (go_at_call 10; (with_reducible refine (right_any _ _ _).mono ?_); rintro e w2 ⟨rfl, hb1⟩; replace e1 := cell_later hb1 e1; replace e2 := cell_later hb1 e2; replace e3 := cell_later hb1 e3; replace e4 := cell_later hb1 e4; replace x0 := cell_later hb1 x0; replace x1 := cell_later hb1 x1; replace TW := TW.after hb1; replace hb := then_call hb hb1; clear hb1))
  clear e1 e2 e3 e4 x0 x1
  by_cases g : good s.data.toList
  · have e1 : ((str (txt (pn s.data.toList) (pr s.data.toList))).toList == s.toList) = true := by rw [str_toList, ByteArray.toList_eq, g.1]; exact beq_self_eq_true _
    have M2 := Lib.hid (fun W T => parse_good g hs W T)
    clear g
    generalize hyn : (pn s.data.toList : Int) = yn at *
    generalize hyr : (pr s.data.toList : Int) = yr at *
    clear hyn hyr
    refine (M2.out _ TW).mono ?_
    rintro e w3 ⟨rfl, hb3⟩
    replace TW := (TW.after hb3).alloc (.cells #[.int .i64 yn, .int .i64 yr] 23)
    replace hb := then_box (then_call hb hb3) (.cells #[.int .i64 yn, .int .i64 yr] 23)
    have y0 : (w3.alloc (.cells #[.int .i64 yn, .int .i64 yr] 23)).cell? ⟨w3.heap.size, 0, none⟩ = some (.int .i64 yn) := by go_simp
    have y1 : (w3.alloc (.cells #[.int .i64 yn, .int .i64 yr] 23)).cell? ⟨w3.heap.size, 1, none⟩ = some (.int .i64 yr) := by go_simp
    clear M2 hb3
    go_wp2_with fail
    refine (parse_live _ TW).mono ?_
    rintro e w4 ⟨rfl, hb4⟩
    replace TW := (TW.after hb4).alloc (.cells #[.int .i64 8, .int .i64 2] 23)
    replace hb := then_box (then_call hb hb4) (.cells #[.int .i64 8, .int .i64 2] 23)
    replace y0 := cell_later (below_box1 w4 (.cells #[.int .i64 8, .int .i64 2] 23)) (cell_later hb4 y0)
    replace y1 := cell_later (below_box1 w4 (.cells #[.int .i64 8, .int .i64 2] 23)) (cell_later hb4 y1)
    clear hb4
    go_wp2_with (go_at_call 8; (with_reducible refine (text_any _ _ _ TW).mono ?_); rintro e w5 ⟨rfl, hb1⟩; replace hb := then_call hb hb1; clear hb1)
    go_ret
    exact ⟨rfl, hb⟩
  · have M2 := Lib.hid (fun W T => parse_bad g hs W T)
    clear g
    refine (M2.out _ TW).mono ?_
    rintro e w3 ⟨rfl, hb3⟩
    replace TW := (TW.after hb3).alloc (.cells #[.int .i64 0, .int .i64 0] 23)
    replace hb := then_box (then_call hb hb3) (.cells #[.int .i64 0, .int .i64 0] 23)
    clear M2 hb3
    go_wp2_with fail
    refine (parse_live _ TW).mono ?_
    rintro e w4 ⟨rfl, hb4⟩
    replace hb := then_box (then_call hb hb4) (.cells #[.int .i64 8, .int .i64 2] 23)
    clear hb4
    go_wp2
    go_ret
    exact ⟨rfl, hb⟩

set_option maxHeartbeats 2000000 in
theorem stampBack_6 (n r n' r' : Int) (s : ByteArray) (w : World) (T : Tab w) (hs : s.size ≤ 9223372036854775700)
    (h : ¬ ok n r) (_h1 : (str (txt n r)).toList.isEmpty = true) (_h2 : rightB n r = false) (_h3 : (n == 0) = true) (_h4 : (r == 0) = false) :
    Calls Tryd.prog 4 #[.agg #[.int .i64 n, .int .i64 r], .agg #[.int .i64 n', .int .i64 r'], .string s] w (Ret (.bool true) w) := by
  obtain ⟨W, hW, hb, TW, c0, c1, b0, b1⟩ := back_boxes w n r n' r' T
  have M1 := Lib.hid (fun W T => parse_empty h W T)
  clear h
  go_enter Tryd.func4, Tryd.ntmps4
  go_wp2_with (go_at_call 8; (with_reducible refine (text_any _ _ _ TW).mono ?_); rintro e w1 ⟨rfl, hb1⟩; replace c0 := cell_later hb1 c0; replace c1 := cell_later hb1 c1; replace b0 := cell_later hb1 b0; replace b1 := cell_later hb1 b1; replace TW := TW.after hb1; replace hb := then_call hb hb1; clear hb1)
  clear hW
  refine (M1.out _ TW).mono ?_
  rintro e w1 ⟨rfl, hb1⟩
  have e1 := cell_later (below_box1 w1 (.cells #[.int .i64 0, .int .i64 0] 23)) (cell_later hb1 c0)
  have e2 := cell_later (below_box1 w1 (.cells #[.int .i64 0, .int .i64 0] 23)) (cell_later hb1 c1)
  have e3 := cell_later (below_box1 w1 (.cells #[.int .i64 0, .int .i64 0] 23)) (cell_later hb1 b0)
  have e4 := cell_later (below_box1 w1 (.cells #[.int .i64 0, .int .i64 0] 23)) (cell_later hb1 b1)
  have x0 : (w1.alloc (.cells #[.int .i64 0, .int .i64 0] 23)).cell? ⟨w1.heap.size, 0, none⟩ = some (.int .i64 0) := by go_simp
  have x1 : (w1.alloc (.cells #[.int .i64 0, .int .i64 0] 23)).cell? ⟨w1.heap.size, 1, none⟩ = some (.int .i64 0) := by go_simp
  replace TW := (TW.after hb1).alloc (.cells #[.int .i64 0, .int .i64 0] 23)
  replace hb := then_box (then_call hb hb1) (.cells #[.int .i64 0, .int .i64 0] 23)
  clear hb1 M1 c0 c1 b0 b1
  go_wp2_with (first
    | (go_at_call 8; (with_reducible refine (text_any _ _ _ TW).mono ?_); rintro e w2 ⟨rfl, hb1⟩; replace e1 := cell_later hb1 e1; replace e2 := cell_later hb1 e2; replace e3 := cell_later hb1 e3; replace e4 := cell_later hb1 e4; replace x0 := cell_later hb1 x0; replace x1 := cell_later hb1 x1; replace TW := TW.after hb1; replace hb := then_call hb hb1; clear hb1)
    | (go_at_call 10; (with_reducible refine (right_any _ _ _).mono ?_); rintro e w2 ⟨rfl, hb1⟩; replace e1 := cell_later hb1 e1; replace e2 := cell_later hb1 e2; replace e3 := cell_later hb1 e3; replace e4 := cell_later hb1 e4; replace x0 := cell_later hb1 x0; replace x1 := cell_later hb1 x1; replace TW := TW.after hb1; replace hb := then_call hb hb1; clear hb1))
  clear e1 e2 e3 e4 x0 x1
  by_cases g : good s.data.toList
  · have e1 : ((str (txt (pn s.data.toList) (pr s.data.toList))).toList == s.toList) = true := by rw [str_toList, ByteArray.toList_eq, g.1]; exact beq_self_eq_true _
    have M2 := Lib.hid (fun W T => parse_good g hs W T)
    clear g
    generalize hyn : (pn s.data.toList : Int) = yn at *
    generalize hyr : (pr s.data.toList : Int) = yr at *
    clear hyn hyr
    refine (M2.out _ TW).mono ?_
    rintro e w3 ⟨rfl, hb3⟩
    replace TW := (TW.after hb3).alloc (.cells #[.int .i64 yn, .int .i64 yr] 23)
    replace hb := then_box (then_call hb hb3) (.cells #[.int .i64 yn, .int .i64 yr] 23)
    have y0 : (w3.alloc (.cells #[.int .i64 yn, .int .i64 yr] 23)).cell? ⟨w3.heap.size, 0, none⟩ = some (.int .i64 yn) := by go_simp
    have y1 : (w3.alloc (.cells #[.int .i64 yn, .int .i64 yr] 23)).cell? ⟨w3.heap.size, 1, none⟩ = some (.int .i64 yr) := by go_simp
    clear M2 hb3
    go_wp2_with fail
    refine (parse_live _ TW).mono ?_
    rintro e w4 ⟨rfl, hb4⟩
    replace TW := (TW.after hb4).alloc (.cells #[.int .i64 8, .int .i64 2] 23)
    replace hb := then_box (then_call hb hb4) (.cells #[.int .i64 8, .int .i64 2] 23)
    replace y0 := cell_later (below_box1 w4 (.cells #[.int .i64 8, .int .i64 2] 23)) (cell_later hb4 y0)
    replace y1 := cell_later (below_box1 w4 (.cells #[.int .i64 8, .int .i64 2] 23)) (cell_later hb4 y1)
    clear hb4
    go_wp2_with (go_at_call 8; (with_reducible refine (text_any _ _ _ TW).mono ?_); rintro e w5 ⟨rfl, hb1⟩; replace hb := then_call hb hb1; clear hb1)
    go_ret
    exact ⟨rfl, hb⟩
  · have M2 := Lib.hid (fun W T => parse_bad g hs W T)
    clear g
    refine (M2.out _ TW).mono ?_
    rintro e w3 ⟨rfl, hb3⟩
    replace TW := (TW.after hb3).alloc (.cells #[.int .i64 0, .int .i64 0] 23)
    replace hb := then_box (then_call hb hb3) (.cells #[.int .i64 0, .int .i64 0] 23)
    clear M2 hb3
    go_wp2_with fail
    refine (parse_live _ TW).mono ?_
    rintro e w4 ⟨rfl, hb4⟩
    replace hb := then_box (then_call hb hb4) (.cells #[.int .i64 8, .int .i64 2] 23)
    clear hb4
    go_wp2
    go_ret
    exact ⟨rfl, hb⟩

theorem stampBack_walk (n r n' r' : Int) (s : ByteArray) (w : World) (T : Tab w) (hs : s.size ≤ 9223372036854775700) :
    Calls Tryd.prog 4 #[.agg #[.int .i64 n, .int .i64 r], .agg #[.int .i64 n', .int .i64 r'], .string s] w (Ret (.bool true) w) := by
  rcases back_ways n r n' r' with ⟨h, h1, h2, h3⟩ | ⟨h, h1, h2, h3, rfl, rfl⟩ | ⟨h, h1, h2, rfl, rfl, h3⟩ | ⟨h, h1, h2, rfl, rfl, h3, rfl, rfl⟩ | ⟨h, h1, h2, h3 | ⟨h3, h4⟩⟩
  · exact stampBack_1 n r n' r' s w T hs h h1 h2 h3
  · exact stampBack_2 n r s w T hs h h1 h2
  · exact stampBack_3 n' r' s w T hs h h1 h2 h3
  · exact stampBack_4 s w T hs h h1 h2
  · exact stampBack_5 n r n' r' s w T hs h h1 h2 h3
  · exact stampBack_6 n r n' r' s w T hs h h1 h2 h3 h4

end Go.Proofs.YtmihcfjlhljmoaaDoor
