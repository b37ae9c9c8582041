/-
  What stamp.Text and the document's own answer hand back: a stamp's text.
-/
import Derived.Test.YtmihcfjlhljmoaaDoorTxText
import Derived.Lib.AppendIntMem
namespace Go.Proofs.YtmihcfjlhljmoaaDoor
open Go.RowKit Go.Sort Go.Lib

/-- The library's table is there, and is there behind whatever only makes memory. -/
def Tab (w : World) : Prop := Lib.TabBelow Tryd.prog w.heap.size w "internal/strconv.uint64pow10" .u64 Lib.pow10Tab
theorem Tab.after {w w' : World} (h : Tab w) (hb : Below w.heap.size w w') : Tab w' := fun w'' h'' => h w'' (hb.trans (h''.mono hb.size))
theorem Tab.alloc {w : World} (h : Tab w) (o : Obj) : Tab (w.alloc o) := h.after (below_box1 w o)
theorem Tab.regrown {w : World} (h : Tab w) (d : Nat) (os : Array Obj) : Tab (grow (redrawn w d) os) := h.after (below_regrown w d os)

theorem itoa_any (n : Nat) (hn : n ≤ 1048576) (w : World) (T : Tab w) : Calls Tryd.prog 14 #[.int .i64 n] w (Ret (.string (str (decDigits n))) w) :=
  (Tryd.strconv_Itoa n (by omega) (by omega) w T.here).mono fun e w' ⟨he, k, os, hw⟩ => by
    subst hw
    exact ⟨by rw [he, itoa_nonneg]; rfl, below_grow _ _ (Nat.le_refl _) k os⟩
theorem itoa_int (n : Int) (h0 : 0 ≤ n) (hn : n ≤ 1048576) (w : World) (T : Tab w) : Calls Tryd.prog 14 #[.int .i64 n] w (Ret (.string (str (decDigits n.toNat))) w) := by
  have := itoa_any n.toNat (by omega) w T
  rwa [Int.toNat_of_nonneg h0] at this

theorem below_of_regrown {w w' : World} (h : ∃ p : Regrown, w' = grow (redrawn w p.d) p.os) : Below w.heap.size w w' := by
  obtain ⟨⟨d, os⟩, rfl⟩ := h
  exact below_regrown w d os

theorem one_box (w : World) (n r : Int) (T : Tab w) : ∃ W, w.alloc (.cells #[.int .i64 n, .int .i64 r] 23) = W ∧ Below w.heap.size w W ∧ Tab W ∧ W.cell? ⟨w.heap.size, 0, none⟩ = some (.int .i64 n) ∧ W.cell? ⟨w.heap.size, 1, none⟩ = some (.int .i64 r) :=
  ⟨_, rfl, below_box1 _ _, T.alloc _, by go_simp, by go_simp⟩

theorem txt_size {n r : Int} (h : ok n r) : (str (decDigits n.toNat)).size ≤ 7 ∧ (str (decDigits r.toNat)).size ≤ 7 := by
  have hb := ok_bounds h
  exact ⟨by rw [str_size]; exact dec_len (by omega), by rw [str_size]; exact dec_len (by omega)⟩

theorem txt_app {n r : Int} (h : ok n r) : str (decDigits n.toNat) ++ (⟨#[46]⟩ : ByteArray) ++ str (decDigits r.toNat) = str (txt n r) := by
  rw [show (⟨#[46]⟩ : ByteArray) = str [46] from rfl, str_append, str_append, txt_ok h]
  simp

set_option maxHeartbeats 1000000 in
theorem text_ok (n r : Int) (w : World) (T : Tab w) (h : ok n r) :
    Calls Tryd.prog 8 #[.agg #[.int .i64 n, .int .i64 r]] w (Ret (.string (str (txt n r))) w) := by
  obtain ⟨W, hW, hb, TW, c0, c1⟩ := one_box w n r T
  have hbd := ok_bounds h
  have hsz := txt_size h
  have happ := Lib.hid (txt_app h)
  have key : ((n == 0) = true ∧ (r == 0) = true) ∨ ((n == 0) = false ∧ rightB n r = true) := by
    rcases h with ⟨rfl, rfl⟩ | h'
    · exact .inl ⟨rfl, rfl⟩
    · refine .inr ⟨beq_eq_false_iff_ne.2 ?_, h'⟩
      rintro rfl
      simp only [rightB, decide_eq_true_eq] at h'
      omega
  clear h
  obtain ⟨h1, h2, h3, h4⟩ := hbd
  obtain ⟨h5, h6⟩ := hsz
  rcases key with ⟨e1, e2⟩ | ⟨e1, e2⟩
  all_goals
    go_enter Tryd.func8, Tryd.ntmps8
    go_wp2_with (go_at_call 10; refine (right_any _ _ _).mono ?_; rintro e w' ⟨rfl, hb'⟩; replace c0 := cell_later hb' c0; replace c1 := cell_later hb' c1; replace TW := TW.after hb'; replace hb := then_call hb hb'; clear hb')
    have k0 := cell_regrown c0
    have k1 := cell_regrown c1
    clear c0 c1 hW
    refine wp_region_quiet_below (by kernel_rfl) (by kernel_rfl) ?_
    repeat (go_big_quiet_step ((go_at_call 14; exact Calls.ret_regrown (itoa_int _ (by assumption) (by omega) _ (TW.regrown _ _)))))
    refine wpQuiet_nil ?_
    intro w2 hw'
    have hb2 := then_call hb (below_of_regrown hw')
    clear hw'
    go_wp2
    go_ret
    exact ⟨by rw [← happ.out]; rfl, hb2⟩

theorem empty_str : str [] = ByteArray.empty := rfl

set_option maxHeartbeats 1000000 in
theorem text_no (n r : Int) (w : World) (h : ¬ ok n r) :
    Calls Tryd.prog 8 #[.agg #[.int .i64 n, .int .i64 r]] w (Ret (.string (str (txt n r))) w) := by
  have hv := Lib.hid (txt_no h)
  have hr : rightB n r = false := by rw [Bool.eq_false_iff]; exact fun h' => h (.inr h')
  have key : ((n == 0) = true ∧ (r == 0) = false) ∨ ((n == 0) = false) := by
    by_cases e : n = 0
    · refine .inl ⟨by rw [e]; rfl, beq_eq_false_iff_ne.2 fun e' => h (.inl ⟨e, e'⟩)⟩
    · exact .inr (beq_eq_false_iff_ne.2 e)
  clear h
  rcases key with ⟨e1, e2⟩ | e1
  all_goals
    go_enter Tryd.func8, Tryd.ntmps8
    go_wp2_with (go_at_call 10; refine (right_any _ _ _).mono ?_; rintro e w' ⟨rfl, hb'⟩)
    go_ret
    exact ⟨by rw [hv.out]; rfl, below_box hb'⟩

theorem text_any (n r : Int) (w : World) (T : Tab w) : Calls Tryd.prog 8 #[.agg #[.int .i64 n, .int .i64 r]] w (Ret (.string (str (txt n r))) w) := by
  by_cases h : ok n r
  · exact text_ok n r w T h
  · exact text_no n r w h

theorem digits_int (n : Int) (h0 : 0 ≤ n) (hn : n ≤ 1048576) (w : World) : Calls Tryd.prog 16 #[.int .i64 n] w (Ret (.string (str (decDigits n.toNat))) w) := by
  have := digits_any n.toNat w (by omega)
  rw [Int.toNat_of_nonneg h0] at this
  exact this.mono fun e w' ⟨he, hw⟩ => by subst hw; exact ⟨he, Below.refl _ _⟩

set_option maxHeartbeats 1000000 in
theorem refText_ok (n r : Int) (w : World) (h : ok n r) :
    Calls Tryd.prog 9 #[.agg #[.int .i64 n, .int .i64 r]] w (Ret (.string (str (txt n r))) w) := by
  obtain ⟨W, hW, hb, c0, c1⟩ : ∃ W, w.alloc (.cells #[.int .i64 n, .int .i64 r] 23) = W ∧ Below w.heap.size w W ∧ W.cell? ⟨w.heap.size, 0, none⟩ = some (.int .i64 n) ∧ W.cell? ⟨w.heap.size, 1, none⟩ = some (.int .i64 r) := ⟨_, rfl, below_box1 _ _, by go_simp, by go_simp⟩
  have hbd := ok_bounds h
  have hsz := txt_size h
  have happ := Lib.hid (txt_app h)
  have key : (rightB n r = true) ∨ (rightB n r = false ∧ (n == 0) = true ∧ (r == 0) = true) := by
    by_cases h' : rightB n r = true
    · exact .inl h'
    · rcases h with ⟨rfl, rfl⟩ | h
      · exact .inr ⟨by simpa using h', rfl, rfl⟩
      · exact absurd h h'
  clear h
  obtain ⟨h1, h2, h3, h4⟩ := hbd
  obtain ⟨h5, h6⟩ := hsz
  rcases key with e1 | ⟨e1, e2, e3⟩
  all_goals
    go_enter Tryd.func9, Tryd.ntmps9
    go_wp2_with (go_at_call 15; refine (refRight_any _ _ _).mono ?_; rintro e w' ⟨rfl, hb'⟩; replace c0 := cell_later hb' c0; replace c1 := cell_later hb' c1; replace hb := then_call hb hb'; clear hb')
    have k0 := cell_regrown c0
    have k1 := cell_regrown c1
    clear c0 c1 hW
    refine wp_region_quiet_below (by kernel_rfl) (by kernel_rfl) ?_
    repeat (go_big_quiet_step ((go_at_call 16; exact Calls.ret_regrown (digits_int _ (by assumption) (by omega) _))))
    refine wpQuiet_nil ?_
    intro w2 hw'
    have hb2 := then_call hb (below_of_regrown hw')
    clear hw'
    go_wp2
    go_ret
    exact ⟨by rw [← happ.out]; rfl, hb2⟩

set_option maxHeartbeats 1000000 in
theorem refText_no (n r : Int) (w : World) (h : ¬ ok n r) :
    Calls Tryd.prog 9 #[.agg #[.int .i64 n, .int .i64 r]] w (Ret (.string (str (txt n r))) w) := by
  have hv := Lib.hid (txt_no h)
  have hr : rightB n r = false := by rw [Bool.eq_false_iff]; exact fun h' => h (.inr h')
  have key : ((n == 0) = true ∧ (r == 0) = false) ∨ ((n == 0) = false) := by
    by_cases e : n = 0
    · refine .inl ⟨by rw [e]; rfl, beq_eq_false_iff_ne.2 fun e' => h (.inl ⟨e, e'⟩)⟩
    · exact .inr (beq_eq_false_iff_ne.2 e)
  clear h
  obtain ⟨W, hW, hb, c0, c1⟩ : ∃ W, w.alloc (.cells #[.int .i64 n, .int .i64 r] 23) = W ∧ Below w.heap.size w W ∧ W.cell? ⟨w.heap.size, 0, none⟩ = some (.int .i64 n) ∧ W.cell? ⟨w.heap.size, 1, none⟩ = some (.int .i64 r) := ⟨_, rfl, below_box1 _ _, by go_simp, by go_simp⟩
  rcases key with ⟨e1, e2⟩ | e1
  all_goals
    go_enter Tryd.func9, Tryd.ntmps9
    go_wp2_with (go_at_call 15; refine (refRight_any _ _ _).mono ?_; rintro e w' ⟨rfl, hb'⟩; replace c0 := cell_later hb' c0; replace c1 := cell_later hb' c1; replace hb := then_call hb hb'; clear hb')
    go_ret
    exact ⟨by rw [hv.out]; rfl, hb⟩

theorem refText_any (n r : Int) (w : World) : Calls Tryd.prog 9 #[.agg #[.int .i64 n, .int .i64 r]] w (Ret (.string (str (txt n r))) w) := by
  by_cases h : ok n r
  · exact refText_ok n r w h
  · exact refText_no n r w h

end Go.Proofs.YtmihcfjlhljmoaaDoor
