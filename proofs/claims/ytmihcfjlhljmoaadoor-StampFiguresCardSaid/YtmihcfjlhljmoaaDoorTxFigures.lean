/-
  StampFigures: it hands back true and leaves all that was there as it was.
-/
import Derived.Test.YtmihcfjlhljmoaaDoorTxBack
namespace Go.Proofs.YtmihcfjlhljmoaaDoor
open Go.RowKit Go.Sort Go.Lib

theorem less_self : ∀ l : List UInt8, Op.bytesLess l l = false
  | [] => rfl
  | c :: t => by simp [Op.bytesLess, less_self t]
theorem less_append : ∀ (l1 l2 t1 t2 : List UInt8), l1.length = l2.length → Op.bytesLess (l1 ++ t1) (l2 ++ t2) = if l1 = l2 then Op.bytesLess t1 t2 else Op.bytesLess l1 l2
  | [], [], t1, t2, _ => by simp
  | c :: l1, d :: l2, t1, t2, h => by
    have ih := less_append l1 l2 t1 t2 (by simpa using h)
    simp only [List.cons_append, Op.bytesLess, List.cons.injEq, ih]
    by_cases e : c = d
    · subst e; simp
    · rw [show (c == d) = false from beq_eq_false_iff_ne.2 e]; simp [e]
theorem less_one (c d : UInt8) : Op.bytesLess [c] [d] = decide (c.toNat < d.toNat) := by
  simp [Op.bytesLess, UInt8.lt_iff_toNat_lt]

theorem dec_inj {a b : Nat} (ha : a ≤ 1048576) (hb : b ≤ 1048576) (h : decDigits a = decDigits b) : a = b := by
  have h1 := num_dec ha
  have h2 := num_dec hb
  rw [h] at h1
  omega
theorem dec_long {a : Nat} (h : ¬ a < 10) : 2 ≤ (decDigits a).length := by
  rw [dec_big h, List.length_append]
  have := List.length_pos_iff.2 (dec_ne (a / 10))
  simp; omega
theorem dec_less (a : Nat) : ∀ b : Nat, a ≤ 1048576 → b ≤ 1048576 → (decDigits a).length = (decDigits b).length → Op.bytesLess (decDigits a) (decDigits b) = decide (a < b) := by
  induction a using Nat.strongRecOn with
  | ind a ih =>
    intro b ha hb hl
    by_cases h : a < 10
    · have hb' : b < 10 := by
        rcases Nat.lt_or_ge b 10 with h' | h'
        · exact h'
        · have := dec_long (a := b) (by omega)
          rw [← hl, decDigits_one h] at this
          simp at this
      rw [decDigits_one h, decDigits_one hb', less_one, (dig_of h).2, (dig_of hb').2, decide_eq_decide]
      omega
    · have hb' : ¬ b < 10 := by
        intro h'
        have := dec_long h
        rw [hl, decDigits_one h'] at this
        simp at this
      have hl' : (decDigits (a / 10)).length = (decDigits (b / 10)).length := by
        rw [dec_big h, dec_big hb', List.length_append, List.length_append] at hl
        simpa using hl
      rw [dec_big h, dec_big hb', less_append _ _ _ _ hl', less_one, (dig_of (show a % 10 < 10 by omega)).2, (dig_of (show b % 10 < 10 by omega)).2]
      split
      · rename_i e
        have := dec_inj (by omega) (by omega) e
        rw [decide_eq_decide]; omega
      · rename_i e
        rw [ih (a / 10) (by omega) (b / 10) (by omega) (by omega) hl', decide_eq_decide]
        have : a / 10 ≠ b / 10 := fun h => e (by rw [h])
        omega

theorem txt_less {n r n' r' : Int} (h : rightB n r = true) (h' : rightB n' r' = true) (hl : (str (txt n r)).size = (str (txt n' r')).size) :
    Op.bytesLess (str (txt n r)).toList (str (txt n' r')).toList = decide (cmpS n r n' r' < 0) := by
  have b1 := ok_bounds (.inr h)
  have b2 := ok_bounds (.inr h')
  rw [str_size, str_size, txt_ok (.inr h), txt_ok (.inr h'), List.length_append, List.length_append, List.length_cons, List.length_cons, decDigits_one (i := r.toNat) (by omega), decDigits_one (i := r'.toNat) (by omega)] at hl
  have hl' : (decDigits n.toNat).length = (decDigits n'.toNat).length := by simpa using hl
  rw [str_toList, str_toList, txt_ok (.inr h), txt_ok (.inr h'), less_append _ _ _ _ hl']
  have hc : cmpS n r n' r' < 0 ↔ n < n' ∨ n = n' ∧ r < r' := by
    unfold cmpS
    by_cases h1 : n < n'
    · simp [h1]
    · by_cases h2 : n' < n
      · simp [h1, h2]; omega
      · by_cases h3 : r < r'
        · simp [h1, h2, h3]; omega
        · by_cases h4 : r' < r <;> simp [h1, h2, h3, h4]
  split
  · rename_i e
    have := dec_inj (by omega) (by omega) e
    have e2 : Op.bytesLess (46 :: decDigits r.toNat) (46 :: decDigits r'.toNat) = Op.bytesLess (decDigits r.toNat) (decDigits r'.toNat) := by simp [Op.bytesLess]
    rw [e2, dec_less _ _ (by omega) (by omega) (by rw [decDigits_one (by omega), decDigits_one (by omega)]; rfl), decide_eq_decide, hc]
    omega
  · rename_i e
    rw [dec_less _ _ (by omega) (by omega) hl', decide_eq_decide, hc]
    have : n.toNat ≠ n'.toNat := fun h => e (by rw [h])
    omega

theorem figures_ways (n r n' r' : Int) :
    (rightB n r = false) ∨ (rightB n r = true ∧ rightB n' r' = false) ∨ (rightB n r = true ∧ rightB n' r' = true ∧ (((str (txt n r)).size : Int) != ((str (txt n' r')).size : Int)) = true) ∨
    (rightB n r = true ∧ rightB n' r' = true ∧ (((str (txt n r)).size : Int) != ((str (txt n' r')).size : Int)) = false ∧ Op.bytesLess (str (txt n r)).toList (str (txt n' r')).toList = decide (cmpS n r n' r' < 0)) := by
  cases h1 : rightB n r
  · exact .inl rfl
  · cases h2 : rightB n' r'
    · exact .inr (.inl ⟨rfl, rfl⟩)
    · by_cases h3 : (str (txt n r)).size = (str (txt n' r')).size
      · exact .inr (.inr (.inr ⟨rfl, rfl, by rw [bne_eq_false_iff_eq]; exact_mod_cast h3, txt_less h1 h2 h3⟩))
      · exact .inr (.inr (.inl ⟨rfl, rfl, by rw [bne_iff_ne]; exact fun e => h3 (by exact_mod_cast e)⟩))

set_option maxHeartbeats 2000000 in
theorem stampFigures_walk (n r n' r' : Int) (w : World) (T : Tab w) :
    Calls Tryd.prog 5 #[.agg #[.int .i64 n, .int .i64 r], .agg #[.int .i64 n', .int .i64 r']] w (Ret (.bool true) w) := by
  obtain ⟨W, hW, hb, TW, c0, c1, b0, b1⟩ := back_boxes w n r n' r' T
  rcases figures_ways n r n' r' with h1 | ⟨h1, h2⟩ | ⟨h1, h2, h3⟩ | ⟨h1, h2, h3, h4⟩
  all_goals
    go_enter Tryd.func5, Tryd.ntmps5
    go_wp2_with (first
      | (go_at_call 8; (first | with_reducible refine (text_live _ TW).mono ?_ | with_reducible refine (text_any _ _ _ TW).mono ?_); rintro e w1 ⟨rfl, hb1⟩; replace c0 := cell_later hb1 c0; replace c1 := cell_later hb1 c1; replace b0 := cell_later hb1 b0; replace b1 := cell_later hb1 b1; replace TW := TW.after hb1; replace hb := then_call hb hb1; clear hb1)
      | (go_at_call 10; (with_reducible refine (right_any _ _ _).mono ?_); rintro e w1 ⟨rfl, hb1⟩; replace c0 := cell_later hb1 c0; replace c1 := cell_later hb1 c1; replace b0 := cell_later hb1 b0; replace b1 := cell_later hb1 b1; replace hb := then_call hb hb1; clear hb1)
      | (go_at_call 11; (with_reducible refine (compare_any _ _ _ _ _).mono ?_); rintro e w1 ⟨rfl, hb1⟩; replace c0 := cell_later hb1 c0; replace c1 := cell_later hb1 c1; replace b0 := cell_later hb1 b0; replace b1 := cell_later hb1 b1; replace hb := then_call hb hb1; clear hb1))
    go_ret
    exact ⟨rfl, hb⟩

end Go.Proofs.YtmihcfjlhljmoaaDoor
