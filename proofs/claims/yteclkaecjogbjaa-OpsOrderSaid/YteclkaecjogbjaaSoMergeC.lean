/-
  Two runs become one.
-/
import Derived.Test.YteclkaecjogbjaaSoPart
namespace Go.Proofs.Yteclkaecjogbjaa
open Go.RowKit Go.Sort

/-- Runs shorter than k become one. -/
def Merges (L : Nat → OpV) (g n cap k : Nat) : Prop := ∀ (s : Nat → Nat) (a m b : Nat), a < m → m < b → b ≤ n → b - a < k → Srt L a m s → Srt L m b s → (∀ t u, a ≤ t → t < m → m ≤ u → u < b → s t < s u) → ∀ w, Hold w g n (fun t => L (s t)) → Calls Try.prog 55 #[.slice (some ⟨g, 0, none⟩) n cap, .int .i64 (a : Nat), .int .i64 (m : Nat), .int .i64 (b : Nat), .func (.func 36) #[] #[]] w fun e w' => e = .returned (.tuple #[]) ∧ ∃ s', Hold w' g n (fun t => L (s' t)) ∧ Turns [g] w w' ∧ Per a b s s' ∧ Srt L a b s'

set_option maxRecDepth 100000 in
set_option maxHeartbeats 16000000 in
theorem symMerge_more (L : Nat → OpV) (s : Nat → Nat) (g n cap a m b : Nat) (ham : a < m) (hmb : m < b) (hb : b ≤ n) (hn : n ≤ 1000) (hl : Srt L a m s) (hr : Srt L m b s) (hx : ∀ t u, a ≤ t → t < m → m ≤ u → u < b → s t < s u) (h0 : m ≠ a + 1) (h1 : b ≠ m + 1) (IH : Merges L g n cap (b - a)) (w : World) (hH : Hold w g n fun t => L (s t)) :
    Calls Try.prog 55 #[.slice (some ⟨g, 0, none⟩) n cap, .int .i64 (a : Nat), .int .i64 (m : Nat), .int .i64 (b : Nat), .func (.func 36) #[] #[]] w fun e w' => e = .returned (.tuple #[]) ∧ ∃ s', Hold w' g n (fun t => L (s' t)) ∧ Turns [g] w w' ∧ Per a b s s' ∧ Srt L a b s' := by
  have hq : (((m : Int) - (a : Int)) == 1) = false := by simp; omega
  have hq2 : (((b : Int) - (m : Int)) == 1) = false := by simp; omega
  obtain ⟨d, hd⟩ : ∃ d : Nat, ((a : Int) + (b : Int)) / 2 = (d : Int) := ⟨(a + b) / 2, by omega⟩
  obtain ⟨e, he⟩ : ∃ e : Nat, (d : Int) + (m : Int) = (e : Int) := ⟨d + m, by omega⟩
  obtain ⟨p, hp⟩ : ∃ p : Nat, (e : Int) - 1 = (p : Int) := ⟨e - 1, by omega⟩
  have hd' := Lib.hid (show d = (a + b) / 2 by omega)
  have he' := Lib.hid (show e = d + m by omega)
  have hp' := Lib.hid (show p = e - 1 by omega)
  have bd : d ≤ 1000 := by omega
  have be : e ≤ 2000 := by omega
  have bp : p ≤ 2000 := by omega
  have hl := Lib.hid hl
  have hr := Lib.hid hr
  have hx := Lib.hid hx
  have hH := Lib.hid hH
  replace h0 := Lib.hid h0
  replace h1 := Lib.hid h1
  have IH := Lib.hid IH
  go_enter Try.func55, Try.ntmps55
  go_upto_if 140 with fail
  go_cut [20, 21] from 25 to 219 (fun x y wx => ∃ st0 r0 : Nat, x = .int .i64 st0 ∧ y = .int .i64 r0 ∧ wx = w ∧ Hid (d < m ∧ st0 = e - b ∧ r0 = d ∨ m ≤ d ∧ st0 = a ∧ r0 = m))
  case first => as_aux_lemma =>
    by_cases hdm : d < m
    · have hdm4 : (d : Int) < (m : Int) := by omega
      obtain ⟨st0, hst⟩ : ∃ st0 : Nat, (e : Int) - (b : Int) = (st0 : Int) := ⟨e - b, by have := hd'.out; have := he'.out; omega⟩
      have hst' := Lib.hid (show st0 = e - b by omega)
      go_wp2
      go_meet
      case rel => exact ⟨st0, d, rfl, rfl, rfl, Lib.hid (.inl ⟨hdm, hst'.out, rfl⟩)⟩
    · have hdm4 : ¬ (d : Int) < (m : Int) := by omega
      go_wp2
      go_meet
      case rel => exact ⟨a, m, rfl, rfl, rfl, Lib.hid (.inr ⟨by omega, rfl, rfl⟩)⟩
  case rest => as_aux_lemma =>
    obtain ⟨st0, r0, rfl, rfl, hwx, hS⟩ := hcut
    replace hwx := hwx.symm
    subst hwx
    have hSn : a ≤ st0 ∧ st0 ≤ r0 ∧ r0 ≤ m ∧ r0 ≤ d ∧ m + r0 ≤ p + 1 ∧ p < b + st0 := by have := hd'.out; have := he'.out; have := hp'.out; have := hS.out; omega
    obtain ⟨n1, n2, n3, n4, n5, n6⟩ := hSn
    go_wp2
    go_loopw [20, 21, 23] (fun i j _ wr => ∃ (i' j' : Nat), st0 ≤ i' ∧ i' ≤ j' ∧ j' ≤ r0 ∧ i = .int .i64 i' ∧ j = .int .i64 j' ∧ Hold wr g n (fun t => L (s t)) ∧ Turns [g] w wr ∧ Hid ((∀ c, st0 ≤ c → c < i' → Pc L (s c) (s (p - c))) ∧ ∀ c, j' ≤ c → c < r0 → Pc L (s (p - c)) (s c))) (fun i j _ _ => (intOf j).toNat - (intOf i).toNat)
    case atStart => exact ⟨st0, r0, by omega, by omega, by omega, rfl, rfl, hH.out, Turns.refl _ _, Lib.hid ⟨fun t _ _ => by omega, fun t _ _ => by omega⟩⟩
    case round =>
      clear hH
      obtain ⟨i, j, hmi, hij, hjb, rfl, rfl, hK0, hT, hP⟩ := hrel
      by_cases hlt : i < j
      · have hk4 : (i : Int) < (j : Int) := by omega
        obtain ⟨c, hh⟩ : ∃ c : Nat, ((i : Int) + (j : Int)) / 2 = (c : Int) := ⟨(i + j) / 2, by omega⟩
        have hh1 : i ≤ c := by omega
        have hh2 : c < j := by omega
        obtain ⟨q, hqq⟩ : ∃ q : Nat, (p : Int) - (c : Int) = (q : Int) := ⟨p - c, by omega⟩
        have hq1 : m ≤ q := by omega
        have hq2' : q < b := by omega
        have hq' := Lib.hid (show q = p - c by omega)
        have hix1 := Hold.index n cap g q (by omega)
        have hix2 := Hold.index n cap g c (by omega)
        have hlt0 := Lib.hid hK0.lt
        have hel0 := Lib.hid (hK0.el q (by omega))
        have hel1 := Lib.hid (hK0.el c (by omega))
        obtain ⟨cc, hcc⟩ : ∃ cc, cmpS (L (s q)).n (L (s q)).r (L (s c)).n (L (s c)).r = cc := ⟨_, rfl⟩
        have hC := fun W => cmpO_any (L (s q)) (L (s c)) W
        rw [hcc] at hC
        have hcc := Lib.hid hcc
        have hC := Lib.hid hC
        as_aux_lemma =>
        by_cases hneg : cc < 0
        · have hneg2 := Lib.hid (show cmpL L (s q) (s c) < 0 by unfold cmpL; rw [hcc.out]; exact hneg)
          have hnt : (!decide (cc < 0)) = false := by simp; omega
          go_wp2_with fail
          refine wp_region_quiet_below (by kernel_rfl) (by kernel_rfl) ?_
          repeat (first
            | (go_big_quiet_want; refine quiet_load_el _ rfl rfl hlt0.out (hel0.out) ?_; simp only [Act.put, List.setIfInBounds_toArray, List.set_cons_succ, List.set_cons_zero]; go_big_quiet_on)
            | (go_big_quiet_want; refine quiet_load_el _ rfl rfl hlt0.out (hel1.out) ?_; simp only [Act.put, List.setIfInBounds_toArray, List.set_cons_succ, List.set_cons_zero]; go_big_quiet_on)
            | go_big_quiet_step (first | (go_at_call 36; exact Calls.ret_regrown (hC.out _))))
          refine wpQuiet_nil ?_
          intro W9 hw9
          have hB9 := (show Below _ _ W9 by obtain ⟨⟨dq, osq⟩, rfl⟩ := hw9; exact below_regrown _ dq osq)
          replace hK0 := Lib.hid (hK0.after hB9)
          replace hT := Lib.hid (hT.call hB9)
          clear hB9 hw9 hlt0 hel0 hel1
          go_wp2
          have hlow : Pc L (s q) (s c) := Pc.of_neg hneg2.out
          refine ⟨⟨i, c, by omega, by omega, by omega, rfl, rfl, hK0.out, hT.out, Lib.hid ⟨hP.out.1, fun t h1 h2 => ?_⟩⟩, by simp [intOf]; omega⟩
          have e1 := hq'.out
          exact hr.out.up (u := q) (by omega) (by omega) (by omega) (hl.out.dn (t := c) (by omega) h1 (by omega) hlow)
        · have hneg2 := Lib.hid (show ¬ cmpL L (s q) (s c) < 0 by unfold cmpL; rw [hcc.out]; exact hneg)
          have hnt : (!decide (cc < 0)) = true := by simp; omega
          go_wp2_with fail
          refine wp_region_quiet_below (by kernel_rfl) (by kernel_rfl) ?_
          repeat (first
            | (go_big_quiet_want; refine quiet_load_el _ rfl rfl hlt0.out (hel0.out) ?_; simp only [Act.put, List.setIfInBounds_toArray, List.set_cons_succ, List.set_cons_zero]; go_big_quiet_on)
            | (go_big_quiet_want; refine quiet_load_el _ rfl rfl hlt0.out (hel1.out) ?_; simp only [Act.put, List.setIfInBounds_toArray, List.set_cons_succ, List.set_cons_zero]; go_big_quiet_on)
            | go_big_quiet_step (first | (go_at_call 36; exact Calls.ret_regrown (hC.out _))))
          refine wpQuiet_nil ?_
          intro W9 hw9
          have hB9 := (show Below _ _ W9 by obtain ⟨⟨dq, osq⟩, rfl⟩ := hw9; exact below_regrown _ dq osq)
          replace hK0 := Lib.hid (hK0.after hB9)
          replace hT := Lib.hid (hT.call hB9)
          clear hB9 hw9 hlt0 hel0 hel1
          go_wp2
          have hlow : Pc L (s c) (s q) := Pc.of_not (by have := hneg2.out; omega) (hx.out c _ (by omega) (by omega) (by omega) (by omega))
          refine ⟨⟨c + 1, j, by omega, by omega, hjb, by go_num, rfl, hK0.out, hT.out, Lib.hid ⟨fun t h1 h2 => ?_, hP.out.2⟩⟩, by simp [intOf]; omega⟩
          have e1 := hq'.out
          exact hl.out.up (u := c) (by omega) (by omega) (by omega) (hr.out.dn (t := q) (by omega) (by omega) (by omega) hlow)
      · as_aux_lemma =>
        obtain rfl : i = j := by omega
        obtain ⟨en, hen⟩ : ∃ en : Nat, (e : Int) - (i : Int) = (en : Int) := ⟨e - i, by have := hd'.out; have := he'.out; omega⟩
        have hen' := Lib.hid (show en = e - i by omega)
        have hPt := Part.of (st := i) (en := en) ham hmb h0.out h1.out hl.out hr.out hd'.out he'.out hp'.out hS.out hmi hjb hP.out.1 hP.out.2 hen'.out
        obtain ⟨m1, m2, m3, m4, m5, m6, m7, m8, m9, m10⟩ := hPt.num
        have hPt := Lib.hid hPt
        replace m9 := Lib.hid m9
        replace m10 := Lib.hid m10
        have hK0 := Lib.hid hK0
        have hT := Lib.hid hT
        go_upto_region 39 with fail
        go_cut [185] from 25 to 219 (fun x wx => ∃ B : Bool, x = .bool B ∧ Hold wx g n (fun t => L (s t)) ∧ Turns [g] w wx ∧ Hid (B = decide ((i < m) ∧ (m < en))))
        case first => as_aux_lemma =>
          by_cases g1 : i < m
          · have g14 : (i : Int) < (m : Int) := by omega
            by_cases g2 : m < en
            · have g24 : (m : Int) < (en : Int) := by omega
              go_wp2
              go_meet
              case rel => exact ⟨true, rfl, hK0.out, hT.out, Lib.hid (decide_eq_true ⟨g1, g2⟩).symm⟩
            · have g24 : ¬ (m : Int) < (en : Int) := by omega
              go_wp2
              go_meet
              case rel => exact ⟨false, rfl, hK0.out, hT.out, Lib.hid (decide_eq_false (fun h => g2 h.2)).symm⟩
          · have g14 : ¬ (i : Int) < (m : Int) := by omega
            go_wp2
            go_meet
            case rel => exact ⟨false, rfl, hK0.out, hT.out, Lib.hid (decide_eq_false (fun h => g1 h.1)).symm⟩
        case rest => as_aux_lemma =>
          clear hK0 hT
          obtain ⟨b1, rfl, hK0, hT, hB⟩ := hcut
          have hK0 := Lib.hid hK0
          have hT := Lib.hid hT
          go_upto_if 185 with fail
          go_cut [] from 25 to 219 (fun wx => Hold wx g n (fun t => L (rotR s i m en t)) ∧ Turns [g] w wx ∧ Hid (Per a b s (rotR s i m en)))
          case first => as_aux_lemma =>
            cases b1
            · replace hB := of_decide_eq_false hB.out.symm
              go_wp2
              go_meet
              case rel =>
                have hs : rotR s i m en = s := by
                  by_cases e1 : i = m
                  · rw [e1]; exact rotR_none1 _ _ _
                  · rw [show en = m by omega]; exact rotR_none2 _ _ _
                rw [hs]
                exact ⟨hK0.out, hT.out, Lib.hid (.refl _)⟩
            · obtain ⟨g1, g2⟩ := of_decide_eq_true hB.out.symm
              have hI := Lib.hid (fun W h => rotate_any L s g n cap i m en (.func (.func 36) #[] #[]) g1 g2 (by omega) hn W h)
              go_wp2_with (go_at_call 61; refine (hI.out _ hK0.out).mono ?_; rintro e' w1 ⟨rfl, k1, k2, k3⟩)
              go_meet
              case rel =>
                exact ⟨k1, hT.out.trans' k2, Lib.hid (k3.mono (by omega) (by omega))⟩
          case rest => as_aux_lemma =>
            clear hK0 hT hB
            obtain ⟨hK0, hT, hP1⟩ := hcut
            obtain ⟨s1, hs1⟩ : ∃ s1, rotR s i m en = s1 := ⟨_, rfl⟩
            have hc1 : ∀ t u, a ≤ t → t < d → d ≤ u → u < b → Pc L (s1 t) (s1 u) := fun t u h1 h2 h3 h4 => by rw [← hs1]; exact hPt.out.cross hl.out hr.out h1 h2 h3 h4
            have sa := hPt.out.sa hl.out
            have sc := hPt.out.sc hr.out
            have sb := hPt.out.sb hl.out
            have sd := hPt.out.sd hr.out
            have xac := hPt.out.xac hx.out
            have xbd := hPt.out.xbd hx.out
            rw [hs1] at hK0 hP1 sa sc sb sd xac xbd
            have hc1 := Lib.hid hc1
            replace sa := Lib.hid sa
            replace sb := Lib.hid sb
            replace sc := Lib.hid sc
            replace sd := Lib.hid sd
            replace xac := Lib.hid xac
            replace xbd := Lib.hid xbd
            clear hs1 hPt hP
            have hK0 := Lib.hid hK0
            have hT := Lib.hid hT
            skip
            skip
            go_upto_region 41 with fail
            go_cut [199] from 25 to 219 (fun x wx => ∃ B : Bool, x = .bool B ∧ Hold wx g n (fun t => L (s1 t)) ∧ Turns [g] w wx ∧ Hid (B = decide ((a < i) ∧ (i < d))))
            case first => as_aux_lemma =>
              by_cases g1 : a < i
              · have g14 : (a : Int) < (i : Int) := by omega
                by_cases g2 : i < d
                · have g24 : (i : Int) < (d : Int) := by omega
                  go_wp2
                  go_meet
                  case rel => exact ⟨true, rfl, hK0.out, hT.out, Lib.hid (decide_eq_true ⟨g1, g2⟩).symm⟩
                · have g24 : ¬ (i : Int) < (d : Int) := by omega
                  go_wp2
                  go_meet
                  case rel => exact ⟨false, rfl, hK0.out, hT.out, Lib.hid (decide_eq_false (fun h => g2 h.2)).symm⟩
              · have g14 : ¬ (a : Int) < (i : Int) := by omega
                go_wp2
                go_meet
                case rel => exact ⟨false, rfl, hK0.out, hT.out, Lib.hid (decide_eq_false (fun h => g1 h.1)).symm⟩
            case rest => as_aux_lemma =>
              clear hK0 hT
              obtain ⟨b2, rfl, hK0, hT, hB⟩ := hcut
              have hK0 := Lib.hid hK0
              have hT := Lib.hid hT
              go_upto_if 199 with fail
              go_cut [] from 25 to 219 (fun wx => ∃ s2 : Nat → Nat, Hold wx g n (fun t => L (s2 t)) ∧ Turns [g] w wx ∧ Hid (Per a d s1 s2 ∧ Srt L a d s2))
              case first => as_aux_lemma =>
                cases b2
                · replace hB := of_decide_eq_false hB.out.symm
                  go_wp2
                  go_meet
                  case rel =>
                    refine ⟨s1, hK0.out, hT.out, Lib.hid ⟨.refl _, ?_⟩⟩
                    by_cases e1 : i = a
                    · rw [← e1]; exact sc.out
                    · rw [show d = i by omega]; exact sa.out
                · obtain ⟨g1, g2⟩ := of_decide_eq_true hB.out.symm
                  have hI := Lib.hid (IH.out s1 a i d g1 g2 (by omega) (by omega) sa.out sc.out xac.out)
                  go_wp2_with (go_at_call 55; refine (hI.out _ hK0.out).mono ?_; rintro e' w1 ⟨rfl, s2, k1, k2, k3, k4⟩)
                  go_meet
                  case rel =>
                    exact ⟨s2, k1, hT.out.trans' k2, Lib.hid ⟨k3, k4⟩⟩
              case rest => as_aux_lemma =>
                clear hK0 hT hB
                obtain ⟨s2, hK0, hT, hP2⟩ := hcut
                have tb := Lib.hid (sb.out.congr (s' := s2) fun t h1 h2 => hP2.out.1.out (.inr h1))
                have td := Lib.hid (sd.out.congr (s' := s2) fun t h1 h2 => hP2.out.1.out (.inr (by omega)))
                have ybd : Hid (∀ t u, d ≤ t → t < en → en ≤ u → u < b → s2 t < s2 u) := Lib.hid (fun t u h1 h2 h3 h4 => (by rw [hP2.out.1.out (t := t) (.inr h1), hP2.out.1.out (t := u) (.inr (by omega))]; exact xbd.out t u h1 h2 h3 h4))
                have hK0 := Lib.hid hK0
                have hT := Lib.hid hT
                skip
                skip
                go_upto_region 43 with fail
                go_cut [213] from 25 to 219 (fun x wx => ∃ B : Bool, x = .bool B ∧ Hold wx g n (fun t => L (s2 t)) ∧ Turns [g] w wx ∧ Hid (B = decide ((d < en) ∧ (en < b))))
                case first => as_aux_lemma =>
                  by_cases g1 : d < en
                  · have g14 : (d : Int) < (en : Int) := by omega
                    by_cases g2 : en < b
                    · have g24 : (en : Int) < (b : Int) := by omega
                      go_wp2
                      go_meet
                      case rel => exact ⟨true, rfl, hK0.out, hT.out, Lib.hid (decide_eq_true ⟨g1, g2⟩).symm⟩
                    · have g24 : ¬ (en : Int) < (b : Int) := by omega
                      go_wp2
                      go_meet
                      case rel => exact ⟨false, rfl, hK0.out, hT.out, Lib.hid (decide_eq_false (fun h => g2 h.2)).symm⟩
                  · have g14 : ¬ (d : Int) < (en : Int) := by omega
                    go_wp2
                    go_meet
                    case rel => exact ⟨false, rfl, hK0.out, hT.out, Lib.hid (decide_eq_false (fun h => g1 h.1)).symm⟩
                case rest => as_aux_lemma =>
                  clear hK0 hT
                  obtain ⟨b3, rfl, hK0, hT, hB⟩ := hcut
                  have hK0 := Lib.hid hK0
                  have hT := Lib.hid hT
                  cases b3
                  · replace hB := of_decide_eq_false hB.out.symm
                    go_wp2
                    go_end0
                    refine ⟨rfl, s2, hK0.out, hT.out, hP1.out.trans (hP2.out.1.mono (Nat.le_refl _) (by omega)), srt_join hc1.out hP2.out.1 hP2.out.2 (.refl _) ?_⟩
                    by_cases e1 : en = d
                    · rw [← e1]; exact td.out
                    · rw [show b = en by omega]; exact tb.out
                  · obtain ⟨g1, g2⟩ := of_decide_eq_true hB.out.symm
                    have hI := Lib.hid (IH.out s2 d en b g1 g2 hb (by omega) tb.out td.out ybd.out)
                    go_wp2_with (go_at_call 55; refine (hI.out _ hK0.out).mono ?_; rintro e' w1 ⟨rfl, s3, k1, k2, k3, k4⟩)
                    go_end0
                    exact ⟨rfl, s3, k1, hT.out.trans' k2, (hP1.out.trans (hP2.out.1.mono (Nat.le_refl _) (by omega))).trans (k3.mono (by omega) (Nat.le_refl _)), srt_join hc1.out hP2.out.1 hP2.out.2 k3 k4⟩
end Go.Proofs.Yteclkaecjogbjaa
