/-
  A run and one element behind it become one.
-/
import Derived.Test.YteclkaecjogbjaaSoMergeA
namespace Go.Proofs.Yteclkaecjogbjaa
open Go.RowKit Go.Sort

/-- What stands at m has gone down to k. -/
def dnR (s : Nat → Nat) (m k : Nat) : Nat → Nat := fun t => if t = k then s m else if k < t ∧ t ≤ m then s (t - 1) else s t
theorem dnR_zero (s : Nat → Nat) (m : Nat) : dnR s m m = s := by
  funext t; unfold dnR; split
  · subst_vars; rfl
  · rw [if_neg (by omega)]
theorem dnR_succ (s : Nat → Nat) {m k : Nat} (h : k ≤ m) (h0 : 0 < k) : swf (dnR s m k) k (k - 1) = dnR s m (k - 1) := by
  funext t
  unfold swf dnR
  by_cases h1 : t = k - 1
  · subst h1; rw [if_pos rfl, if_pos rfl, if_pos rfl]
  · rw [if_neg h1]
    by_cases h2 : t = k
    · subst h2; rw [if_pos rfl, if_neg (by omega), if_neg (by omega), if_neg h1, if_pos (by omega)]
    · rw [if_neg h2, if_neg h2, if_neg h1]
      by_cases h3 : k < t ∧ t ≤ m
      · rw [if_pos h3, if_pos (by omega)]
      · rw [if_neg h3, if_neg (by omega)]
theorem dnR_srt {L : Nat → OpV} {s : Nat → Nat} {a m k : Nat} (hak : a ≤ k) (hkm : k ≤ m) (hr : Srt L a m s) (h1 : ∀ t, a ≤ t → t < k → Pc L (s t) (s m)) (h2 : ∀ t, k ≤ t → t < m → Pc L (s m) (s t)) : Srt L a (m + 1) (dnR s m k) := by
  have e1 : ∀ t, t < k → dnR s m k t = s t := fun t h => by unfold dnR; rw [if_neg (by omega), if_neg (by omega)]
  have e2 : dnR s m k k = s m := by unfold dnR; rw [if_pos rfl]
  have e3 : ∀ t, k < t → t ≤ m → dnR s m k t = s (t - 1) := fun t h h' => by unfold dnR; rw [if_neg (by omega), if_pos ⟨h, h'⟩]
  intro t u g1 g2 g3
  rcases Nat.lt_trichotomy t k with h | h | h
  · rw [e1 t h]
    rcases Nat.lt_trichotomy u k with h' | h' | h'
    · rw [e1 u h']; exact hr _ _ (by omega) (by omega) (by omega)
    · subst h'; rw [e2]; exact h1 _ (by omega) (by omega)
    · rw [e3 u h' (by omega)]; exact hr _ _ (by omega) (by omega) (by omega)
  · subst h; rw [e2, e3 u g2 (by omega)]; exact h2 _ (by omega) (by omega)
  · rw [e3 t h (by omega), e3 u (by omega) (by omega)]; exact hr _ _ (by omega) (by omega) (by omega)

set_option maxRecDepth 100000 in
set_option maxHeartbeats 8000000 in
theorem symMerge_last (L : Nat → OpV) (s : Nat → Nat) (g n cap a m b : Nat) (ham : a < m) (hmb : m < b) (hb : b ≤ n) (hn : n ≤ 1000) (hl : Srt L a m s) (hr : Srt L m b s) (hx : ∀ t u, a ≤ t → t < m → m ≤ u → u < b → s t < s u) (h0 : m ≠ a + 1) (h1 : b = m + 1) (w : World) (hH : Hold w g n fun t => L (s t)) :
    Calls Try.prog 55 #[.slice (some ⟨g, 0, none⟩) n cap, .int .i64 (a : Nat), .int .i64 (m : Nat), .int .i64 (b : Nat), .func (.func 36) #[] #[]] w fun e w' => e = .returned (.tuple #[]) ∧ ∃ s', Hold w' g n (fun t => L (s' t)) ∧ Turns [g] w w' ∧ Per a b s s' ∧ Srt L a b s' := by
  have hq : (((m : Int) - (a : Int)) == 1) = false := by simp; omega
  have hq2 : (((b : Int) - (m : Int)) == 1) = true := by simp; omega
  have hl := Lib.hid hl
  have hr := Lib.hid hr
  have hx := Lib.hid hx
  replace h0 := Lib.hid h0
  replace h1 := Lib.hid h1
  go_enter Try.func55, Try.ntmps55
  go_wp2
  have hH := Lib.hid hH
  go_loopw [14, 15, 16] (fun i j _ wr => ∃ (i' j' : Nat), a ≤ i' ∧ i' ≤ j' ∧ j' ≤ m ∧ i = .int .i64 i' ∧ j = .int .i64 j' ∧ Hold wr g n (fun t => L (s t)) ∧ Turns [g] w wr ∧ Hid ((∀ t, a ≤ t → t < i' → Pc L (s t) (s m)) ∧ ∀ t, j' ≤ t → t < m → Pc L (s m) (s t))) (fun i j _ _ => (intOf j).toNat - (intOf i).toNat)
  case atStart => exact ⟨a, m, by omega, by omega, by omega, rfl, rfl, hH.out, Turns.refl _ _, Lib.hid ⟨fun t _ _ => by omega, fun t _ _ => by omega⟩⟩
  case round =>
    clear hH
    obtain ⟨i, j, hmi, hij, hjb, rfl, rfl, hK0, hT, hP⟩ := hrel
    by_cases hlt : i < j
    · have hk4 : (i : Int) < (j : Int) := by omega
      obtain ⟨h, hh⟩ : ∃ h : Nat, ((i : Int) + (j : Int)) / 2 = (h : Int) := ⟨(i + j) / 2, by omega⟩
      have hh1 : i ≤ h := by omega
      have hh2 : h < j := by omega
      have hix1 := Hold.index n cap g m (by omega)
      have hix2 := Hold.index n cap g h (by omega)
      have hlt0 := Lib.hid hK0.lt
      have hel0 := Lib.hid (hK0.el m (by omega))
      have hel1 := Lib.hid (hK0.el h (by omega))
      obtain ⟨cc, hcc⟩ : ∃ cc, cmpS (L (s m)).n (L (s m)).r (L (s h)).n (L (s h)).r = cc := ⟨_, rfl⟩
      have hC := fun W => cmpO_any (L (s m)) (L (s h)) W
      rw [hcc] at hC
      have hcc := Lib.hid hcc
      have hC := Lib.hid hC
      by_cases hneg : cc < 0
      · have hneg2 := Lib.hid (show cmpL L (s m) (s h) < 0 by unfold cmpL; rw [hcc.out]; exact hneg)
        have hnt : (!decide (cc < 0)) = false := by simp; omega
        go_wp2_with fail
        refine wp_region_quiet_below (by kernel_rfl) (by kernel_rfl) ?_
        repeat (first
          | (go_big_quiet_want; refine quiet_load_el _ rfl rfl hlt0.out (hel0.out) ?_; simp only [Act.put, List.setIfInBounds_toArray, List.set_cons_succ, List.set_cons_zero]; go_big_quiet_on)
          | (go_big_quiet_want; refine quiet_load_el _ rfl rfl hlt0.out (hel1.out) ?_; simp only [Act.put, List.setIfInBounds_toArray, List.set_cons_succ, List.set_cons_zero]; go_big_quiet_on)
          | go_big_quiet_step (first | (go_at_call 36; exact Calls.ret_regrown (hC.out _))))
        refine wpQuiet_nil ?_
        intro W9 hw9
        have hB9 := (show Below _ _ W9 by obtain ⟨⟨dq, osq⟩, rfl⟩ := hw9; exact below_regrown _ dq osq)
        replace hK0 := Lib.hid (hK0.after hB9)
        replace hT := Lib.hid (hT.call hB9)
        clear hB9 hw9 hlt0 hel0 hel1
        go_wp2
        refine ⟨⟨i, h, by omega, by omega, by omega, rfl, rfl, hK0.out, hT.out, Lib.hid ⟨hP.out.1, fun t h1 h2 => ?_⟩⟩, by simp [intOf]; omega⟩
        by_cases e : t = h
        · rw [e]; exact Pc.of_neg hneg2.out
        · exact (Pc.of_neg hneg2.out).trans (hl.out h t (by omega) (by omega) h2)
      · have hneg2 := Lib.hid (show ¬ cmpL L (s m) (s h) < 0 by unfold cmpL; rw [hcc.out]; exact hneg)
        have hnt : (!decide (cc < 0)) = true := by simp; omega
        go_wp2_with fail
        refine wp_region_quiet_below (by kernel_rfl) (by kernel_rfl) ?_
        repeat (first
          | (go_big_quiet_want; refine quiet_load_el _ rfl rfl hlt0.out (hel0.out) ?_; simp only [Act.put, List.setIfInBounds_toArray, List.set_cons_succ, List.set_cons_zero]; go_big_quiet_on)
          | (go_big_quiet_want; refine quiet_load_el _ rfl rfl hlt0.out (hel1.out) ?_; simp only [Act.put, List.setIfInBounds_toArray, List.set_cons_succ, List.set_cons_zero]; go_big_quiet_on)
          | go_big_quiet_step (first | (go_at_call 36; exact Calls.ret_regrown (hC.out _))))
        refine wpQuiet_nil ?_
        intro W9 hw9
        have hB9 := (show Below _ _ W9 by obtain ⟨⟨dq, osq⟩, rfl⟩ := hw9; exact below_regrown _ dq osq)
        replace hK0 := Lib.hid (hK0.after hB9)
        replace hT := Lib.hid (hT.call hB9)
        clear hB9 hw9 hlt0 hel0 hel1
        go_wp2
        have hlow : Pc L (s h) (s m) := Pc.of_not (by have := hneg2.out; omega) (hx.out h _ (by omega) (by omega) (by omega) (by omega))
        refine ⟨⟨h + 1, j, by omega, by omega, hjb, by go_num, rfl, hK0.out, hT.out, Lib.hid ⟨fun t h1 h2 => ?_, hP.out.2⟩⟩, by simp [intOf]; omega⟩
        by_cases e : t = h
        · rw [e]; exact hlow
        · exact (hl.out t h h1 (by omega) (by omega)).trans hlow
    · obtain rfl : i = j := by omega
      go_wp2
      have hK0 := Lib.hid hK0
      have hT := Lib.hid hT
      go_loopw [17] (fun k wr => ∃ (k' : Nat), i ≤ k' ∧ k' ≤ m ∧ k = .int .i64 k' ∧ Hold wr g n (fun t => L (dnR s m k' t)) ∧ Turns [g] w wr ∧ Per a b s (dnR s m k')) (fun k _ => (intOf k).toNat)
      case atStart => exact ⟨m, by omega, by omega, rfl, by rw [dnR_zero]; exact hK0.out, hT.out, by rw [dnR_zero]; exact .refl _⟩
      case round =>
        clear hK0 hT
        obtain ⟨k, hki, hkm, rfl, hK0, hT, hQ⟩ := hrel
        by_cases hlt2 : i < k
        · have hk5 : (i : Int) < (k : Int) := by omega
          have hsw := Lib.hid (dnR_succ s (m := m) (k := k) hkm (by omega))
          have hT := Lib.hid hT
          have hQ := Lib.hid hQ
          have hK0 := Lib.hid hK0
          go_wp2_with fail
          replace hK0 := hK0.out
          refine wp_region_any (by kernel_rfl) ?_
          change wpAny _ _ _ _ _ _ _ (World.drew _)
          have hd := Lib.hid hK0.drew
          refine wpAny_take (i := 0) (oi := ⟨some 113, .move (.tmp 0), _, _, _, none⟩) (v := .slice (some ⟨g, 0, none⟩) n cap) rfl (by decide +kernel) (by decide +kernel) (by decide +kernel) (fun _ _ _ h => h) (.inl ⟨rfl, fun w => rfl⟩) ?_
          simp only [Act.put, List.setIfInBounds_toArray, List.set_cons_succ, List.set_cons_zero]
          refine wpAny_take (i := 1) (oi := ⟨some 114, .move (.tmp 17), _, _, _, none⟩) (v := .int .i64 ((k : Nat) : Int)) rfl (by decide +kernel) (by decide +kernel) (by decide +kernel) (fun _ _ _ h => h) (.inl ⟨rfl, fun w => rfl⟩) ?_
          simp only [Act.put, List.setIfInBounds_toArray, List.set_cons_succ, List.set_cons_zero]
          refine wpAny_take (i := 2) (oi := ⟨some 115, .move (.tmp 0), _, _, _, none⟩) (v := .slice (some ⟨g, 0, none⟩) n cap) rfl (by decide +kernel) (by decide +kernel) (by decide +kernel) (fun _ _ _ h => h) (.inl ⟨rfl, fun w => rfl⟩) ?_
          simp only [Act.put, List.setIfInBounds_toArray, List.set_cons_succ, List.set_cons_zero]
          refine wpAny_take (i := 3) (oi := ⟨some 116, .move (.tmp 17), _, _, _, none⟩) (v := .int .i64 ((k : Nat) : Int)) rfl (by decide +kernel) (by decide +kernel) (by decide +kernel) (fun _ _ _ h => h) (.inl ⟨rfl, fun w => rfl⟩) ?_
          simp only [Act.put, List.setIfInBounds_toArray, List.set_cons_succ, List.set_cons_zero]
          refine wpAny_take (i := 4) (oi := ⟨some 117, .binOp .sub 3 (.tmp 116) (.const (.int .i64 1)) 3, _, _, _, none⟩) (v := .int .i64 ((k - 1 : Nat) : Int)) rfl (by decide +kernel) (by decide +kernel) (by decide +kernel) (fun _ _ _ h => h) (.inl ⟨rfl, fun w => run_subI _ rfl rfl (by omega) (by omega) (by omega) _ _ _ _ _ _⟩) ?_
          simp only [Act.put, List.setIfInBounds_toArray, List.set_cons_succ, List.set_cons_zero]
          refine wpAny_take (i := 5) (oi := ⟨some 118, .move (.tmp 0), _, _, _, none⟩) (v := .slice (some ⟨g, 0, none⟩) n cap) rfl (by decide +kernel) (by decide +kernel) (by decide +kernel) (fun _ _ _ h => h) (.inl ⟨rfl, fun w => rfl⟩) ?_
          simp only [Act.put, List.setIfInBounds_toArray, List.set_cons_succ, List.set_cons_zero]
          refine wpAny_take (i := 6) (oi := ⟨some 119, .move (.tmp 17), _, _, _, none⟩) (v := .int .i64 ((k : Nat) : Int)) rfl (by decide +kernel) (by decide +kernel) (by decide +kernel) (fun _ _ _ h => h) (.inl ⟨rfl, fun w => rfl⟩) ?_
          simp only [Act.put, List.setIfInBounds_toArray, List.set_cons_succ, List.set_cons_zero]
          refine wpAny_take (i := 7) (oi := ⟨some 120, .binOp .sub 3 (.tmp 119) (.const (.int .i64 1)) 3, _, _, _, none⟩) (v := .int .i64 ((k - 1 : Nat) : Int)) rfl (by decide +kernel) (by decide +kernel) (by decide +kernel) (fun _ _ _ h => h) (.inl ⟨rfl, fun w => run_subI _ rfl rfl (by omega) (by omega) (by omega) _ _ _ _ _ _⟩) ?_
          simp only [Act.put, List.setIfInBounds_toArray, List.set_cons_succ, List.set_cons_zero]
          refine wpAny_take (i := 8) (oi := ⟨some 121, .indexAddr 34 (.tmp 118) (.tmp 120), _, _, _, none⟩) (v := .pointer (some ⟨g, (k - 1) * 26, none⟩)) rfl (by decide +kernel) (by decide +kernel) (by decide +kernel) (fun _ _ _ h => h) (.inl ⟨rfl, fun w => run_ix (i := k - 1) rfl rfl (by omega) _ _ _ _ _ _⟩) ?_
          simp only [Act.put, List.setIfInBounds_toArray, List.set_cons_succ, List.set_cons_zero]
          refine wpAny_take (i := 10) (oi := ⟨some 123, .move (.tmp 0), _, _, _, none⟩) (v := .slice (some ⟨g, 0, none⟩) n cap) rfl (by decide +kernel) (by decide +kernel) (by decide +kernel) (fun _ _ _ h => h) (.inl ⟨rfl, fun w => rfl⟩) ?_
          simp only [Act.put, List.setIfInBounds_toArray, List.set_cons_succ, List.set_cons_zero]
          refine wpAny_take (i := 11) (oi := ⟨some 124, .move (.tmp 17), _, _, _, none⟩) (v := .int .i64 ((k : Nat) : Int)) rfl (by decide +kernel) (by decide +kernel) (by decide +kernel) (fun _ _ _ h => h) (.inl ⟨rfl, fun w => rfl⟩) ?_
          simp only [Act.put, List.setIfInBounds_toArray, List.set_cons_succ, List.set_cons_zero]
          refine wpAny_take (i := 12) (oi := ⟨some 125, .indexAddr 34 (.tmp 123) (.tmp 124), _, _, _, none⟩) (v := .pointer (some ⟨g, (k) * 26, none⟩)) rfl (by decide +kernel) (by decide +kernel) (by decide +kernel) (fun _ _ _ h => h) (.inl ⟨rfl, fun w => run_ix (i := k) rfl rfl (by omega) _ _ _ _ _ _⟩) ?_
          simp only [Act.put, List.setIfInBounds_toArray, List.set_cons_succ, List.set_cons_zero]
          refine wpAny_ready (rs := [9, 13]) (by decide +kernel) (by simp) (AllReady.cons (o := ⟨some 122, .load 31 (.tmp 121), _, _, _, none⟩) rfl (fun K hK => ?_) (AllReady.cons (o := ⟨some 126, .load 31 (.tmp 125), _, _, _, none⟩) rfl (fun K hK => ?_) AllReady.nil))
          · refine step_load_el (x := (fun t => L (dnR s m k t)) (k - 1)) rfl (hd.out.el _ (by omega)) ?_
            refine hK _ _ ?_
            clear hK K
            simp only [Act.put, List.setIfInBounds_toArray, List.set_cons_succ, List.set_cons_zero]
            refine wpAny_ready (rs := [13]) (by decide +kernel) (by simp) (AllReady.cons (o := ⟨some 126, .load 31 (.tmp 125), _, _, _, none⟩) rfl (fun K hK => ?_) AllReady.nil)
            refine step_load_el (x := (fun t => L (dnR s m k t)) (k)) rfl (hd.out.el _ (by omega)) ?_
            refine hK _ _ ?_
            clear hK K
            simp only [Act.put, List.setIfInBounds_toArray, List.set_cons_succ, List.set_cons_zero]
            refine wpAny_take (i := 14) (oi := ⟨some 127, .indexAddr 34 (.tmp 113) (.tmp 114), _, _, _, none⟩) (v := .pointer (some ⟨g, (k) * 26, none⟩)) rfl (by decide +kernel) (by decide +kernel) (by decide +kernel) (fun _ _ _ h => h) (.inl ⟨rfl, fun w => run_ix (i := k) rfl rfl (by omega) _ _ _ _ _ _⟩) ?_
            simp only [Act.put, List.setIfInBounds_toArray, List.set_cons_succ, List.set_cons_zero]
            refine wpAny_ready (rs := [15]) (by decide +kernel) (by simp) (AllReady.cons (o := ⟨none, .store 31 (.tmp 127) (.tmp 122), _, _, _, none⟩) rfl (fun K hK => ?_) AllReady.nil)
            refine step_store_el (x := (fun t => L (dnR s m k t)) (k - 1)) rfl rfl (hd.out.thereAt (by omega)) ?_
            intro W1 hW1
            have hd1 := hd.out.put (i := k) (by omega) ((fun t => L (dnR s m k t)) (k - 1))
            rw [hW1] at hd1
            replace hd1 := Lib.hid hd1
            replace hW1 := Lib.hid hW1
            refine hK _ _ ?_
            clear hK K
            refine wpAny_take (i := 16) (oi := ⟨some 128, .indexAddr 34 (.tmp 115) (.tmp 117), _, _, _, none⟩) (v := .pointer (some ⟨g, (k - 1) * 26, none⟩)) rfl (by decide +kernel) (by decide +kernel) (by decide +kernel) (fun _ _ _ h => h) (.inl ⟨rfl, fun w => run_ix (i := k - 1) rfl rfl (by omega) _ _ _ _ _ _⟩) ?_
            simp only [Act.put, List.setIfInBounds_toArray, List.set_cons_succ, List.set_cons_zero]
            refine wpAny_ready (rs := [17]) (by decide +kernel) (by simp) (AllReady.cons (o := ⟨none, .store 31 (.tmp 128) (.tmp 126), _, _, _, none⟩) rfl (fun K hK => ?_) AllReady.nil)
            refine step_store_el (x := (fun t => L (dnR s m k t)) (k)) rfl rfl (hd1.out.thereAt (by omega)) ?_
            intro W2 hW2
            replace hW2 := Lib.hid hW2
            refine hK _ _ ?_
            clear hK K
            refine wpAny_done (by decide +kernel) ?_ _
            go_wp2
            have hS := hd.out.swap (i := k) (j := k - 1) (by omega) (by omega)
            rw [← comp_swf] at hS
            have hT2 := ((hT.out.drew).trans' (turns_setCells _ g (opL (L (dnR s m k (k - 1)))) ((k) * 26))).trans' (turns_setCells _ g (opL (L (dnR s m k (k)))) ((k - 1) * 26))
            try dsimp only at hS
            have e1 := hW1.out; have e2 := hW2.out; try dsimp only at e1 e2
            rw [e1, e2] at hS hT2
            rw [hsw.out] at hS
            exact ⟨⟨k - 1, by omega, by omega, by congr 1; omega, hS, hT2, by rw [← hsw.out]; exact hQ.out.swap (by omega) (by omega) (by omega) (by omega)⟩, by simp [intOf]; omega⟩
          · refine step_load_el (x := (fun t => L (dnR s m k t)) (k)) rfl (hd.out.el _ (by omega)) ?_
            refine hK _ _ ?_
            clear hK K
            simp only [Act.put, List.setIfInBounds_toArray, List.set_cons_succ, List.set_cons_zero]
            refine wpAny_ready (rs := [9]) (by decide +kernel) (by simp) (AllReady.cons (o := ⟨some 122, .load 31 (.tmp 121), _, _, _, none⟩) rfl (fun K hK => ?_) AllReady.nil)
            refine step_load_el (x := (fun t => L (dnR s m k t)) (k - 1)) rfl (hd.out.el _ (by omega)) ?_
            refine hK _ _ ?_
            clear hK K
            simp only [Act.put, List.setIfInBounds_toArray, List.set_cons_succ, List.set_cons_zero]
            refine wpAny_take (i := 14) (oi := ⟨some 127, .indexAddr 34 (.tmp 113) (.tmp 114), _, _, _, none⟩) (v := .pointer (some ⟨g, (k) * 26, none⟩)) rfl (by decide +kernel) (by decide +kernel) (by decide +kernel) (fun _ _ _ h => h) (.inl ⟨rfl, fun w => run_ix (i := k) rfl rfl (by omega) _ _ _ _ _ _⟩) ?_
            simp only [Act.put, List.setIfInBounds_toArray, List.set_cons_succ, List.set_cons_zero]
            refine wpAny_ready (rs := [15]) (by decide +kernel) (by simp) (AllReady.cons (o := ⟨none, .store 31 (.tmp 127) (.tmp 122), _, _, _, none⟩) rfl (fun K hK => ?_) AllReady.nil)
            refine step_store_el (x := (fun t => L (dnR s m k t)) (k - 1)) rfl rfl (hd.out.thereAt (by omega)) ?_
            intro W1 hW1
            have hd1 := hd.out.put (i := k) (by omega) ((fun t => L (dnR s m k t)) (k - 1))
            rw [hW1] at hd1
            replace hd1 := Lib.hid hd1
            replace hW1 := Lib.hid hW1
            refine hK _ _ ?_
            clear hK K
            refine wpAny_take (i := 16) (oi := ⟨some 128, .indexAddr 34 (.tmp 115) (.tmp 117), _, _, _, none⟩) (v := .pointer (some ⟨g, (k - 1) * 26, none⟩)) rfl (by decide +kernel) (by decide +kernel) (by decide +kernel) (fun _ _ _ h => h) (.inl ⟨rfl, fun w => run_ix (i := k - 1) rfl rfl (by omega) _ _ _ _ _ _⟩) ?_
            simp only [Act.put, List.setIfInBounds_toArray, List.set_cons_succ, List.set_cons_zero]
            refine wpAny_ready (rs := [17]) (by decide +kernel) (by simp) (AllReady.cons (o := ⟨none, .store 31 (.tmp 128) (.tmp 126), _, _, _, none⟩) rfl (fun K hK => ?_) AllReady.nil)
            refine step_store_el (x := (fun t => L (dnR s m k t)) (k)) rfl rfl (hd1.out.thereAt (by omega)) ?_
            intro W2 hW2
            replace hW2 := Lib.hid hW2
            refine hK _ _ ?_
            clear hK K
            refine wpAny_done (by decide +kernel) ?_ _
            go_wp2
            have hS := hd.out.swap (i := k) (j := k - 1) (by omega) (by omega)
            rw [← comp_swf] at hS
            have hT2 := ((hT.out.drew).trans' (turns_setCells _ g (opL (L (dnR s m k (k - 1)))) ((k) * 26))).trans' (turns_setCells _ g (opL (L (dnR s m k (k)))) ((k - 1) * 26))
            try dsimp only at hS
            have e1 := hW1.out; have e2 := hW2.out; try dsimp only at e1 e2
            rw [e1, e2] at hS hT2
            rw [hsw.out] at hS
            exact ⟨⟨k - 1, by omega, by omega, by congr 1; omega, hS, hT2, by rw [← hsw.out]; exact hQ.out.swap (by omega) (by omega) (by omega) (by omega)⟩, by simp [intOf]; omega⟩
        · have hk5 : ¬ (i : Int) < (k : Int) := by omega
          obtain rfl : k = i := by omega
          go_wp2
          refine bodyPost_ret (results_none rfl _ _ _) rfl ?_
          exact ⟨rfl, _, hK0, hT, hQ, by rw [h1.out]; exact dnR_srt (by omega) (by omega) hl.out hP.out.1 hP.out.2⟩
end Go.Proofs.Yteclkaecjogbjaa
