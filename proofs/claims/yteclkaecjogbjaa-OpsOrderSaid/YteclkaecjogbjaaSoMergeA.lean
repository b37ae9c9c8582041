/-
  A run of one element and a run behind it become one.
-/
import Derived.Test.YteclkaecjogbjaaSoInsert
namespace Go.Proofs.Yteclkaecjogbjaa
open Go.RowKit Go.Sort

/-- What stands at a has gone up to k. -/
def upR (s : Nat → Nat) (a k : Nat) : Nat → Nat := fun t => if a ≤ t ∧ t < k then s (t + 1) else if t = k then s a else s t
theorem upR_zero (s : Nat → Nat) (a : Nat) : upR s a a = s := by
  funext t; unfold upR; rw [if_neg (by omega)]; split
  · subst_vars; rfl
  · rfl
theorem upR_succ (s : Nat → Nat) {a k : Nat} (h : a ≤ k) : swf (upR s a k) k (k + 1) = upR s a (k + 1) := by
  funext t
  unfold swf upR
  by_cases h1 : t = k + 1
  · subst h1; rw [if_pos rfl, if_neg (by omega), if_pos rfl, if_neg (by omega), if_pos rfl]
  · rw [if_neg h1]
    by_cases h2 : t = k
    · subst h2; rw [if_pos rfl, if_neg (by omega), if_neg (by omega), if_pos (by omega)]
    · rw [if_neg h2]
      by_cases h3 : a ≤ t ∧ t < k
      · rw [if_pos h3, if_pos (by omega)]
      · rw [if_neg h3, if_neg h2, if_neg (by omega), if_neg h1]
theorem upR_srt {L : Nat → OpV} {s : Nat → Nat} {a b k : Nat} (hak : a ≤ k) (hkb : k < b) (hr : Srt L (a + 1) b s) (h1 : ∀ t, a + 1 ≤ t → t < k + 1 → Pc L (s t) (s a)) (h2 : ∀ t, k + 1 ≤ t → t < b → Pc L (s a) (s t)) : Srt L a b (upR s a k) := by
  have e1 : ∀ t, a ≤ t → t < k → upR s a k t = s (t + 1) := fun t h h' => by unfold upR; rw [if_pos ⟨h, h'⟩]
  have e2 : upR s a k k = s a := by unfold upR; rw [if_neg (by omega), if_pos rfl]
  have e3 : ∀ t, k < t → upR s a k t = s t := fun t h => by unfold upR; rw [if_neg (by omega), if_neg (by omega)]
  intro t u g1 g2 g3
  rcases Nat.lt_trichotomy t k with h | h | h
  · rw [e1 t g1 h]
    rcases Nat.lt_trichotomy u k with h' | h' | h'
    · rw [e1 u (by omega) h']; exact hr _ _ (by omega) (by omega) (by omega)
    · subst h'; rw [e2]; exact h1 _ (by omega) (by omega)
    · rw [e3 u h']; exact hr _ _ (by omega) (by omega) (by omega)
  · subst h; rw [e2, e3 u g2]; exact h2 _ (by omega) g3
  · rw [e3 t h, e3 u (by omega)]; exact hr _ _ (by omega) g2 g3

set_option maxRecDepth 100000 in
set_option maxHeartbeats 8000000 in
theorem symMerge_one (L : Nat → OpV) (s : Nat → Nat) (g n cap a m b : Nat) (ham : a < m) (hmb : m < b) (hb : b ≤ n) (hn : n ≤ 1000) (hl : Srt L a m s) (hr : Srt L m b s) (hx : ∀ t u, a ≤ t → t < m → m ≤ u → u < b → s t < s u) (h1 : m = a + 1) (w : World) (hH : Hold w g n fun t => L (s t)) :
    Calls Try.prog 55 #[.slice (some ⟨g, 0, none⟩) n cap, .int .i64 (a : Nat), .int .i64 (m : Nat), .int .i64 (b : Nat), .func (.func 36) #[] #[]] w fun e w' => e = .returned (.tuple #[]) ∧ ∃ s', Hold w' g n (fun t => L (s' t)) ∧ Turns [g] w w' ∧ Per a b s s' ∧ Srt L a b s' := by
  have hq : (((m : Int) - (a : Int)) == 1) = true := by simp; omega
  have hl := Lib.hid hl
  have hr := Lib.hid hr
  have hx := Lib.hid hx
  replace h1 := Lib.hid h1
  go_enter Try.func55, Try.ntmps55
  go_wp2
  have hH := Lib.hid hH
  go_loopw [10, 11, 12] (fun i j _ wr => ∃ (i' j' : Nat), m ≤ i' ∧ i' ≤ j' ∧ j' ≤ b ∧ i = .int .i64 i' ∧ j = .int .i64 j' ∧ Hold wr g n (fun t => L (s t)) ∧ Turns [g] w wr ∧ Hid ((∀ t, m ≤ t → t < i' → Pc L (s t) (s a)) ∧ ∀ t, j' ≤ t → t < b → Pc L (s a) (s t))) (fun i j _ _ => (intOf j).toNat - (intOf i).toNat)
  case atStart => exact ⟨m, b, by omega, by omega, by omega, rfl, rfl, hH.out, Turns.refl _ _, Lib.hid ⟨fun t _ _ => by omega, fun t _ _ => by omega⟩⟩
  case round =>
    clear hH
    obtain ⟨i, j, hmi, hij, hjb, rfl, rfl, hK0, hT, hP⟩ := hrel
    by_cases hlt : i < j
    · have hk4 : (i : Int) < (j : Int) := by omega
      obtain ⟨h, hh⟩ : ∃ h : Nat, ((i : Int) + (j : Int)) / 2 = (h : Int) := ⟨(i + j) / 2, by omega⟩
      have hh1 : i ≤ h := by omega
      have hh2 : h < j := by omega
      have hix1 := Hold.index n cap g a (by omega)
      have hix2 := Hold.index n cap g (h) (by omega)
      have hlt0 := Lib.hid hK0.lt
      have hel0 := Lib.hid (hK0.el a (by omega))
      have hel1 := Lib.hid (hK0.el (h) (by omega))
      obtain ⟨cc, hcc⟩ : ∃ cc, cmpS (L (s (h))).n (L (s (h))).r (L (s a)).n (L (s a)).r = cc := ⟨_, rfl⟩
      have hC := fun W => cmpO_any (L (s (h))) (L (s a)) W
      rw [hcc] at hC
      have hcc := Lib.hid hcc
      have hC := Lib.hid hC
      by_cases hneg : cc < 0
      · have hneg2 := Lib.hid (show cmpL L (s (h)) (s a) < 0 by unfold cmpL; rw [hcc.out]; exact hneg)
        go_wp2_with fail
        refine wp_region_quiet_below (by kernel_rfl) (by kernel_rfl) ?_
        repeat (first
          | (go_big_quiet_want; refine quiet_load_el _ rfl rfl hlt0.out (hel0.out) ?_; simp only [Act.put, List.setIfInBounds_toArray, List.set_cons_succ, List.set_cons_zero]; go_big_quiet_on)
          | (go_big_quiet_want; refine quiet_load_el _ rfl rfl hlt0.out (hel1.out) ?_; simp only [Act.put, List.setIfInBounds_toArray, List.set_cons_succ, List.set_cons_zero]; go_big_quiet_on)
          | go_big_quiet_step (first | (go_at_call 36; exact Calls.ret_regrown (hC.out _))))
        refine wpQuiet_nil ?_
        intro W9 hw9
        have hB9 := (show Below _ _ W9 by obtain ⟨⟨dq, osq⟩, rfl⟩ := hw9; exact below_regrown _ dq osq)
        replace hK0 := Lib.hid (hK0.after hB9)
        replace hT := Lib.hid (hT.call hB9)
        clear hB9 hw9 hlt0 hel0 hel1
        go_wp2
        refine ⟨⟨h + 1, j, by omega, by omega, hjb, by go_num, rfl, hK0.out, hT.out, Lib.hid ⟨fun t h1 h2 => ?_, hP.out.2⟩⟩, by simp [intOf]; omega⟩
        by_cases e : t = h
        · rw [e]; exact Pc.of_neg hneg2.out
        · exact (hr.out t (h) h1 (by omega) (by omega)).trans (Pc.of_neg hneg2.out)
      · have hneg2 := Lib.hid (show ¬ cmpL L (s (h)) (s a) < 0 by unfold cmpL; rw [hcc.out]; exact hneg)
        go_wp2_with fail
        refine wp_region_quiet_below (by kernel_rfl) (by kernel_rfl) ?_
        repeat (first
          | (go_big_quiet_want; refine quiet_load_el _ rfl rfl hlt0.out (hel0.out) ?_; simp only [Act.put, List.setIfInBounds_toArray, List.set_cons_succ, List.set_cons_zero]; go_big_quiet_on)
          | (go_big_quiet_want; refine quiet_load_el _ rfl rfl hlt0.out (hel1.out) ?_; simp only [Act.put, List.setIfInBounds_toArray, List.set_cons_succ, List.set_cons_zero]; go_big_quiet_on)
          | go_big_quiet_step (first | (go_at_call 36; exact Calls.ret_regrown (hC.out _))))
        refine wpQuiet_nil ?_
        intro W9 hw9
        have hB9 := (show Below _ _ W9 by obtain ⟨⟨dq, osq⟩, rfl⟩ := hw9; exact below_regrown _ dq osq)
        replace hK0 := Lib.hid (hK0.after hB9)
        replace hT := Lib.hid (hT.call hB9)
        clear hB9 hw9 hlt0 hel0 hel1
        go_wp2
        have hlow : Pc L (s a) (s (h)) := Pc.of_not (by have := hneg2.out; omega) (hx.out a _ (by omega) (by omega) (by omega) (by omega))
        refine ⟨⟨i, h, by omega, by omega, by omega, rfl, rfl, hK0.out, hT.out, Lib.hid ⟨hP.out.1, fun t h1 h2 => ?_⟩⟩, by simp [intOf]; omega⟩
        by_cases e : t = h
        · rw [e]; exact hlow
        · exact hlow.trans (hr.out (h) t (by omega) (by omega) h2)
    · obtain rfl : i = j := by omega
      go_wp2
      have hK0 := Lib.hid hK0
      have hT := Lib.hid hT
      go_loopw [13] (fun k wr => ∃ (k' : Nat), a ≤ k' ∧ k' ≤ i - 1 ∧ k = .int .i64 k' ∧ Hold wr g n (fun t => L (upR s a k' t)) ∧ Turns [g] w wr ∧ Per a b s (upR s a k')) (fun k _ => i - (intOf k).toNat)
      case atStart => exact ⟨a, by omega, by omega, rfl, by rw [upR_zero]; exact hK0.out, hT.out, by rw [upR_zero]; exact .refl _⟩
      case round =>
        clear hK0 hT
        obtain ⟨k, hak, hki, rfl, hK0, hT, hQ⟩ := hrel
        by_cases hlt2 : k < i - 1
        · have hk5 : (k : Int) < ((i - 1 : Nat) : Int) := by omega
          have hsw := Lib.hid (upR_succ s (a := a) (k := k) hak)
          have hT := Lib.hid hT
          have hQ := Lib.hid hQ
          have hK0 := Lib.hid hK0
          go_wp2_with fail
          replace hK0 := hK0.out
          refine wp_region_any (by kernel_rfl) ?_
          change wpAny _ _ _ _ _ _ _ (World.drew _)
          have hd := Lib.hid hK0.drew
          refine wpAny_take (i := 0) (oi := ⟨some 61, .move (.tmp 0), _, _, _, none⟩) (v := .slice (some ⟨g, 0, none⟩) n cap) rfl (by decide +kernel) (by decide +kernel) (by decide +kernel) (fun _ _ _ h => h) (.inl ⟨rfl, fun w => rfl⟩) ?_
          simp only [Act.put, List.setIfInBounds_toArray, List.set_cons_succ, List.set_cons_zero]
          refine wpAny_take (i := 1) (oi := ⟨some 62, .move (.tmp 13), _, _, _, none⟩) (v := .int .i64 ((k : Nat) : Int)) rfl (by decide +kernel) (by decide +kernel) (by decide +kernel) (fun _ _ _ h => h) (.inl ⟨rfl, fun w => rfl⟩) ?_
          simp only [Act.put, List.setIfInBounds_toArray, List.set_cons_succ, List.set_cons_zero]
          refine wpAny_take (i := 2) (oi := ⟨some 63, .move (.tmp 0), _, _, _, none⟩) (v := .slice (some ⟨g, 0, none⟩) n cap) rfl (by decide +kernel) (by decide +kernel) (by decide +kernel) (fun _ _ _ h => h) (.inl ⟨rfl, fun w => rfl⟩) ?_
          simp only [Act.put, List.setIfInBounds_toArray, List.set_cons_succ, List.set_cons_zero]
          refine wpAny_take (i := 3) (oi := ⟨some 64, .move (.tmp 13), _, _, _, none⟩) (v := .int .i64 ((k : Nat) : Int)) rfl (by decide +kernel) (by decide +kernel) (by decide +kernel) (fun _ _ _ h => h) (.inl ⟨rfl, fun w => rfl⟩) ?_
          simp only [Act.put, List.setIfInBounds_toArray, List.set_cons_succ, List.set_cons_zero]
          refine wpAny_take (i := 4) (oi := ⟨some 65, .binOp .add 3 (.tmp 64) (.const (.int .i64 1)) 3, _, _, _, none⟩) (v := .int .i64 ((k + 1 : Nat) : Int)) rfl (by decide +kernel) (by decide +kernel) (by decide +kernel) (fun _ _ _ h => h) (.inl ⟨rfl, fun w => run_addI _ rfl rfl (by omega) (by omega) (by omega) _ _ _ _ _ _⟩) ?_
          simp only [Act.put, List.setIfInBounds_toArray, List.set_cons_succ, List.set_cons_zero]
          refine wpAny_take (i := 5) (oi := ⟨some 66, .move (.tmp 0), _, _, _, none⟩) (v := .slice (some ⟨g, 0, none⟩) n cap) rfl (by decide +kernel) (by decide +kernel) (by decide +kernel) (fun _ _ _ h => h) (.inl ⟨rfl, fun w => rfl⟩) ?_
          simp only [Act.put, List.setIfInBounds_toArray, List.set_cons_succ, List.set_cons_zero]
          refine wpAny_take (i := 6) (oi := ⟨some 67, .move (.tmp 13), _, _, _, none⟩) (v := .int .i64 ((k : Nat) : Int)) rfl (by decide +kernel) (by decide +kernel) (by decide +kernel) (fun _ _ _ h => h) (.inl ⟨rfl, fun w => rfl⟩) ?_
          simp only [Act.put, List.setIfInBounds_toArray, List.set_cons_succ, List.set_cons_zero]
          refine wpAny_take (i := 7) (oi := ⟨some 68, .binOp .add 3 (.tmp 67) (.const (.int .i64 1)) 3, _, _, _, none⟩) (v := .int .i64 ((k + 1 : Nat) : Int)) rfl (by decide +kernel) (by decide +kernel) (by decide +kernel) (fun _ _ _ h => h) (.inl ⟨rfl, fun w => run_addI _ rfl rfl (by omega) (by omega) (by omega) _ _ _ _ _ _⟩) ?_
          simp only [Act.put, List.setIfInBounds_toArray, List.set_cons_succ, List.set_cons_zero]
          refine wpAny_take (i := 8) (oi := ⟨some 69, .indexAddr 34 (.tmp 66) (.tmp 68), _, _, _, none⟩) (v := .pointer (some ⟨g, (k + 1) * 26, none⟩)) rfl (by decide +kernel) (by decide +kernel) (by decide +kernel) (fun _ _ _ h => h) (.inl ⟨rfl, fun w => run_ix (i := k + 1) rfl rfl (by omega) _ _ _ _ _ _⟩) ?_
          simp only [Act.put, List.setIfInBounds_toArray, List.set_cons_succ, List.set_cons_zero]
          refine wpAny_take (i := 10) (oi := ⟨some 71, .move (.tmp 0), _, _, _, none⟩) (v := .slice (some ⟨g, 0, none⟩) n cap) rfl (by decide +kernel) (by decide +kernel) (by decide +kernel) (fun _ _ _ h => h) (.inl ⟨rfl, fun w => rfl⟩) ?_
          simp only [Act.put, List.setIfInBounds_toArray, List.set_cons_succ, List.set_cons_zero]
          refine wpAny_take (i := 11) (oi := ⟨some 72, .move (.tmp 13), _, _, _, none⟩) (v := .int .i64 ((k : Nat) : Int)) rfl (by decide +kernel) (by decide +kernel) (by decide +kernel) (fun _ _ _ h => h) (.inl ⟨rfl, fun w => rfl⟩) ?_
          simp only [Act.put, List.setIfInBounds_toArray, List.set_cons_succ, List.set_cons_zero]
          refine wpAny_take (i := 12) (oi := ⟨some 73, .indexAddr 34 (.tmp 71) (.tmp 72), _, _, _, none⟩) (v := .pointer (some ⟨g, (k) * 26, none⟩)) rfl (by decide +kernel) (by decide +kernel) (by decide +kernel) (fun _ _ _ h => h) (.inl ⟨rfl, fun w => run_ix (i := k) rfl rfl (by omega) _ _ _ _ _ _⟩) ?_
          simp only [Act.put, List.setIfInBounds_toArray, List.set_cons_succ, List.set_cons_zero]
          refine wpAny_ready (rs := [9, 13]) (by decide +kernel) (by simp) (AllReady.cons (o := ⟨some 70, .load 31 (.tmp 69), _, _, _, none⟩) rfl (fun K hK => ?_) (AllReady.cons (o := ⟨some 74, .load 31 (.tmp 73), _, _, _, none⟩) rfl (fun K hK => ?_) AllReady.nil))
          · refine step_load_el (x := (fun t => L (upR s a k t)) (k + 1)) rfl (hd.out.el _ (by omega)) ?_
            refine hK _ _ ?_
            clear hK K
            simp only [Act.put, List.setIfInBounds_toArray, List.set_cons_succ, List.set_cons_zero]
            refine wpAny_ready (rs := [13]) (by decide +kernel) (by simp) (AllReady.cons (o := ⟨some 74, .load 31 (.tmp 73), _, _, _, none⟩) rfl (fun K hK => ?_) AllReady.nil)
            refine step_load_el (x := (fun t => L (upR s a k t)) (k)) rfl (hd.out.el _ (by omega)) ?_
            refine hK _ _ ?_
            clear hK K
            simp only [Act.put, List.setIfInBounds_toArray, List.set_cons_succ, List.set_cons_zero]
            refine wpAny_take (i := 14) (oi := ⟨some 75, .indexAddr 34 (.tmp 61) (.tmp 62), _, _, _, none⟩) (v := .pointer (some ⟨g, (k) * 26, none⟩)) rfl (by decide +kernel) (by decide +kernel) (by decide +kernel) (fun _ _ _ h => h) (.inl ⟨rfl, fun w => run_ix (i := k) rfl rfl (by omega) _ _ _ _ _ _⟩) ?_
            simp only [Act.put, List.setIfInBounds_toArray, List.set_cons_succ, List.set_cons_zero]
            refine wpAny_ready (rs := [15]) (by decide +kernel) (by simp) (AllReady.cons (o := ⟨none, .store 31 (.tmp 75) (.tmp 70), _, _, _, none⟩) rfl (fun K hK => ?_) AllReady.nil)
            refine step_store_el (x := (fun t => L (upR s a k t)) (k + 1)) rfl rfl (hd.out.thereAt (by omega)) ?_
            intro W1 hW1
            have hd1 := hd.out.put (i := k) (by omega) ((fun t => L (upR s a k t)) (k + 1))
            rw [hW1] at hd1
            replace hd1 := Lib.hid hd1
            replace hW1 := Lib.hid hW1
            refine hK _ _ ?_
            clear hK K
            refine wpAny_take (i := 16) (oi := ⟨some 76, .indexAddr 34 (.tmp 63) (.tmp 65), _, _, _, none⟩) (v := .pointer (some ⟨g, (k + 1) * 26, none⟩)) rfl (by decide +kernel) (by decide +kernel) (by decide +kernel) (fun _ _ _ h => h) (.inl ⟨rfl, fun w => run_ix (i := k + 1) rfl rfl (by omega) _ _ _ _ _ _⟩) ?_
            simp only [Act.put, List.setIfInBounds_toArray, List.set_cons_succ, List.set_cons_zero]
            refine wpAny_ready (rs := [17]) (by decide +kernel) (by simp) (AllReady.cons (o := ⟨none, .store 31 (.tmp 76) (.tmp 74), _, _, _, none⟩) rfl (fun K hK => ?_) AllReady.nil)
            refine step_store_el (x := (fun t => L (upR s a k t)) (k)) rfl rfl (hd1.out.thereAt (by omega)) ?_
            intro W2 hW2
            replace hW2 := Lib.hid hW2
            refine hK _ _ ?_
            clear hK K
            refine wpAny_done (by decide +kernel) ?_ _
            go_wp2
            have hS := hd.out.swap (i := k) (j := k + 1) (by omega) (by omega)
            rw [← comp_swf] at hS
            have hT2 := ((hT.out.drew).trans' (turns_setCells _ g (opL (L (upR s a k (k + 1)))) ((k) * 26))).trans' (turns_setCells _ g (opL (L (upR s a k (k)))) ((k + 1) * 26))
            try dsimp only at hS
            have e1 := hW1.out; have e2 := hW2.out; try dsimp only at e1 e2
            rw [e1, e2] at hS hT2
            rw [hsw.out] at hS
            exact ⟨⟨k + 1, by omega, by omega, by go_num, hS, hT2, by rw [← hsw.out]; exact hQ.out.swap (by omega) (by omega) (by omega) (by omega)⟩, by simp [intOf]; omega⟩
          · refine step_load_el (x := (fun t => L (upR s a k t)) (k)) rfl (hd.out.el _ (by omega)) ?_
            refine hK _ _ ?_
            clear hK K
            simp only [Act.put, List.setIfInBounds_toArray, List.set_cons_succ, List.set_cons_zero]
            refine wpAny_ready (rs := [9]) (by decide +kernel) (by simp) (AllReady.cons (o := ⟨some 70, .load 31 (.tmp 69), _, _, _, none⟩) rfl (fun K hK => ?_) AllReady.nil)
            refine step_load_el (x := (fun t => L (upR s a k t)) (k + 1)) rfl (hd.out.el _ (by omega)) ?_
            refine hK _ _ ?_
            clear hK K
            simp only [Act.put, List.setIfInBounds_toArray, List.set_cons_succ, List.set_cons_zero]
            refine wpAny_take (i := 14) (oi := ⟨some 75, .indexAddr 34 (.tmp 61) (.tmp 62), _, _, _, none⟩) (v := .pointer (some ⟨g, (k) * 26, none⟩)) rfl (by decide +kernel) (by decide +kernel) (by decide +kernel) (fun _ _ _ h => h) (.inl ⟨rfl, fun w => run_ix (i := k) rfl rfl (by omega) _ _ _ _ _ _⟩) ?_
            simp only [Act.put, List.setIfInBounds_toArray, List.set_cons_succ, List.set_cons_zero]
            refine wpAny_ready (rs := [15]) (by decide +kernel) (by simp) (AllReady.cons (o := ⟨none, .store 31 (.tmp 75) (.tmp 70), _, _, _, none⟩) rfl (fun K hK => ?_) AllReady.nil)
            refine step_store_el (x := (fun t => L (upR s a k t)) (k + 1)) rfl rfl (hd.out.thereAt (by omega)) ?_
            intro W1 hW1
            have hd1 := hd.out.put (i := k) (by omega) ((fun t => L (upR s a k t)) (k + 1))
            rw [hW1] at hd1
            replace hd1 := Lib.hid hd1
            replace hW1 := Lib.hid hW1
            refine hK _ _ ?_
            clear hK K
            refine wpAny_take (i := 16) (oi := ⟨some 76, .indexAddr 34 (.tmp 63) (.tmp 65), _, _, _, none⟩) (v := .pointer (some ⟨g, (k + 1) * 26, none⟩)) rfl (by decide +kernel) (by decide +kernel) (by decide +kernel) (fun _ _ _ h => h) (.inl ⟨rfl, fun w => run_ix (i := k + 1) rfl rfl (by omega) _ _ _ _ _ _⟩) ?_
            simp only [Act.put, List.setIfInBounds_toArray, List.set_cons_succ, List.set_cons_zero]
            refine wpAny_ready (rs := [17]) (by decide +kernel) (by simp) (AllReady.cons (o := ⟨none, .store 31 (.tmp 76) (.tmp 74), _, _, _, none⟩) rfl (fun K hK => ?_) AllReady.nil)
            refine step_store_el (x := (fun t => L (upR s a k t)) (k)) rfl rfl (hd1.out.thereAt (by omega)) ?_
            intro W2 hW2
            replace hW2 := Lib.hid hW2
            refine hK _ _ ?_
            clear hK K
            refine wpAny_done (by decide +kernel) ?_ _
            go_wp2
            have hS := hd.out.swap (i := k) (j := k + 1) (by omega) (by omega)
            rw [← comp_swf] at hS
            have hT2 := ((hT.out.drew).trans' (turns_setCells _ g (opL (L (upR s a k (k + 1)))) ((k) * 26))).trans' (turns_setCells _ g (opL (L (upR s a k (k)))) ((k + 1) * 26))
            try dsimp only at hS
            have e1 := hW1.out; have e2 := hW2.out; try dsimp only at e1 e2
            rw [e1, e2] at hS hT2
            rw [hsw.out] at hS
            exact ⟨⟨k + 1, by omega, by omega, by go_num, hS, hT2, by rw [← hsw.out]; exact hQ.out.swap (by omega) (by omega) (by omega) (by omega)⟩, by simp [intOf]; omega⟩
        · have hk5 : ¬ (k : Int) < ((i - 1 : Nat) : Int) := by omega
          obtain rfl : k = i - 1 := by omega
          go_wp2
          refine bodyPost_ret (results_none rfl _ _ _) rfl ?_
          exact ⟨rfl, _, hK0, hT, hQ, upR_srt (by omega) (by omega) (by rw [← h1.out]; exact hr.out) (fun t g1 g2 => hP.out.1 t (by have := h1.out; omega) (by omega)) fun t g1 g2 => hP.out.2 t (by omega) g2⟩
end Go.Proofs.Yteclkaecjogbjaa
