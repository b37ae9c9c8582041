/-
  Insertion: a run is brought to rise.
-/
import Derived.Test.YteclkaecjogbjaaSoOrder
namespace Go.Proofs.Yteclkaecjogbjaa
open Go.RowKit Go.Sort

set_option maxRecDepth 100000 in
set_option maxHeartbeats 8000000 in
theorem insertion_any (L : Nat → OpV) (s : Nat → Nat) (g n cap a b : Nat) (hab : a ≤ b) (hb : b ≤ n) (hn : n ≤ 1000) (hU : ∀ t u, a ≤ t → t < u → u < b → s t < s u) (w : World) (hH : Hold w g n fun t => L (s t)) :
    Calls Try.prog 54 #[.slice (some ⟨g, 0, none⟩) n cap, .int .i64 (a : Nat), .int .i64 (b : Nat), .func (.func 36) #[] #[]] w fun e w' => e = .returned (.tuple #[]) ∧ ∃ s', Hold w' g n (fun t => L (s' t)) ∧ Turns [g] w w' ∧ Per a b s s' ∧ Srt L a b s' := by
  have hU := Lib.hid hU
  go_enter Try.func54, Try.ntmps54
  go_wp2
  have hH := Lib.hid hH
  go_loopw [8, 9] (fun i _ wr => ∃ (k : Nat) (s' : Nat → Nat), a < k ∧ (k ≤ b ∨ k = a + 1) ∧ i = .int .i64 k ∧ Hold wr g n (fun t => L (s' t)) ∧ Turns [g] w wr ∧ Hid (Per a (min k b) s s' ∧ Srt L a k s')) (fun i _ _ => b + 1 - (intOf i).toNat)
  case atStart => exact ⟨a + 1, s, by omega, .inr rfl, by go_num, hH.out, Turns.refl _ _, Lib.hid ⟨.refl _, fun t u _ _ _ => by omega⟩⟩
  case round =>
    clear hH
    obtain ⟨k, s0, hak, hkb, rfl, hK0, hT, hP⟩ := hrel
    by_cases hlt : k < b
    · have hk4 : (k : Int) < (b : Int) := by omega
      have hK0 := Lib.hid hK0
      have hT := Lib.hid hT
      go_wp2
      go_loopw [9] (fun j wr => ∃ (j' : Nat) (s' : Nat → Nat), a ≤ j' ∧ j' ≤ k ∧ j = .int .i64 j' ∧ Hold wr g n (fun t => L (s' t)) ∧ Turns [g] w wr ∧ Hid (Per a (k + 1) s s' ∧ Slip L a (k + 1) j' s')) (fun j _ => (intOf j).toNat)
      case atStart =>
        refine ⟨k, s0, by omega, by omega, rfl, hK0.out, hT.out, Lib.hid ⟨hP.out.1.mono (by omega) (by omega), Slip.start hP.out.2 fun u h1 h2 => ?_⟩⟩
        have hp := hP.out.1.mono (lo' := a) (hi' := k) (by omega) (by omega)
        obtain ⟨x, x1, x2, x3⟩ := hp.mem (t := u) h1 h2
        rw [x3, hp.out (t := k) (by omega)]
        exact hU.out x k x1 (by omega) (by omega)
      case round =>
        clear hP hT hK0
        obtain ⟨j, s1, haj, hjk, rfl, hK0, hT, hP⟩ := hrel
        by_cases hja : a < j
        · have hja4 : (a : Int) < (j : Int) := by omega
          have hix1 := Hold.index n cap g j (by omega)
          have hix2 := Hold.index n cap g (j - 1) (by omega)
          have hlt0 := Lib.hid hK0.lt
          have hel0 := Lib.hid (hK0.el j (by omega))
          have hel1 := Lib.hid (hK0.el (j - 1) (by omega))
          obtain ⟨cc, hcc⟩ : ∃ cc, cmpS (L (s1 j)).n (L (s1 j)).r (L (s1 (j - 1))).n (L (s1 (j - 1))).r = cc := ⟨_, rfl⟩
          have hC := fun W => cmpO_any (L (s1 j)) (L (s1 (j - 1))) W
          rw [hcc] at hC
          have hcc := Lib.hid hcc
          have hC := Lib.hid hC
          by_cases hneg : cc < 0
          · have hneg2 := Lib.hid (show cmpL L (s1 j) (s1 (j - 1)) < 0 by unfold cmpL; rw [hcc.out]; exact hneg)
            go_wp2_with fail
            refine wp_region_quiet_below (by kernel_rfl) (by kernel_rfl) ?_
            repeat (first
              | (go_big_quiet_want; refine quiet_load_el _ rfl rfl hlt0.out (hel0.out) ?_; simp only [Act.put, List.setIfInBounds_toArray, List.set_cons_succ, List.set_cons_zero]; go_big_quiet_on)
              | (go_big_quiet_want; refine quiet_load_el _ rfl rfl hlt0.out (hel1.out) ?_; simp only [Act.put, List.setIfInBounds_toArray, List.set_cons_succ, List.set_cons_zero]; go_big_quiet_on)
              | go_big_quiet_step (first | (go_at_call 36; exact Calls.ret_regrown (hC.out _))))
            refine wpQuiet_nil ?_
            intro W9 hw9
            have hB9 := (show Below _ _ W9 by obtain ⟨⟨dq, osq⟩, rfl⟩ := hw9; exact below_regrown _ dq osq)
            replace hK0 := Lib.hid (hK0.after hB9)
            replace hT := Lib.hid (hT.call hB9)
            clear hB9 hw9 hlt0 hel0 hel1
            go_wp2_with fail
            replace hK0 := hK0.out
            refine wp_region_any (by kernel_rfl) ?_
            change wpAny _ _ _ _ _ _ _ (World.drew _)
            have hd := Lib.hid hK0.drew
            refine wpAny_take (i := 0) (oi := ⟨some 37, .move (.tmp 0), _, _, _, none⟩) (v := .slice (some ⟨g, 0, none⟩) n cap) rfl (by decide +kernel) (by decide +kernel) (by decide +kernel) (fun _ _ _ h => h) (.inl ⟨rfl, fun w => rfl⟩) ?_
            simp only [Act.put, List.setIfInBounds_toArray, List.set_cons_succ, List.set_cons_zero]
            refine wpAny_take (i := 1) (oi := ⟨some 38, .move (.tmp 9), _, _, _, none⟩) (v := .int .i64 ((j : Nat) : Int)) rfl (by decide +kernel) (by decide +kernel) (by decide +kernel) (fun _ _ _ h => h) (.inl ⟨rfl, fun w => rfl⟩) ?_
            simp only [Act.put, List.setIfInBounds_toArray, List.set_cons_succ, List.set_cons_zero]
            refine wpAny_take (i := 2) (oi := ⟨some 39, .move (.tmp 0), _, _, _, none⟩) (v := .slice (some ⟨g, 0, none⟩) n cap) rfl (by decide +kernel) (by decide +kernel) (by decide +kernel) (fun _ _ _ h => h) (.inl ⟨rfl, fun w => rfl⟩) ?_
            simp only [Act.put, List.setIfInBounds_toArray, List.set_cons_succ, List.set_cons_zero]
            refine wpAny_take (i := 3) (oi := ⟨some 40, .move (.tmp 9), _, _, _, none⟩) (v := .int .i64 ((j : Nat) : Int)) rfl (by decide +kernel) (by decide +kernel) (by decide +kernel) (fun _ _ _ h => h) (.inl ⟨rfl, fun w => rfl⟩) ?_
            simp only [Act.put, List.setIfInBounds_toArray, List.set_cons_succ, List.set_cons_zero]
            refine wpAny_take (i := 4) (oi := ⟨some 41, .binOp .sub 3 (.tmp 40) (.const (.int .i64 1)) 3, _, _, _, none⟩) (v := .int .i64 ((j - 1 : Nat) : Int)) rfl (by decide +kernel) (by decide +kernel) (by decide +kernel) (fun _ _ _ h => h) (.inl ⟨rfl, fun w => run_subI _ rfl rfl (by omega) (by omega) (by omega) _ _ _ _ _ _⟩) ?_
            simp only [Act.put, List.setIfInBounds_toArray, List.set_cons_succ, List.set_cons_zero]
            refine wpAny_take (i := 5) (oi := ⟨some 42, .move (.tmp 0), _, _, _, none⟩) (v := .slice (some ⟨g, 0, none⟩) n cap) rfl (by decide +kernel) (by decide +kernel) (by decide +kernel) (fun _ _ _ h => h) (.inl ⟨rfl, fun w => rfl⟩) ?_
            simp only [Act.put, List.setIfInBounds_toArray, List.set_cons_succ, List.set_cons_zero]
            refine wpAny_take (i := 6) (oi := ⟨some 43, .move (.tmp 9), _, _, _, none⟩) (v := .int .i64 ((j : Nat) : Int)) rfl (by decide +kernel) (by decide +kernel) (by decide +kernel) (fun _ _ _ h => h) (.inl ⟨rfl, fun w => rfl⟩) ?_
            simp only [Act.put, List.setIfInBounds_toArray, List.set_cons_succ, List.set_cons_zero]
            refine wpAny_take (i := 7) (oi := ⟨some 44, .binOp .sub 3 (.tmp 43) (.const (.int .i64 1)) 3, _, _, _, none⟩) (v := .int .i64 ((j - 1 : Nat) : Int)) rfl (by decide +kernel) (by decide +kernel) (by decide +kernel) (fun _ _ _ h => h) (.inl ⟨rfl, fun w => run_subI _ rfl rfl (by omega) (by omega) (by omega) _ _ _ _ _ _⟩) ?_
            simp only [Act.put, List.setIfInBounds_toArray, List.set_cons_succ, List.set_cons_zero]
            refine wpAny_take (i := 8) (oi := ⟨some 45, .indexAddr 34 (.tmp 42) (.tmp 44), _, _, _, none⟩) (v := .pointer (some ⟨g, (j - 1) * 26, none⟩)) rfl (by decide +kernel) (by decide +kernel) (by decide +kernel) (fun _ _ _ h => h) (.inl ⟨rfl, fun w => run_ix (i := j - 1) rfl rfl (by omega) _ _ _ _ _ _⟩) ?_
            simp only [Act.put, List.setIfInBounds_toArray, List.set_cons_succ, List.set_cons_zero]
            refine wpAny_take (i := 10) (oi := ⟨some 47, .move (.tmp 0), _, _, _, none⟩) (v := .slice (some ⟨g, 0, none⟩) n cap) rfl (by decide +kernel) (by decide +kernel) (by decide +kernel) (fun _ _ _ h => h) (.inl ⟨rfl, fun w => rfl⟩) ?_
            simp only [Act.put, List.setIfInBounds_toArray, List.set_cons_succ, List.set_cons_zero]
            refine wpAny_take (i := 11) (oi := ⟨some 48, .move (.tmp 9), _, _, _, none⟩) (v := .int .i64 ((j : Nat) : Int)) rfl (by decide +kernel) (by decide +kernel) (by decide +kernel) (fun _ _ _ h => h) (.inl ⟨rfl, fun w => rfl⟩) ?_
            simp only [Act.put, List.setIfInBounds_toArray, List.set_cons_succ, List.set_cons_zero]
            refine wpAny_take (i := 12) (oi := ⟨some 49, .indexAddr 34 (.tmp 47) (.tmp 48), _, _, _, none⟩) (v := .pointer (some ⟨g, (j) * 26, none⟩)) rfl (by decide +kernel) (by decide +kernel) (by decide +kernel) (fun _ _ _ h => h) (.inl ⟨rfl, fun w => run_ix (i := j) rfl rfl (by omega) _ _ _ _ _ _⟩) ?_
            simp only [Act.put, List.setIfInBounds_toArray, List.set_cons_succ, List.set_cons_zero]
            refine wpAny_ready (rs := [9, 13]) (by decide +kernel) (by simp) (AllReady.cons (o := ⟨some 46, .load 31 (.tmp 45), _, _, _, none⟩) rfl (fun K hK => ?_) (AllReady.cons (o := ⟨some 50, .load 31 (.tmp 49), _, _, _, none⟩) rfl (fun K hK => ?_) AllReady.nil))
            · refine step_load_el (x := (fun t => L (s1 t)) (j - 1)) rfl (hd.out.el _ (by omega)) ?_
              refine hK _ _ ?_
              clear hK K
              simp only [Act.put, List.setIfInBounds_toArray, List.set_cons_succ, List.set_cons_zero]
              refine wpAny_ready (rs := [13]) (by decide +kernel) (by simp) (AllReady.cons (o := ⟨some 50, .load 31 (.tmp 49), _, _, _, none⟩) rfl (fun K hK => ?_) AllReady.nil)
              refine step_load_el (x := (fun t => L (s1 t)) (j)) rfl (hd.out.el _ (by omega)) ?_
              refine hK _ _ ?_
              clear hK K
              simp only [Act.put, List.setIfInBounds_toArray, List.set_cons_succ, List.set_cons_zero]
              refine wpAny_take (i := 14) (oi := ⟨some 51, .indexAddr 34 (.tmp 37) (.tmp 38), _, _, _, none⟩) (v := .pointer (some ⟨g, (j) * 26, none⟩)) rfl (by decide +kernel) (by decide +kernel) (by decide +kernel) (fun _ _ _ h => h) (.inl ⟨rfl, fun w => run_ix (i := j) rfl rfl (by omega) _ _ _ _ _ _⟩) ?_
              simp only [Act.put, List.setIfInBounds_toArray, List.set_cons_succ, List.set_cons_zero]
              refine wpAny_ready (rs := [15]) (by decide +kernel) (by simp) (AllReady.cons (o := ⟨none, .store 31 (.tmp 51) (.tmp 46), _, _, _, none⟩) rfl (fun K hK => ?_) AllReady.nil)
              refine step_store_el (x := (fun t => L (s1 t)) (j - 1)) rfl rfl (hd.out.thereAt (by omega)) ?_
              intro W1 hW1
              have hd1 := hd.out.put (i := j) (by omega) ((fun t => L (s1 t)) (j - 1))
              rw [hW1] at hd1
              replace hd1 := Lib.hid hd1
              replace hW1 := Lib.hid hW1
              refine hK _ _ ?_
              clear hK K
              refine wpAny_take (i := 16) (oi := ⟨some 52, .indexAddr 34 (.tmp 39) (.tmp 41), _, _, _, none⟩) (v := .pointer (some ⟨g, (j - 1) * 26, none⟩)) rfl (by decide +kernel) (by decide +kernel) (by decide +kernel) (fun _ _ _ h => h) (.inl ⟨rfl, fun w => run_ix (i := j - 1) rfl rfl (by omega) _ _ _ _ _ _⟩) ?_
              simp only [Act.put, List.setIfInBounds_toArray, List.set_cons_succ, List.set_cons_zero]
              refine wpAny_ready (rs := [17]) (by decide +kernel) (by simp) (AllReady.cons (o := ⟨none, .store 31 (.tmp 52) (.tmp 50), _, _, _, none⟩) rfl (fun K hK => ?_) AllReady.nil)
              refine step_store_el (x := (fun t => L (s1 t)) (j)) rfl rfl (hd1.out.thereAt (by omega)) ?_
              intro W2 hW2
              replace hW2 := Lib.hid hW2
              refine hK _ _ ?_
              clear hK K
              refine wpAny_done (by decide +kernel) ?_ _
              go_wp2
              have hS := hd.out.swap (i := j) (j := j - 1) (by omega) (by omega)
              rw [← comp_swf] at hS
              have hT2 := ((hT.out.drew).trans' (turns_setCells _ g (opL (L (s1 (j - 1)))) (j * 26))).trans' (turns_setCells _ g (opL (L (s1 j))) ((j - 1) * 26))
              try dsimp only at hS
              have e1 := hW1.out; have e2 := hW2.out; try dsimp only at e1 e2
              rw [e1, e2] at hS hT2
              exact ⟨⟨j - 1, _, by omega, by omega, by congr 1; omega, hS, hT2, Lib.hid ⟨hP.out.1.swap (by omega) (by omega) (by omega) (by omega), hP.out.2.step (by omega) hja hneg2.out⟩⟩, by simp [intOf]; omega⟩
            · refine step_load_el (x := (fun t => L (s1 t)) (j)) rfl (hd.out.el _ (by omega)) ?_
              refine hK _ _ ?_
              clear hK K
              simp only [Act.put, List.setIfInBounds_toArray, List.set_cons_succ, List.set_cons_zero]
              refine wpAny_ready (rs := [9]) (by decide +kernel) (by simp) (AllReady.cons (o := ⟨some 46, .load 31 (.tmp 45), _, _, _, none⟩) rfl (fun K hK => ?_) AllReady.nil)
              refine step_load_el (x := (fun t => L (s1 t)) (j - 1)) rfl (hd.out.el _ (by omega)) ?_
              refine hK _ _ ?_
              clear hK K
              simp only [Act.put, List.setIfInBounds_toArray, List.set_cons_succ, List.set_cons_zero]
              refine wpAny_take (i := 14) (oi := ⟨some 51, .indexAddr 34 (.tmp 37) (.tmp 38), _, _, _, none⟩) (v := .pointer (some ⟨g, (j) * 26, none⟩)) rfl (by decide +kernel) (by decide +kernel) (by decide +kernel) (fun _ _ _ h => h) (.inl ⟨rfl, fun w => run_ix (i := j) rfl rfl (by omega) _ _ _ _ _ _⟩) ?_
              simp only [Act.put, List.setIfInBounds_toArray, List.set_cons_succ, List.set_cons_zero]
              refine wpAny_ready (rs := [15]) (by decide +kernel) (by simp) (AllReady.cons (o := ⟨none, .store 31 (.tmp 51) (.tmp 46), _, _, _, none⟩) rfl (fun K hK => ?_) AllReady.nil)
              refine step_store_el (x := (fun t => L (s1 t)) (j - 1)) rfl rfl (hd.out.thereAt (by omega)) ?_
              intro W1 hW1
              have hd1 := hd.out.put (i := j) (by omega) ((fun t => L (s1 t)) (j - 1))
              rw [hW1] at hd1
              replace hd1 := Lib.hid hd1
              replace hW1 := Lib.hid hW1
              refine hK _ _ ?_
              clear hK K
              refine wpAny_take (i := 16) (oi := ⟨some 52, .indexAddr 34 (.tmp 39) (.tmp 41), _, _, _, none⟩) (v := .pointer (some ⟨g, (j - 1) * 26, none⟩)) rfl (by decide +kernel) (by decide +kernel) (by decide +kernel) (fun _ _ _ h => h) (.inl ⟨rfl, fun w => run_ix (i := j - 1) rfl rfl (by omega) _ _ _ _ _ _⟩) ?_
              simp only [Act.put, List.setIfInBounds_toArray, List.set_cons_succ, List.set_cons_zero]
              refine wpAny_ready (rs := [17]) (by decide +kernel) (by simp) (AllReady.cons (o := ⟨none, .store 31 (.tmp 52) (.tmp 50), _, _, _, none⟩) rfl (fun K hK => ?_) AllReady.nil)
              refine step_store_el (x := (fun t => L (s1 t)) (j)) rfl rfl (hd1.out.thereAt (by omega)) ?_
              intro W2 hW2
              replace hW2 := Lib.hid hW2
              refine hK _ _ ?_
              clear hK K
              refine wpAny_done (by decide +kernel) ?_ _
              go_wp2
              have hS := hd.out.swap (i := j) (j := j - 1) (by omega) (by omega)
              rw [← comp_swf] at hS
              have hT2 := ((hT.out.drew).trans' (turns_setCells _ g (opL (L (s1 (j - 1)))) (j * 26))).trans' (turns_setCells _ g (opL (L (s1 j))) ((j - 1) * 26))
              try dsimp only at hS
              have e1 := hW1.out; have e2 := hW2.out; try dsimp only at e1 e2
              rw [e1, e2] at hS hT2
              exact ⟨⟨j - 1, _, by omega, by omega, by congr 1; omega, hS, hT2, Lib.hid ⟨hP.out.1.swap (by omega) (by omega) (by omega) (by omega), hP.out.2.step (by omega) hja hneg2.out⟩⟩, by simp [intOf]; omega⟩
          · have hneg2 := Lib.hid (show ¬ cmpL L (s1 j) (s1 (j - 1)) < 0 by unfold cmpL; rw [hcc.out]; exact hneg)
            go_wp2_with fail
            refine wp_region_quiet_below (by kernel_rfl) (by kernel_rfl) ?_
            repeat (first
              | (go_big_quiet_want; refine quiet_load_el _ rfl rfl hlt0.out (hel0.out) ?_; simp only [Act.put, List.setIfInBounds_toArray, List.set_cons_succ, List.set_cons_zero]; go_big_quiet_on)
              | (go_big_quiet_want; refine quiet_load_el _ rfl rfl hlt0.out (hel1.out) ?_; simp only [Act.put, List.setIfInBounds_toArray, List.set_cons_succ, List.set_cons_zero]; go_big_quiet_on)
              | go_big_quiet_step (first | (go_at_call 36; exact Calls.ret_regrown (hC.out _))))
            refine wpQuiet_nil ?_
            intro W9 hw9
            have hB9 := (show Below _ _ W9 by obtain ⟨⟨dq, osq⟩, rfl⟩ := hw9; exact below_regrown _ dq osq)
            replace hK0 := Lib.hid (hK0.after hB9)
            replace hT := Lib.hid (hT.call hB9)
            clear hB9 hw9 hlt0 hel0 hel1
            go_wp2_with fail
            go_wp2
            exact ⟨⟨k + 1, s1, by omega, .inl (by omega), by go_num, hK0.out, hT.out, Lib.hid ⟨hP.out.1.mono (by omega) (by omega), hP.out.2.done (by omega) fun _ => by have := hneg2.out; omega⟩⟩, by simp [intOf]; omega⟩
        · have hja4 : ¬ (a : Int) < (j : Int) := by omega
          have hlt0 := 0
          have hel0 := 0
          have hel1 := 0
          go_wp2_with fail
          refine wp_region_quiet_below (by kernel_rfl) (by kernel_rfl) ?_
          repeat (first
            | (go_big_quiet_want; refine quiet_load_el _ rfl rfl hlt0.out (hel0.out) ?_; simp only [Act.put, List.setIfInBounds_toArray, List.set_cons_succ, List.set_cons_zero]; go_big_quiet_on)
            | (go_big_quiet_want; refine quiet_load_el _ rfl rfl hlt0.out (hel1.out) ?_; simp only [Act.put, List.setIfInBounds_toArray, List.set_cons_succ, List.set_cons_zero]; go_big_quiet_on)
            | go_big_quiet_step (first | (go_at_call 36; exact Calls.ret_regrown (hC.out _))))
          refine wpQuiet_nil ?_
          intro W9 hw9
          have hB9 := (show Below _ _ W9 by obtain ⟨⟨dq, osq⟩, rfl⟩ := hw9; exact below_regrown _ dq osq)
          replace hK0 := Lib.hid (hK0.after hB9)
          replace hT := Lib.hid (hT.call hB9)
          clear hB9 hw9 hlt0 hel0 hel1
          go_wp2_with fail
          go_wp2
          exact ⟨⟨k + 1, s1, by omega, .inl (by omega), by go_num, hK0.out, hT.out, Lib.hid ⟨hP.out.1.mono (by omega) (by omega), hP.out.2.done (by omega) fun h => absurd h (by omega)⟩⟩, by simp [intOf]; omega⟩
    · go_wp2
      go_end0
      refine ⟨rfl, s0, hK0, hT, hP.out.1.mono (by omega) (by omega), hP.out.2.mono (by omega) (by omega)⟩
end Go.Proofs.Yteclkaecjogbjaa
