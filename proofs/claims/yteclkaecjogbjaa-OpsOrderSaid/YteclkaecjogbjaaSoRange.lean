/-
  Two runs of elements exchanged.
-/
import Derived.Test.YteclkaecjogbjaaSoStep
namespace Go.Proofs.Yteclkaecjogbjaa
open Go.RowKit Go.Sort

/-- k elements from a on and as many from b on, exchanged. -/
def swR (s : Nat → Nat) (a b k : Nat) : Nat → Nat := fun t => if a ≤ t ∧ t < a + k then s (t - a + b) else if b ≤ t ∧ t < b + k then s (t - b + a) else s t
theorem swR_zero (s : Nat → Nat) (a b : Nat) : swR s a b 0 = s := by
  funext t; unfold swR; rw [if_neg (by omega), if_neg (by omega)]
theorem swR_succ (s : Nat → Nat) {a b k : Nat} (h : a + (k + 1) ≤ b) : swf (swR s a b k) (a + k) (b + k) = swR s a b (k + 1) := by
  funext t
  unfold swf swR
  by_cases h1 : t = b + k
  · subst h1
    rw [if_pos rfl, if_neg (by omega), if_neg (by omega), if_neg (by omega), if_pos (by omega)]
    congr 1; omega
  · rw [if_neg h1]
    by_cases h2 : t = a + k
    · subst h2
      rw [if_pos rfl, if_neg (by omega), if_neg (by omega), if_pos (by omega)]
      congr 1; omega
    · rw [if_neg h2]
      by_cases h3 : a ≤ t ∧ t < a + k
      · rw [if_pos h3, if_pos (by omega)]
      · rw [if_neg h3]
        by_cases h4 : b ≤ t ∧ t < b + k
        · rw [if_pos h4, if_neg (by omega), if_pos (by omega)]
        · rw [if_neg h4, if_neg (by omega), if_neg (by omega)]

/-- What comes of a number of exchanges within lo to hi - 1. -/
inductive Per (lo hi : Nat) : (Nat → Nat) → (Nat → Nat) → Prop
  | refl (s : Nat → Nat) : Per lo hi s s
  | swap {s s' : Nat → Nat} {i j : Nat} : Per lo hi s s' → lo ≤ i → i < hi → lo ≤ j → j < hi → Per lo hi s (swf s' i j)
theorem Per.trans {lo hi : Nat} {s s' s'' : Nat → Nat} (h : Per lo hi s s') (h' : Per lo hi s' s'') : Per lo hi s s'' := by
  induction h' with
  | refl => exact h
  | swap _ a b c d ih => exact ih.swap a b c d
theorem Per.mono {lo hi lo' hi' : Nat} {s s' : Nat → Nat} (h : Per lo hi s s') (hl : lo' ≤ lo) (hh : hi ≤ hi') : Per lo' hi' s s' := by
  induction h with
  | refl => exact .refl _
  | swap _ a b c d ih => exact ih.swap (by omega) (by omega) (by omega) (by omega)
theorem Per.out {lo hi : Nat} {s s' : Nat → Nat} (h : Per lo hi s s') {t : Nat} (ht : t < lo ∨ hi ≤ t) : s' t = s t := by
  induction h with
  | refl => rfl
  | swap _ a b c d ih => unfold swf; rw [if_neg (by omega), if_neg (by omega)]; exact ih
theorem Per.mem {lo hi : Nat} {s s' : Nat → Nat} (h : Per lo hi s s') : ∀ {t : Nat}, lo ≤ t → t < hi → ∃ u, lo ≤ u ∧ u < hi ∧ s' t = s u := by
  induction h with
  | refl => exact fun {t} a b => ⟨t, a, b, rfl⟩
  | @swap s' i j _ a b c d ih =>
    intro t h1 h2
    unfold swf
    by_cases e : t = j
    · rw [if_pos e]; exact ih a b
    · rw [if_neg e]
      by_cases e' : t = i
      · rw [if_pos e']; exact ih c d
      · rw [if_neg e']; exact ih h1 h2
theorem comp_swf (L : Nat → OpV) (s : Nat → Nat) (i j : Nat) : (fun t => L (swf s i j t)) = swf (fun t => L (s t)) i j := by
  funext t; unfold swf; split
  · rfl
  · split <;> rfl

set_option maxRecDepth 100000 in
set_option maxHeartbeats 8000000 in
theorem swapRange_any (L : Nat → OpV) (s : Nat → Nat) (g n cap a b m : Nat) (c : Value) (hab : a + m ≤ b) (hb : b + m ≤ n) (hn : n ≤ 1000) (w : World) (hH : Hold w g n fun t => L (s t)) :
    Calls Try.prog 62 #[.slice (some ⟨g, 0, none⟩) n cap, .int .i64 (a : Nat), .int .i64 (b : Nat), .int .i64 (m : Nat), c] w fun e w' => e = .returned (.tuple #[]) ∧ Hold w' g n (fun t => L (swR s a b m t)) ∧ Turns [g] w w' ∧ Per a (b + m) s (swR s a b m) := by
  go_enter Try.func62, Try.ntmps62
  go_wp2
  have hH := Lib.hid hH
  go_loopw [10] (fun i wr => ∃ k : Nat, k ≤ m ∧ i = .int .i64 k ∧ Hold wr g n (fun t => L (swR s a b k t)) ∧ Turns [g] w wr ∧ Per a (b + m) s (swR s a b k)) (fun i _ => m - (intOf i).toNat)
  case atStart => exact ⟨0, by omega, rfl, by rw [swR_zero]; exact hH.out, Turns.refl _ _, by rw [swR_zero]; exact .refl _⟩
  case round =>
    clear hH
    obtain ⟨k, hk, rfl, hK0, hT, hP⟩ := hrel
    by_cases hlt : k < m
    · have hk4 : (k : Int) < (m : Int) := by omega
      have hK0 := Lib.hid hK0
      have hT := Lib.hid hT
      have hP := Lib.hid hP
      have hsw := Lib.hid (swR_succ s (a := a) (b := b) (k := k) (by omega))
      go_wp2_with fail
      replace hK0 := hK0.out
      refine wp_region_any (by kernel_rfl) ?_
      change wpAny _ _ _ _ _ _ _ (World.drew _)
      have hd := Lib.hid hK0.drew
      refine wpAny_take (i := 0) (oi := ⟨some 16, .move (.tmp 0), _, _, _, none⟩) (v := .slice (some ⟨g, 0, none⟩) n cap) rfl (by decide +kernel) (by decide +kernel) (by decide +kernel) (fun _ _ _ h => h) (.inl ⟨rfl, fun w => rfl⟩) ?_
      simp only [Act.put, List.setIfInBounds_toArray, List.set_cons_succ, List.set_cons_zero]
      refine wpAny_take (i := 1) (oi := ⟨some 17, .move (.tmp 1), _, _, _, none⟩) (v := .int .i64 ((a : Nat) : Int)) rfl (by decide +kernel) (by decide +kernel) (by decide +kernel) (fun _ _ _ h => h) (.inl ⟨rfl, fun w => rfl⟩) ?_
      simp only [Act.put, List.setIfInBounds_toArray, List.set_cons_succ, List.set_cons_zero]
      refine wpAny_take (i := 2) (oi := ⟨some 18, .move (.tmp 10), _, _, _, none⟩) (v := .int .i64 ((k : Nat) : Int)) rfl (by decide +kernel) (by decide +kernel) (by decide +kernel) (fun _ _ _ h => h) (.inl ⟨rfl, fun w => rfl⟩) ?_
      simp only [Act.put, List.setIfInBounds_toArray, List.set_cons_succ, List.set_cons_zero]
      refine wpAny_take (i := 3) (oi := ⟨some 19, .binOp .add 3 (.tmp 17) (.tmp 18) 3, _, _, _, none⟩) (v := .int .i64 ((a + k : Nat) : Int)) rfl (by decide +kernel) (by decide +kernel) (by decide +kernel) (fun _ _ _ h => h) (.inl ⟨rfl, fun w => run_addI _ rfl rfl (by omega) (by omega) (by omega) _ _ _ _ _ _⟩) ?_
      simp only [Act.put, List.setIfInBounds_toArray, List.set_cons_succ, List.set_cons_zero]
      refine wpAny_take (i := 4) (oi := ⟨some 20, .move (.tmp 0), _, _, _, none⟩) (v := .slice (some ⟨g, 0, none⟩) n cap) rfl (by decide +kernel) (by decide +kernel) (by decide +kernel) (fun _ _ _ h => h) (.inl ⟨rfl, fun w => rfl⟩) ?_
      simp only [Act.put, List.setIfInBounds_toArray, List.set_cons_succ, List.set_cons_zero]
      refine wpAny_take (i := 5) (oi := ⟨some 21, .move (.tmp 2), _, _, _, none⟩) (v := .int .i64 ((b : Nat) : Int)) rfl (by decide +kernel) (by decide +kernel) (by decide +kernel) (fun _ _ _ h => h) (.inl ⟨rfl, fun w => rfl⟩) ?_
      simp only [Act.put, List.setIfInBounds_toArray, List.set_cons_succ, List.set_cons_zero]
      refine wpAny_take (i := 6) (oi := ⟨some 22, .move (.tmp 10), _, _, _, none⟩) (v := .int .i64 ((k : Nat) : Int)) rfl (by decide +kernel) (by decide +kernel) (by decide +kernel) (fun _ _ _ h => h) (.inl ⟨rfl, fun w => rfl⟩) ?_
      simp only [Act.put, List.setIfInBounds_toArray, List.set_cons_succ, List.set_cons_zero]
      refine wpAny_take (i := 7) (oi := ⟨some 23, .binOp .add 3 (.tmp 21) (.tmp 22) 3, _, _, _, none⟩) (v := .int .i64 ((b + k : Nat) : Int)) rfl (by decide +kernel) (by decide +kernel) (by decide +kernel) (fun _ _ _ h => h) (.inl ⟨rfl, fun w => run_addI _ rfl rfl (by omega) (by omega) (by omega) _ _ _ _ _ _⟩) ?_
      simp only [Act.put, List.setIfInBounds_toArray, List.set_cons_succ, List.set_cons_zero]
      refine wpAny_take (i := 8) (oi := ⟨some 24, .move (.tmp 0), _, _, _, none⟩) (v := .slice (some ⟨g, 0, none⟩) n cap) rfl (by decide +kernel) (by decide +kernel) (by decide +kernel) (fun _ _ _ h => h) (.inl ⟨rfl, fun w => rfl⟩) ?_
      simp only [Act.put, List.setIfInBounds_toArray, List.set_cons_succ, List.set_cons_zero]
      refine wpAny_take (i := 9) (oi := ⟨some 25, .move (.tmp 2), _, _, _, none⟩) (v := .int .i64 ((b : Nat) : Int)) rfl (by decide +kernel) (by decide +kernel) (by decide +kernel) (fun _ _ _ h => h) (.inl ⟨rfl, fun w => rfl⟩) ?_
      simp only [Act.put, List.setIfInBounds_toArray, List.set_cons_succ, List.set_cons_zero]
      refine wpAny_take (i := 10) (oi := ⟨some 26, .move (.tmp 10), _, _, _, none⟩) (v := .int .i64 ((k : Nat) : Int)) rfl (by decide +kernel) (by decide +kernel) (by decide +kernel) (fun _ _ _ h => h) (.inl ⟨rfl, fun w => rfl⟩) ?_
      simp only [Act.put, List.setIfInBounds_toArray, List.set_cons_succ, List.set_cons_zero]
      refine wpAny_take (i := 11) (oi := ⟨some 27, .binOp .add 3 (.tmp 25) (.tmp 26) 3, _, _, _, none⟩) (v := .int .i64 ((b + k : Nat) : Int)) rfl (by decide +kernel) (by decide +kernel) (by decide +kernel) (fun _ _ _ h => h) (.inl ⟨rfl, fun w => run_addI _ rfl rfl (by omega) (by omega) (by omega) _ _ _ _ _ _⟩) ?_
      simp only [Act.put, List.setIfInBounds_toArray, List.set_cons_succ, List.set_cons_zero]
      refine wpAny_take (i := 12) (oi := ⟨some 28, .indexAddr 34 (.tmp 24) (.tmp 27), _, _, _, none⟩) (v := .pointer (some ⟨g, (b + k) * 26, none⟩)) rfl (by decide +kernel) (by decide +kernel) (by decide +kernel) (fun _ _ _ h => h) (.inl ⟨rfl, fun w => run_ix (i := b + k) rfl rfl (by omega) _ _ _ _ _ _⟩) ?_
      simp only [Act.put, List.setIfInBounds_toArray, List.set_cons_succ, List.set_cons_zero]
      refine wpAny_take (i := 14) (oi := ⟨some 30, .move (.tmp 0), _, _, _, none⟩) (v := .slice (some ⟨g, 0, none⟩) n cap) rfl (by decide +kernel) (by decide +kernel) (by decide +kernel) (fun _ _ _ h => h) (.inl ⟨rfl, fun w => rfl⟩) ?_
      simp only [Act.put, List.setIfInBounds_toArray, List.set_cons_succ, List.set_cons_zero]
      refine wpAny_take (i := 15) (oi := ⟨some 31, .move (.tmp 1), _, _, _, none⟩) (v := .int .i64 ((a : Nat) : Int)) rfl (by decide +kernel) (by decide +kernel) (by decide +kernel) (fun _ _ _ h => h) (.inl ⟨rfl, fun w => rfl⟩) ?_
      simp only [Act.put, List.setIfInBounds_toArray, List.set_cons_succ, List.set_cons_zero]
      refine wpAny_take (i := 16) (oi := ⟨some 32, .move (.tmp 10), _, _, _, none⟩) (v := .int .i64 ((k : Nat) : Int)) rfl (by decide +kernel) (by decide +kernel) (by decide +kernel) (fun _ _ _ h => h) (.inl ⟨rfl, fun w => rfl⟩) ?_
      simp only [Act.put, List.setIfInBounds_toArray, List.set_cons_succ, List.set_cons_zero]
      refine wpAny_take (i := 17) (oi := ⟨some 33, .binOp .add 3 (.tmp 31) (.tmp 32) 3, _, _, _, none⟩) (v := .int .i64 ((a + k : Nat) : Int)) rfl (by decide +kernel) (by decide +kernel) (by decide +kernel) (fun _ _ _ h => h) (.inl ⟨rfl, fun w => run_addI _ rfl rfl (by omega) (by omega) (by omega) _ _ _ _ _ _⟩) ?_
      simp only [Act.put, List.setIfInBounds_toArray, List.set_cons_succ, List.set_cons_zero]
      refine wpAny_take (i := 18) (oi := ⟨some 34, .indexAddr 34 (.tmp 30) (.tmp 33), _, _, _, none⟩) (v := .pointer (some ⟨g, (a + k) * 26, none⟩)) rfl (by decide +kernel) (by decide +kernel) (by decide +kernel) (fun _ _ _ h => h) (.inl ⟨rfl, fun w => run_ix (i := a + k) rfl rfl (by omega) _ _ _ _ _ _⟩) ?_
      simp only [Act.put, List.setIfInBounds_toArray, List.set_cons_succ, List.set_cons_zero]
      refine wpAny_ready (rs := [13, 19]) (by decide +kernel) (by simp) (AllReady.cons (o := ⟨some 29, .load 31 (.tmp 28), _, _, _, none⟩) rfl (fun K hK => ?_) (AllReady.cons (o := ⟨some 35, .load 31 (.tmp 34), _, _, _, none⟩) rfl (fun K hK => ?_) AllReady.nil))
      · refine step_load_el (x := (fun t => L (swR s a b k t)) (b + k)) rfl (hd.out.el _ (by omega)) ?_
        refine hK _ _ ?_
        clear hK K
        simp only [Act.put, List.setIfInBounds_toArray, List.set_cons_succ, List.set_cons_zero]
        refine wpAny_ready (rs := [19]) (by decide +kernel) (by simp) (AllReady.cons (o := ⟨some 35, .load 31 (.tmp 34), _, _, _, none⟩) rfl (fun K hK => ?_) AllReady.nil)
        refine step_load_el (x := (fun t => L (swR s a b k t)) (a + k)) rfl (hd.out.el _ (by omega)) ?_
        refine hK _ _ ?_
        clear hK K
        simp only [Act.put, List.setIfInBounds_toArray, List.set_cons_succ, List.set_cons_zero]
        refine wpAny_take (i := 20) (oi := ⟨some 36, .indexAddr 34 (.tmp 16) (.tmp 19), _, _, _, none⟩) (v := .pointer (some ⟨g, (a + k) * 26, none⟩)) rfl (by decide +kernel) (by decide +kernel) (by decide +kernel) (fun _ _ _ h => h) (.inl ⟨rfl, fun w => run_ix (i := a + k) rfl rfl (by omega) _ _ _ _ _ _⟩) ?_
        simp only [Act.put, List.setIfInBounds_toArray, List.set_cons_succ, List.set_cons_zero]
        refine wpAny_ready (rs := [21]) (by decide +kernel) (by simp) (AllReady.cons (o := ⟨none, .store 31 (.tmp 36) (.tmp 29), _, _, _, none⟩) rfl (fun K hK => ?_) AllReady.nil)
        refine step_store_el (x := (fun t => L (swR s a b k t)) (b + k)) rfl rfl (hd.out.thereAt (by omega)) ?_
        intro W1 hW1
        have hd1 := hd.out.put (i := a + k) (by omega) ((fun t => L (swR s a b k t)) (b + k))
        rw [hW1] at hd1
        replace hd1 := Lib.hid hd1
        replace hW1 := Lib.hid hW1
        refine hK _ _ ?_
        clear hK K
        refine wpAny_take (i := 22) (oi := ⟨some 37, .indexAddr 34 (.tmp 20) (.tmp 23), _, _, _, none⟩) (v := .pointer (some ⟨g, (b + k) * 26, none⟩)) rfl (by decide +kernel) (by decide +kernel) (by decide +kernel) (fun _ _ _ h => h) (.inl ⟨rfl, fun w => run_ix (i := b + k) rfl rfl (by omega) _ _ _ _ _ _⟩) ?_
        simp only [Act.put, List.setIfInBounds_toArray, List.set_cons_succ, List.set_cons_zero]
        refine wpAny_ready (rs := [23]) (by decide +kernel) (by simp) (AllReady.cons (o := ⟨none, .store 31 (.tmp 37) (.tmp 35), _, _, _, none⟩) rfl (fun K hK => ?_) AllReady.nil)
        refine step_store_el (x := (fun t => L (swR s a b k t)) (a + k)) rfl rfl (hd1.out.thereAt (by omega)) ?_
        intro W2 hW2
        replace hW2 := Lib.hid hW2
        refine hK _ _ ?_
        clear hK K
        refine wpAny_done (by decide +kernel) ?_ _
        go_wp2
        have hS := hd.out.swap (i := a + k) (j := b + k) (by omega) (by omega)
        rw [← comp_swf, hsw.out] at hS
        have hT2 := ((hT.out.drew).trans' (turns_setCells _ g (opL (L (swR s a b k (b + k)))) ((a + k) * 26))).trans' (turns_setCells _ g (opL (L (swR s a b k (a + k)))) ((b + k) * 26))
        try dsimp only at hS
        have e1 := hW1.out; have e2 := hW2.out; try dsimp only at e1 e2
        rw [e1, e2] at hS hT2
        exact ⟨⟨k + 1, by omega, by go_num, hS, hT2, by rw [← hsw.out]; exact hP.out.swap (by omega) (by omega) (by omega) (by omega)⟩, by simp [intOf]; omega⟩
      · refine step_load_el (x := (fun t => L (swR s a b k t)) (a + k)) rfl (hd.out.el _ (by omega)) ?_
        refine hK _ _ ?_
        clear hK K
        simp only [Act.put, List.setIfInBounds_toArray, List.set_cons_succ, List.set_cons_zero]
        refine wpAny_ready (rs := [13]) (by decide +kernel) (by simp) (AllReady.cons (o := ⟨some 29, .load 31 (.tmp 28), _, _, _, none⟩) rfl (fun K hK => ?_) AllReady.nil)
        refine step_load_el (x := (fun t => L (swR s a b k t)) (b + k)) rfl (hd.out.el _ (by omega)) ?_
        refine hK _ _ ?_
        clear hK K
        simp only [Act.put, List.setIfInBounds_toArray, List.set_cons_succ, List.set_cons_zero]
        refine wpAny_take (i := 20) (oi := ⟨some 36, .indexAddr 34 (.tmp 16) (.tmp 19), _, _, _, none⟩) (v := .pointer (some ⟨g, (a + k) * 26, none⟩)) rfl (by decide +kernel) (by decide +kernel) (by decide +kernel) (fun _ _ _ h => h) (.inl ⟨rfl, fun w => run_ix (i := a + k) rfl rfl (by omega) _ _ _ _ _ _⟩) ?_
        simp only [Act.put, List.setIfInBounds_toArray, List.set_cons_succ, List.set_cons_zero]
        refine wpAny_ready (rs := [21]) (by decide +kernel) (by simp) (AllReady.cons (o := ⟨none, .store 31 (.tmp 36) (.tmp 29), _, _, _, none⟩) rfl (fun K hK => ?_) AllReady.nil)
        refine step_store_el (x := (fun t => L (swR s a b k t)) (b + k)) rfl rfl (hd.out.thereAt (by omega)) ?_
        intro W1 hW1
        have hd1 := hd.out.put (i := a + k) (by omega) ((fun t => L (swR s a b k t)) (b + k))
        rw [hW1] at hd1
        replace hd1 := Lib.hid hd1
        replace hW1 := Lib.hid hW1
        refine hK _ _ ?_
        clear hK K
        refine wpAny_take (i := 22) (oi := ⟨some 37, .indexAddr 34 (.tmp 20) (.tmp 23), _, _, _, none⟩) (v := .pointer (some ⟨g, (b + k) * 26, none⟩)) rfl (by decide +kernel) (by decide +kernel) (by decide +kernel) (fun _ _ _ h => h) (.inl ⟨rfl, fun w => run_ix (i := b + k) rfl rfl (by omega) _ _ _ _ _ _⟩) ?_
        simp only [Act.put, List.setIfInBounds_toArray, List.set_cons_succ, List.set_cons_zero]
        refine wpAny_ready (rs := [23]) (by decide +kernel) (by simp) (AllReady.cons (o := ⟨none, .store 31 (.tmp 37) (.tmp 35), _, _, _, none⟩) rfl (fun K hK => ?_) AllReady.nil)
        refine step_store_el (x := (fun t => L (swR s a b k t)) (a + k)) rfl rfl (hd1.out.thereAt (by omega)) ?_
        intro W2 hW2
        replace hW2 := Lib.hid hW2
        refine hK _ _ ?_
        clear hK K
        refine wpAny_done (by decide +kernel) ?_ _
        go_wp2
        have hS := hd.out.swap (i := a + k) (j := b + k) (by omega) (by omega)
        rw [← comp_swf, hsw.out] at hS
        have hT2 := ((hT.out.drew).trans' (turns_setCells _ g (opL (L (swR s a b k (b + k)))) ((a + k) * 26))).trans' (turns_setCells _ g (opL (L (swR s a b k (a + k)))) ((b + k) * 26))
        try dsimp only at hS
        have e1 := hW1.out; have e2 := hW2.out; try dsimp only at e1 e2
        rw [e1, e2] at hS hT2
        exact ⟨⟨k + 1, by omega, by go_num, hS, hT2, by rw [← hsw.out]; exact hP.out.swap (by omega) (by omega) (by omega) (by omega)⟩, by simp [intOf]; omega⟩
    · obtain rfl : k = m := by omega
      go_wp2
      go_end0
      exact ⟨rfl, hK0, hT, hP⟩
end Go.Proofs.Yteclkaecjogbjaa
