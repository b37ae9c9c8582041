/-
  Numbers put into columns: the second closure, and the function that hands it numbers.
-/
import Derived.Test.YthpgfnhecfgiaaaGreatDoorBaCols
import Derived.Test.YthpgfnhecfgiaaaGreatDoorBaNumsPut
import Derived.Test.YthpgfnhecfgiaaaGreatDoorBaBytes
import Derived.Test.YthpgfnhecfgiaaaGreatDoorMBase
import Derived.OrdersHeld
import Derived.Deep.RegionHeld
namespace Go.Proofs.YthpgfnhecfgiaaaGreatDoor
open Go.RowKit Go.Sort
set_option maxRecDepth 20000

/-- append of one row onto a row of the call's own, as a step of a region that draws; where it lies then. -/
theorem step_append_lies {P : Program} {t e : TypeId} {z : Value} {bytes base : Nat} {w : World} {v : Value} {xs : List Value} (E : Elem P t e z bytes) {ops : Array Oper} {o : Oper} {a : Act} {K : Act → World → Prop} {Q : Exit → Act → World → Prop} {D : Prop} (hgd : o.guard = none) (sv sx : Operand)
    (ho : o.op = .call { callee := .builtin .append, args := #[sv, sx], argTypes := #[t, t] }) {M : List Value} {ad : Addr} {m c : Nat}
    (hs : a.eval sv = v) (hown : OwnRow w base e v xs) (hx : a.eval sx = .slice (some ad) m c) (hr : RowAt w (.slice (some ad) m c) M) (h1 : ∀ u ∈ M, u.oneCell' = true) (hle : (xs.length + M.length) * 8 ≤ 140737488355328) (hbase : base ≤ w.heap.size)
    (h : ∀ A m' c' w', OwnRow w' base e (.slice A m' c') (xs ++ M) → Turns v.ownBlock.toList w w' → ((Value.slice A m' c').ownBlock = v.ownBlock ∨ (Value.slice A m' c').ownBlock = some w.heap.size) → K (a.put o.dst (.slice A m' c')) w') : if Region.wanted o (yielded ops a.tmps) = true then Oper.wp P o a w K Q else D := by
  have hw : Region.wanted o (yielded ops a.tmps) = true := by simp [Region.wanted, hgd]
  rw [if_pos hw]
  obtain ⟨i0, hi0, hz0, hz1, hz2⟩ := info_parts E.hi
  obtain ⟨A, c', he, hmc, hcm, hc, _⟩ := hr
  injection he with he1 he2 he3
  subst he1 he2 he3
  have hb8 : (xs.length + M.length) * bytes ≤ 140737488355328 := Nat.le_trans (Nat.mul_le_mul_left _ E.hb) hle
  obtain ⟨v', w', hr', h2, h3, _, h5⟩ := run_append_own_at (P := P) w base t o.type e i0 z 1 bytes E.ht hi0 hz0 hz1 hz2 E.hz (by decide) v xs.length xs hown ad M.length c M (by simp) (fun j u hu => by
    have hj : j < M.length := (List.getElem?_eq_some_iff.1 hu).1
    obtain ⟨b, off, he, _, hcell⟩ := hc (by omega)
    injection he with he
    subst he
    rw [addr_at]
    exact hcell j u hu) h1 (by unfold maxLen; omega) hb8 hbase
  have h2' : OwnRow w' base e v' (xs ++ M) := by simpa [OwnRow] using h2
  obtain ⟨A', c'', hv', _⟩ := h2'.row
  subst hv'
  unfold Oper.wp execOp
  simp only [ho, resolve, invoke, builtin, Sem.run_bind, Sem.run_pure, Result.andThen_ok, List.map_toArray, List.map_cons, List.map_nil, hs, hx, hr']
  exact h _ _ _ w' h2' (Turns.of_grown h3 (fun q hq => .inl (by rw [hq]; simp))) h5

set_option maxHeartbeats 4000000 in
theorem putOne_any {base g cp ap p off cap : Nat} {k : Nat} {x f : Int} {vk : Value} {lk : List Int} {cs : Array Value} {W : World} (hcp : W.heap[cp]? = some (.cells #[.slice (some ⟨g, 0, none⟩) 21 cap] 89))
    (hap : W.heap[ap]? = some (.cells #[.int .i64 (k : Nat)] 3)) (hp : W.cell? ⟨p, off, none⟩ = some (.int .i64 x)) (hg : W.heap[g]? = some (.cells cs 96)) (hgk : cs[k * 2 + 1]? = some vk)
    (ho : OwnRow W base 3 vk (ints lk)) (hk : k < 21) (hb : base ≤ W.heap.size) (hlen : lk.length ≤ 1000) (hcg : cp ≠ g) (hga : g ≠ ap) (hpg : p ≠ g)
    (hvc : vk.ownBlock ≠ some cp) (hvg : vk.ownBlock ≠ some g) (hva : vk.ownBlock ≠ some ap) (hvp : vk.ownBlock ≠ some p) :
    Calls Tryz.prog 45 #[.int .i64 f, .pointer (some ⟨p, off, none⟩), .pointer (some ⟨cp, 0, none⟩), .pointer (some ⟨ap, 0, none⟩)] W fun e W' => e = .returned (.tuple #[]) ∧ ∃ v', W'.heap[ap]? = some (.cells #[.int .i64 ((k + 1 : Nat) : Int)] 3) ∧
      W'.heap[g]? = some (.cells (cs.set! (k * 2 + 1) v') 96) ∧ OwnRow W' base 3 v' (ints (lk ++ [x])) ∧ Turns (g :: ap :: vk.ownBlock.toList) W W' ∧ (v'.ownBlock = vk.ownBlock ∨ ∃ b, v'.ownBlock = some b ∧ W.heap.size ≤ b) := by
  have c0 : W.cell? ⟨cp, 0, none⟩ = some (.slice (some ⟨g, 0, none⟩) 21 cap) := cell_held hcp rfl
  have a0 : W.cell? ⟨ap, 0, none⟩ = some (.int .i64 (k : Nat)) := cell_held hap rfl
  have x0 := hp
  have g0 : W.cell? ⟨g, k * 2 + 1, none⟩ = some vk := cell_held hg hgk
  have hix : ∀ X, (Instr.indexAt 89 (.slice (some ⟨g, 0, none⟩) 21 cap) (.int .i64 (k : Int))).run Tryz.prog X = .ok (.pointer (some ⟨g, k * 2, none⟩)) X := fun X => by
    have he : Tryz.prog.elem 89 = 96 := by kernel_rfl
    rw [run_indexAt_slice (P := Tryz.prog) X _ _ 21 cap .i64 (k : Int) (by kernel_rfl), if_pos (by omega), he, elemC.hs]
    simp [Result.andThen, addr_at]
  go_enter Tryz.func45, Tryz.ntmps45
  go_wp2_with fail
  refine wp_region_held_drew (S := (fun X => X.cell? ⟨cp, 0, none⟩ = some (.slice (some ⟨g, 0, none⟩) 21 cap) ∧ X.cell? ⟨ap, 0, none⟩ = some (.int .i64 (k : Nat)) ∧ X.cell? ⟨p, off, none⟩ = some (.int .i64 x))) (by kernel_rfl) ⟨c0, a0, x0⟩ (fun hH => ?_)
  refine wpAnyH_take (i := 0) (oi := ⟨some 6, .load 89 (.tmp 2), _, _, _, none⟩) (v := (.slice (some ⟨g, 0, none⟩) 21 cap)) rfl (by decide +kernel) (by decide +kernel) (by decide +kernel) (fun _ _ _ h => h) (.inl ⟨rfl, fun X hX => by have e := hX.1; go_simp⟩) hH ?_
  try simp only [Act.put, List.setIfInBounds_toArray, List.set_cons_succ, List.set_cons_zero]
  refine wpAnyH_take (i := 1) (oi := ⟨some 7, .load 3 (.tmp 3), _, _, _, none⟩) (v := (.int .i64 (k : Nat))) rfl (by decide +kernel) (by decide +kernel) (by decide +kernel) (fun _ _ _ h => h) (.inl ⟨rfl, fun X hX => by have e := hX.2.1; go_simp⟩) hH ?_
  try simp only [Act.put, List.setIfInBounds_toArray, List.set_cons_succ, List.set_cons_zero]
  refine wpAnyH_take (i := 2) (oi := ⟨some 8, .load 89 (.tmp 2), _, _, _, none⟩) (v := (.slice (some ⟨g, 0, none⟩) 21 cap)) rfl (by decide +kernel) (by decide +kernel) (by decide +kernel) (fun _ _ _ h => h) (.inl ⟨rfl, fun X hX => by have e := hX.1; go_simp⟩) hH ?_
  try simp only [Act.put, List.setIfInBounds_toArray, List.set_cons_succ, List.set_cons_zero]
  refine wpAnyH_take (i := 3) (oi := ⟨some 9, .load 3 (.tmp 3), _, _, _, none⟩) (v := (.int .i64 (k : Nat))) rfl (by decide +kernel) (by decide +kernel) (by decide +kernel) (fun _ _ _ h => h) (.inl ⟨rfl, fun X hX => by have e := hX.2.1; go_simp⟩) hH ?_
  try simp only [Act.put, List.setIfInBounds_toArray, List.set_cons_succ, List.set_cons_zero]
  refine wpAnyH_take (i := 4) (oi := ⟨some 10, .indexAddr 89 (.tmp 8) (.tmp 9), _, _, _, none⟩) (v := (.pointer (some ⟨g, k * 2, none⟩))) rfl (by decide +kernel) (by decide +kernel) (by decide +kernel) (fun _ _ _ h => h) (.inl ⟨rfl, fun X hX => by have e := hix; go_simp⟩) hH ?_
  try simp only [Act.put, List.setIfInBounds_toArray, List.set_cons_succ, List.set_cons_zero]
  refine wpAnyH_take (i := 5) (oi := ⟨some 11, .fieldAddr 96 (.tmp 10) 1, _, _, _, none⟩) (v := (.pointer (some ⟨g, k * 2 + 1, none⟩))) rfl (by decide +kernel) (by decide +kernel) (by decide +kernel) (fun _ _ _ h => h) (.inl ⟨rfl, fun X hX => by go_simp⟩) hH ?_
  try simp only [Act.put, List.setIfInBounds_toArray, List.set_cons_succ, List.set_cons_zero]
  refine wpAnyH_take (i := 7) (oi := ⟨some 13, .move (.tmp 1), _, _, _, none⟩) (v := (.pointer (some ⟨p, off, none⟩))) rfl (by decide +kernel) (by decide +kernel) (by decide +kernel) (fun _ _ _ h => h) (.inl ⟨rfl, fun X hX => rfl⟩) hH ?_
  try simp only [Act.put, List.setIfInBounds_toArray, List.set_cons_succ, List.set_cons_zero]
  refine wpAnyH_take (i := 8) (oi := ⟨some 14, .nilCheck (.tmp 13), _, _, _, none⟩) (v := (.pointer (some ⟨p, off, none⟩))) rfl (by decide +kernel) (by decide +kernel) (by decide +kernel) (fun _ _ _ h => h) (.inl ⟨rfl, fun X hX => by go_simp⟩) hH ?_
  try simp only [Act.put, List.setIfInBounds_toArray, List.set_cons_succ, List.set_cons_zero]
  refine wpAnyH_take (i := 9) (oi := ⟨some 15, .load 3 (.tmp 14), _, _, _, none⟩) (v := (.int .i64 x)) rfl (by decide +kernel) (by decide +kernel) (by decide +kernel) (fun _ _ _ h => h) (.inl ⟨rfl, fun X hX => by have e := hX.2.2; go_simp⟩) hH ?_
  try simp only [Act.put, List.setIfInBounds_toArray, List.set_cons_succ, List.set_cons_zero]
  have hbx := below_box1 W.drew (.cells #[.int .i64 x] 3)
  have hcpl : cp < W.heap.size := (Array.getElem?_eq_some_iff.1 hcp).1
  have hapl : ap < W.heap.size := (Array.getElem?_eq_some_iff.1 hap).1
  have hgl : g < W.heap.size := (Array.getElem?_eq_some_iff.1 hg).1
  have hpl : p < W.heap.size := by have := World.block_lt_of_cell? _ _ hp; simpa using this
  have hsW : W.drew.heap.size = W.heap.size := rfl
  have gW : W.drew.cell? ⟨g, k * 2 + 1, none⟩ = some vk := g0
  obtain ⟨W1, hW1⟩ : ∃ W1, W.drew.alloc (.cells #[.int .i64 x] 3) = W1 := ⟨_, rfl⟩
  have rW : RowAt W1 (.slice (some ⟨W.heap.size, 0, none⟩) 1 1) [.int .i64 x] := by rw [← hW1]; exact row_box W.drew _ _
  have oW : OwnRow W1 base 3 vk (ints lk) := by rw [← hW1]; exact ho.drew.alloc _
  have sW : W1.heap.size = W.heap.size + 1 := by rw [← hW1]; simp
  have bW : Below W.heap.size W W1 := by rw [← hW1]; exact (below_drewN (Below.refl _ _) 1).alloc (Nat.le_refl _) _
  have hgW := held_turns hg (Turns.of_below (F := []) bW) (by simp)
  have c1 := (bW.cell (p := ⟨cp, 0, none⟩) hcpl).trans c0
  have a1 := (bW.cell (p := ⟨ap, 0, none⟩) hapl).trans a0
  have x1 := (bW.cell (p := ⟨p, off, none⟩) hpl).trans x0
  have g1 := (bW.cell (p := ⟨g, k * 2 + 1, none⟩) hgl).trans g0
  refine wpAnyH_ready (rs := [6, 10]) (by decide +kernel) (by simp) (AllReadyH.cons (o := ⟨some 12, .load 55 (.tmp 11), _, _, _, none⟩) rfl (fun K hK => ?_) (AllReadyH.cons (o := ⟨some 16, .buildSlice 55 1 #[(0, .tmp 15)], _, _, _, none⟩) rfl (fun K hK => ?_) AllReadyH.nil))
  · go_simp
    refine hK.out _ _ ⟨c0, a0, x0⟩ (fun hH1 => ?_)
    clear hK K
    try simp only [Act.put, List.setIfInBounds_toArray, List.set_cons_succ, List.set_cons_zero]
    refine wpAnyH_ready (rs := [10]) (by decide +kernel) (by simp) (AllReadyH.cons (o := ⟨some 16, .buildSlice 55 1 #[(0, .tmp 15)], _, _, _, none⟩) rfl (fun K hK => ?_) AllReadyH.nil)
    go_simp
    try rw [hW1]
    refine hK.out _ _ ⟨c1, a1, x1⟩ (fun hH2 => ?_)
    clear hK K
    try simp only [Act.put, List.setIfInBounds_toArray, List.set_cons_succ, List.set_cons_zero]
    refine wpAnyH_ready (rs := [11]) (by decide +kernel) (by simp) (AllReadyH.cons (o := ⟨some 17, .call { callee := .builtin .append, args := #[.tmp 12, .tmp 16], argTypes := #[55, 55] }, _, _, _, none⟩) rfl (fun K hK => ?_) AllReadyH.nil)
    refine step_append_lies (v := vk) (xs := ints lk) elemI (by rfl) (.tmp 12) (.tmp 16) (by rfl) (by rfl) oW (by rfl) rW (by intro u hu; simp at hu; subst hu; rfl) (by rw [ints_len]; simp; omega) (by omega) ?_
    intro A2 m2 d2 w2 hown2 ht2 hl2
    have hg2 := held_turns hgW ht2 (notin_own hvg)
    have hap2 : w2.heap[ap]? = some (.cells #[.int .i64 (k : Nat)] 3) := held_turns (held_turns hap (Turns.of_below (F := []) bW) (by simp)) ht2 (notin_own hva)
    have c2 : w2.cell? ⟨cp, 0, none⟩ = _ := (ht2.cell (a := ⟨cp, 0, none⟩) (by show cp < _; omega) (notin_own hvc)).trans c1
    have a2 : w2.cell? ⟨ap, 0, none⟩ = _ := (ht2.cell (a := ⟨ap, 0, none⟩) (by show ap < _; omega) (notin_own hva)).trans a1
    have x2 : w2.cell? ⟨p, off, none⟩ = _ := (ht2.cell (a := ⟨p, off, none⟩) (by show p < _; omega) (notin_own hvp)).trans x1
    have g2 : w2.cell? ⟨g, k * 2 + 1, none⟩ = some vk := (ht2.cell (a := ⟨g, k * 2 + 1, none⟩) (by show g < _; omega) (notin_own hvg)).trans g1
    have gf : w2.frozen? ⟨g, k * 2 + 1, none⟩ = false := frozen_of_row _ _ _ _ _ hg2
    have hT0 : Turns (vk.ownBlock.toList) W w2 := (Turns.of_below bW).trans ht2 (fun b hb => .inl hb)
    have hl2' : (Value.slice A2 m2 d2).ownBlock = vk.ownBlock ∨ ∃ b, (Value.slice A2 m2 d2).ownBlock = some b ∧ W.heap.size ≤ b := hl2.imp id fun h => ⟨_, h, by omega⟩
    clear hl2 ht2 hgW oW rW
    refine hK.out _ _ ⟨c2, a2, x2⟩ (fun hH3 => ?_)
    clear hK K
    try simp only [Act.put, List.setIfInBounds_toArray, List.set_cons_succ, List.set_cons_zero]
    refine wpAnyH_take (i := 12) (oi := ⟨some 18, .indexAddr 89 (.tmp 6) (.tmp 7), _, _, _, none⟩) (v := (.pointer (some ⟨g, k * 2, none⟩))) rfl (by decide +kernel) (by decide +kernel) (by decide +kernel) (fun _ _ _ h => h) (.inl ⟨rfl, fun X hX => by have e := hix; go_simp⟩) hH3 ?_
    try simp only [Act.put, List.setIfInBounds_toArray, List.set_cons_succ, List.set_cons_zero]
    refine wpAnyH_take (i := 13) (oi := ⟨some 19, .fieldAddr 96 (.tmp 18) 1, _, _, _, none⟩) (v := (.pointer (some ⟨g, k * 2 + 1, none⟩))) rfl (by decide +kernel) (by decide +kernel) (by decide +kernel) (fun _ _ _ h => h) (.inl ⟨rfl, fun X hX => by go_simp⟩) hH3 ?_
    try simp only [Act.put, List.setIfInBounds_toArray, List.set_cons_succ, List.set_cons_zero]
    refine wpAnyH_ready (rs := [14]) (by decide +kernel) (by simp) (AllReadyH.cons (o := ⟨none, .store 55 (.tmp 19) (.tmp 17), _, _, _, none⟩) rfl (fun K hK => ?_) AllReadyH.nil)
    go_simp
    obtain ⟨W4, hW4⟩ : ∃ W4, w2.setCell ⟨g, k * 2 + 1, none⟩ (.slice A2 m2 d2) = W4 := ⟨_, rfl⟩
    have hg4 := heap_set_at hg2 (k * 2 + 1) (.slice A2 m2 d2)
    have hst : Turns [g] w2 (w2.setCell ⟨g, k * 2 + 1, none⟩ (.slice A2 m2 d2)) := Turns.set w2 _ (by simp)
    rw [hW4] at hg4 hst ⊢
    clear hW4
    have hap4 := held_turns hap2 hst (by simpa using hga.symm)
    have c4 : W4.cell? ⟨cp, 0, none⟩ = _ := (hst.cell (a := ⟨cp, 0, none⟩) (by have := hT0.size; show cp < _; omega) (by simpa using hcg)).trans c2
    have a4 : W4.cell? ⟨ap, 0, none⟩ = _ := cell_held hap4 rfl
    have af : W4.frozen? ⟨ap, 0, none⟩ = false := frozen_of_row _ _ _ _ _ hap4
    have x4 : W4.cell? ⟨p, off, none⟩ = _ := (hst.cell (a := ⟨p, off, none⟩) (by have := hT0.size; show p < _; omega) (by simpa using hpg)).trans x2
    refine hK.out _ _ ⟨c4, a4, x4⟩ (fun hH4 => ?_)
    clear hK K
    try simp only [Act.put, List.setIfInBounds_toArray, List.set_cons_succ, List.set_cons_zero]
    refine wpAnyH_done (by decide +kernel) ?_ _
    go_wp2_with fail
    have hst2 : Turns [ap] W4 (W4.setCell ⟨ap, 0, none⟩ (.int .i64 ((k : Int) + 1))) := Turns.set W4 _ (by simp)
    have hap5 := heap_set_at hap4 0 (.int .i64 ((k : Int) + 1))
    have hg5 := held_turns hg4 hst2 (by simpa using hga)
    have hv1 : ∀ b, (Value.slice A2 m2 d2).ownBlock = some b → b ∉ [g] ∧ b ∉ [ap] := fun b hb => by
      have hbg : b ≠ g ∧ b ≠ ap := by
        rcases hl2' with h | ⟨b', h, hle⟩
        · rw [h] at hb
          exact ⟨fun e => hvg (by rw [← e]; exact hb), fun e => hva (by rw [← e]; exact hb)⟩
        · rw [h] at hb
          injection hb with hb
          omega
      simpa using hbg
    refine bodyPost_end (results_none rfl _ _ _) rfl ⟨rfl, _, hap5, hg5, ?_, ?_, hl2'⟩
    · have h5 := (hown2.turns hst (fun b hb => (hv1 b hb).1)).turns hst2 (fun b hb => (hv1 b hb).2)
      simpa [ints] using h5
    · have hF : ∀ b ∈ vk.ownBlock.toList, b ∈ g :: ap :: vk.ownBlock.toList := fun b hb => by simp at hb; simp [hb]
      exact ((hT0.mono fun b hb => .inl (hF b hb)).trans hst fun b hb => .inl (by simp at hb; simp [hb])).trans hst2 fun b hb => .inl (by simp at hb; simp [hb])
  · go_simp
    try rw [hW1]
    refine hK.out _ _ ⟨c1, a1, x1⟩ (fun hH1 => ?_)
    clear hK K
    try simp only [Act.put, List.setIfInBounds_toArray, List.set_cons_succ, List.set_cons_zero]
    refine wpAnyH_ready (rs := [6]) (by decide +kernel) (by simp) (AllReadyH.cons (o := ⟨some 12, .load 55 (.tmp 11), _, _, _, none⟩) rfl (fun K hK => ?_) AllReadyH.nil)
    go_simp
    refine hK.out _ _ ⟨c1, a1, x1⟩ (fun hH2 => ?_)
    clear hK K
    try simp only [Act.put, List.setIfInBounds_toArray, List.set_cons_succ, List.set_cons_zero]
    refine wpAnyH_ready (rs := [11]) (by decide +kernel) (by simp) (AllReadyH.cons (o := ⟨some 17, .call { callee := .builtin .append, args := #[.tmp 12, .tmp 16], argTypes := #[55, 55] }, _, _, _, none⟩) rfl (fun K hK => ?_) AllReadyH.nil)
    refine step_append_lies (v := vk) (xs := ints lk) elemI (by rfl) (.tmp 12) (.tmp 16) (by rfl) (by rfl) oW (by rfl) rW (by intro u hu; simp at hu; subst hu; rfl) (by rw [ints_len]; simp; omega) (by omega) ?_
    intro A2 m2 d2 w2 hown2 ht2 hl2
    have hg2 := held_turns hgW ht2 (notin_own hvg)
    have hap2 : w2.heap[ap]? = some (.cells #[.int .i64 (k : Nat)] 3) := held_turns (held_turns hap (Turns.of_below (F := []) bW) (by simp)) ht2 (notin_own hva)
    have c2 : w2.cell? ⟨cp, 0, none⟩ = _ := (ht2.cell (a := ⟨cp, 0, none⟩) (by show cp < _; omega) (notin_own hvc)).trans c1
    have a2 : w2.cell? ⟨ap, 0, none⟩ = _ := (ht2.cell (a := ⟨ap, 0, none⟩) (by show ap < _; omega) (notin_own hva)).trans a1
    have x2 : w2.cell? ⟨p, off, none⟩ = _ := (ht2.cell (a := ⟨p, off, none⟩) (by show p < _; omega) (notin_own hvp)).trans x1
    have g2 : w2.cell? ⟨g, k * 2 + 1, none⟩ = some vk := (ht2.cell (a := ⟨g, k * 2 + 1, none⟩) (by show g < _; omega) (notin_own hvg)).trans g1
    have gf : w2.frozen? ⟨g, k * 2 + 1, none⟩ = false := frozen_of_row _ _ _ _ _ hg2
    have hT0 : Turns (vk.ownBlock.toList) W w2 := (Turns.of_below bW).trans ht2 (fun b hb => .inl hb)
    have hl2' : (Value.slice A2 m2 d2).ownBlock = vk.ownBlock ∨ ∃ b, (Value.slice A2 m2 d2).ownBlock = some b ∧ W.heap.size ≤ b := hl2.imp id fun h => ⟨_, h, by omega⟩
    clear hl2 ht2 hgW oW rW
    refine hK.out _ _ ⟨c2, a2, x2⟩ (fun hH3 => ?_)
    clear hK K
    try simp only [Act.put, List.setIfInBounds_toArray, List.set_cons_succ, List.set_cons_zero]
    refine wpAnyH_take (i := 12) (oi := ⟨some 18, .indexAddr 89 (.tmp 6) (.tmp 7), _, _, _, none⟩) (v := (.pointer (some ⟨g, k * 2, none⟩))) rfl (by decide +kernel) (by decide +kernel) (by decide +kernel) (fun _ _ _ h => h) (.inl ⟨rfl, fun X hX => by have e := hix; go_simp⟩) hH3 ?_
    try simp only [Act.put, List.setIfInBounds_toArray, List.set_cons_succ, List.set_cons_zero]
    refine wpAnyH_take (i := 13) (oi := ⟨some 19, .fieldAddr 96 (.tmp 18) 1, _, _, _, none⟩) (v := (.pointer (some ⟨g, k * 2 + 1, none⟩))) rfl (by decide +kernel) (by decide +kernel) (by decide +kernel) (fun _ _ _ h => h) (.inl ⟨rfl, fun X hX => by go_simp⟩) hH3 ?_
    try simp only [Act.put, List.setIfInBounds_toArray, List.set_cons_succ, List.set_cons_zero]
    refine wpAnyH_ready (rs := [14]) (by decide +kernel) (by simp) (AllReadyH.cons (o := ⟨none, .store 55 (.tmp 19) (.tmp 17), _, _, _, none⟩) rfl (fun K hK => ?_) AllReadyH.nil)
    go_simp
    obtain ⟨W4, hW4⟩ : ∃ W4, w2.setCell ⟨g, k * 2 + 1, none⟩ (.slice A2 m2 d2) = W4 := ⟨_, rfl⟩
    have hg4 := heap_set_at hg2 (k * 2 + 1) (.slice A2 m2 d2)
    have hst : Turns [g] w2 (w2.setCell ⟨g, k * 2 + 1, none⟩ (.slice A2 m2 d2)) := Turns.set w2 _ (by simp)
    rw [hW4] at hg4 hst ⊢
    clear hW4
    have hap4 := held_turns hap2 hst (by simpa using hga.symm)
    have c4 : W4.cell? ⟨cp, 0, none⟩ = _ := (hst.cell (a := ⟨cp, 0, none⟩) (by have := hT0.size; show cp < _; omega) (by simpa using hcg)).trans c2
    have a4 : W4.cell? ⟨ap, 0, none⟩ = _ := cell_held hap4 rfl
    have af : W4.frozen? ⟨ap, 0, none⟩ = false := frozen_of_row _ _ _ _ _ hap4
    have x4 : W4.cell? ⟨p, off, none⟩ = _ := (hst.cell (a := ⟨p, off, none⟩) (by have := hT0.size; show p < _; omega) (by simpa using hpg)).trans x2
    refine hK.out _ _ ⟨c4, a4, x4⟩ (fun hH4 => ?_)
    clear hK K
    try simp only [Act.put, List.setIfInBounds_toArray, List.set_cons_succ, List.set_cons_zero]
    refine wpAnyH_done (by decide +kernel) ?_ _
    go_wp2_with fail
    have hst2 : Turns [ap] W4 (W4.setCell ⟨ap, 0, none⟩ (.int .i64 ((k : Int) + 1))) := Turns.set W4 _ (by simp)
    have hap5 := heap_set_at hap4 0 (.int .i64 ((k : Int) + 1))
    have hg5 := held_turns hg4 hst2 (by simpa using hga)
    have hv1 : ∀ b, (Value.slice A2 m2 d2).ownBlock = some b → b ∉ [g] ∧ b ∉ [ap] := fun b hb => by
      have hbg : b ≠ g ∧ b ≠ ap := by
        rcases hl2' with h | ⟨b', h, hle⟩
        · rw [h] at hb
          exact ⟨fun e => hvg (by rw [← e]; exact hb), fun e => hva (by rw [← e]; exact hb)⟩
        · rw [h] at hb
          injection hb with hb
          omega
      simpa using hbg
    refine bodyPost_end (results_none rfl _ _ _) rfl ⟨rfl, _, hap5, hg5, ?_, ?_, hl2'⟩
    · have h5 := (hown2.turns hst (fun b hb => (hv1 b hb).1)).turns hst2 (fun b hb => (hv1 b hb).2)
      simpa [ints] using h5
    · have hF : ∀ b ∈ vk.ownBlock.toList, b ∈ g :: ap :: vk.ownBlock.toList := fun b hb => by simp at hb; simp [hb]
      exact ((hT0.mono fun b hb => .inl (hF b hb)).trans hst fun b hb => .inl (by simp at hb; simp [hb])).trans hst2 fun b hb => .inl (by simp at hb; simp [hb])

/-- The columns in their block: vs their rows, L what these hold; 'H' are blocks that stay. -/
structure ColB (W0 W : World) (base g : Nat) (H : List (Nat × Obj)) (vs : Nat → Value) (cs : Array Value) (L : Nat → List Int) : Prop where
  blk : W.heap[g]? = some (.cells cs 96)
  val : ∀ i, i < 21 → cs[i * 2]? = some (.int .i64 (formN i)) ∧ cs[i * 2 + 1]? = some (vs i)
  row : ∀ i, i < 21 → OwnRow W base 3 (vs i) (ints (L i))
  apart : ∀ i j, i < 21 → j < 21 → i ≠ j → ApartRow (vs i) (vs j)
  og : ∀ i, i < 21 → (vs i).ownBlock ≠ some g
  held : ∀ x ∈ H, W.heap[x.1]? = some x.2 ∧ x.1 ≠ g ∧ ∀ i, i < 21 → (vs i).ownBlock ≠ some x.1
  bg : base ≤ g
  bel : Below base W0 W

section
variable {W0 W W2 : World} {base g : Nat} {H : List (Nat × Obj)} {vs : Nat → Value} {cs : Array Value} {L : Nat → List Int}
theorem ColB.glt (h : ColB W0 W base g H vs cs L) : g < W.heap.size := (Array.getElem?_eq_some_iff.1 h.blk).1
theorem OwnRow.blk {w : World} {base : Nat} {e : TypeId} {v : Value} {xs : List Value} (h : OwnRow w base e v xs) : ∀ b, v.ownBlock = some b → base ≤ b ∧ b < w.heap.size := World.ownsRow.lt h
/-- All that is new lies above. -/
theorem ColB.up (h : ColB W0 W base g H vs cs L) (hb : Below W.heap.size W W2) : ColB W0 W2 base g H vs cs L := by
  have hg := h.glt
  have hbg := h.bg
  have ht : Turns [] W W2 := Turns.of_below hb
  exact ⟨held_turns h.blk ht (by simp), h.val, fun i hi => (h.row i hi).turns ht (by simp), h.apart, h.og, fun x hx => ⟨held_turns (h.held x hx).1 ht (by simp), (h.held x hx).2⟩, h.bg, h.bel.trans (hb.mono (by omega))⟩
/-- One block more that stays. -/
theorem ColB.hold (h : ColB W0 W base g H vs cs L) (hb : Below W.heap.size W W2) {q : Nat} {ob : Obj} (hq : W2.heap[q]? = some ob) (hle : W.heap.size ≤ q) : ColB W0 W2 base g ((q, ob) :: H) vs cs L := by
  have h2 := h.up hb
  have hg := h.glt
  refine ⟨h2.blk, h2.val, h2.row, h2.apart, h2.og, fun x hx => ?_, h2.bg, h2.bel⟩
  rcases List.mem_cons.1 hx with rfl | hx
  · refine ⟨hq, by show q ≠ g; omega, fun i hi hv => ?_⟩
    have := ((h.row i hi).blk _ hv).2
    simp at this; omega
  · exact h2.held x hx
theorem ColB.fewer {H' : List (Nat × Obj)} (h : ColB W0 W base g H vs cs L) (hH : ∀ x ∈ H', x ∈ H) : ColB W0 W base g H' vs cs L :=
  ⟨h.blk, h.val, h.row, h.apart, h.og, fun x hx => h.held x (hH x hx), h.bg, h.bel⟩
theorem ColB.like {L' : Nat → List Int} (h : ColB W0 W base g H vs cs L) (hL : ∀ i, i < 21 → L i = L' i) : ColB W0 W base g H vs cs L' :=
  ⟨h.blk, h.val, fun i hi => by rw [← hL i hi]; exact h.row i hi, h.apart, h.og, h.held, h.bg, h.bel⟩
end

/-- While an operation's numbers are put: k of them are, and 'ap' tells so. -/
structure PutI (W0 : World) (base g ap : Nat) (o : OpV) (L : Nat → List Int) (H : List (Nat × Obj)) (k : Nat) (W : World) (vs : Nat → Value) (cs : Array Value) : Prop where
  col : ColB W0 W base g H vs cs fun i => if i < k then L i ++ [fld o i] else L i
  at_ : W.heap[ap]? = some (.cells #[.int .i64 (k : Nat)] 3)
  ag : g ≠ ap
  oa : ∀ i, i < 21 → (vs i).ownBlock ≠ some ap
  ha : ∀ x ∈ H, x.1 ≠ ap
  ba : base ≤ ap

set_option maxHeartbeats 1000000 in
theorem putHands (W0 : World) (base g cp ap p cap : Nat) (o : OpV) (L : Nat → List Int) (hL : ∀ i, i < 21 → (L i).length ≤ 1000) :
    Hands 45 [.pointer (some ⟨cp, 0, none⟩), .pointer (some ⟨ap, 0, none⟩)] p 0 fun H k W => ∃ vs cs, PutI W0 base g ap o L ((cp, .cells #[.slice (some ⟨g, 0, none⟩) 21 cap] 89) :: (p, .cells (OpC o) 42) :: H) k W vs cs where
  box H k W ob := by
    rintro ⟨vs, cs, h⟩
    have hal : ap < W.heap.size := (Array.getElem?_eq_some_iff.1 h.at_).1
    refine ⟨vs, cs, (h.col.hold (below_box1 W ob) (Go.heap_alloc_new W ob) (Nat.le_refl _)).fewer (fun x hx => ?_), held_alloc h.at_ ob, h.ag, h.oa, fun x hx => ?_, h.ba⟩
    · simp at hx ⊢
      rcases hx with hx | hx | hx | hx <;> simp [hx]
    · rcases List.mem_cons.1 hx with hx | hx
      · exact h.ha x (by simp [hx])
      · rcases List.mem_cons.1 hx with hx | hx
        · exact h.ha x (by simp [hx])
        · rcases List.mem_cons.1 hx with rfl | hx
          · show W.heap.size ≠ ap; omega
          · exact h.ha x (by simp [hx])
  drew H k W := by
    rintro ⟨vs, cs, h⟩
    exact ⟨vs, cs, h.col.up (below_drewN (Below.refl _ W) 1), h.at_, h.ag, h.oa, h.ha, h.ba⟩
  held H k W q ob := by
    rintro ⟨vs, cs, h⟩ hm
    exact (h.col.held (q, ob) (by simp [hm])).1
  call H k W hk := by
    rintro ⟨vs, cs, h⟩
    have hal : ap < W.heap.size := (Array.getElem?_eq_some_iff.1 h.at_).1
    have hba := h.ba
    obtain ⟨c1, c2, c3⟩ := h.col.held (cp, .cells #[.slice (some ⟨g, 0, none⟩) 21 cap] 89) (by simp)
    obtain ⟨p1, p2, p3⟩ := h.col.held (p, .cells (OpC o) 42) (by simp)
    have hro := h.col.row k hk
    rw [if_neg (Nat.lt_irrefl k)] at hro
    refine (putOne_any c1 h.at_ (cell_held p1 (by rw [Nat.zero_add]; exact fld_cell o hk)) h.col.blk (h.col.val k hk).2 hro hk (by omega) (hL k hk) c2 h.ag p2 (c3 k hk) (h.col.og k hk) (h.oa k hk) (p3 k hk)).mono ?_
    rintro e W' ⟨rfl, v', r1, r2, r3, r4, r5⟩
    have hsz : cs.size > k * 2 + 1 := by have := (Array.getElem?_eq_some_iff.1 (h.col.val k hk).2).1; omega
    have hgl := h.col.glt
    have hnv : ∀ b, v'.ownBlock = some b → b < W.heap.size → (vs k).ownBlock = some b := fun b hb hlt => by
      rcases r5 with h5 | ⟨b', h5, hle⟩
      · rw [← h5]; exact hb
      · rw [h5] at hb; injection hb with hb; omega
    have hkeep : ∀ i, i < 21 → i ≠ k → ∀ b, (vs i).ownBlock = some b → b ∉ g :: ap :: (vs k).ownBlock.toList := fun i hi hne b hb hm => by
      rcases List.mem_cons.1 hm with rfl | hm
      · exact h.col.og i hi hb
      · rcases List.mem_cons.1 hm with rfl | hm
        · exact h.oa i hi hb
        · exact h.col.apart i k hi hk hne b hb (by simpa using hm)
    refine ⟨rfl, fun i => if i = k then v' else vs i, cs.set! (k * 2 + 1) v', ⟨r2, fun i hi => ?_, fun i hi => ?_, fun i j hi hj hne => ?_, fun i hi hv => ?_, fun x hx => ?_, h.col.bg, h.col.bel.trans (r4.below (by omega) fun b hb => ?_)⟩, r1, h.ag, fun i hi hv => ?_, h.ha, h.ba⟩
    · rw [Array.set!_eq_setIfInBounds, Array.getElem?_setIfInBounds_ne (by omega)]
      refine ⟨(h.col.val i hi).1, ?_⟩
      by_cases e : i = k
      · subst e
        rw [if_pos rfl, Array.getElem?_setIfInBounds_self_of_lt hsz]
      · rw [if_neg e, Array.getElem?_setIfInBounds_ne (by omega)]
        exact (h.col.val i hi).2
    · by_cases e : i = k
      · subst e
        rw [if_pos rfl, if_pos (Nat.lt_succ_self _)]
        exact r3
      · rw [if_neg e]
        have hrow := (h.col.row i hi).turns r4 (hkeep i hi e)
        have hi2 : (i < k + 1) = (i < k) := by rw [eq_iff_iff]; omega
        simp only [hi2]
        exact hrow
    · intro b hb hb'
      by_cases e : i = k
      · rw [if_pos e] at hb
        by_cases e' : j = k
        · omega
        · rw [if_neg e'] at hb'
          have hlt := ((h.col.row j hj).blk _ hb').2
          exact h.col.apart k j hk hj (by omega) b (hnv b hb hlt) hb'
      · rw [if_neg e] at hb
        by_cases e' : j = k
        · rw [if_pos e'] at hb'
          have hlt := ((h.col.row i hi).blk _ hb).2
          exact h.col.apart i k hi hk e b hb (hnv b hb' hlt)
        · rw [if_neg e'] at hb'
          exact h.col.apart i j hi hj hne b hb hb'
    · by_cases e : i = k
      · rw [if_pos e] at hv
        exact h.col.og k hk (hnv g hv hgl)
      · rw [if_neg e] at hv
        exact h.col.og i hi hv
    · obtain ⟨g1, g2, g3⟩ := h.col.held x hx
      have hxl := (Array.getElem?_eq_some_iff.1 g1).1
      refine ⟨held_turns g1 r4 (fun hm => ?_), g2, fun i hi hv => ?_⟩
      · rcases List.mem_cons.1 hm with hm | hm
        · exact g2 hm
        · rcases List.mem_cons.1 hm with hm | hm
          · exact h.ha x hx hm
          · exact notin_own (g3 k hk) hm
      · by_cases e : i = k
        · rw [if_pos e] at hv
          exact g3 k hk (hnv _ hv hxl)
        · rw [if_neg e] at hv
          exact g3 i hi hv
    · rcases List.mem_cons.1 hb with rfl | hb
      · exact h.col.bg
      · rcases List.mem_cons.1 hb with rfl | hb
        · exact h.ba
        · exact (hro.blk b (by simpa using hb)).1
    · by_cases e : i = k
      · rw [if_pos e] at hv
        exact h.oa k hk (hnv _ hv hal)
      · rw [if_neg e] at hv
        exact h.oa i hi hv
end Go.Proofs.YthpgfnhecfgiaaaGreatDoor
