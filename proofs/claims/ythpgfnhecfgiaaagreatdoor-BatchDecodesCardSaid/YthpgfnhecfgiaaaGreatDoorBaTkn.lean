/-
  Numbers taken out of columns: the third closure, and what it leaves when it was handed an operation's numbers.
-/
import Derived.Test.YthpgfnhecfgiaaaGreatDoorBaTk
import Derived.Test.YthpgfnhecfgiaaaGreatDoorBaNumsTake
import Derived.OrdersHeld
import Derived.Deep.RegionHeld
namespace Go.Proofs.YthpgfnhecfgiaaaGreatDoor
open Go.RowKit Go.Sort
set_option maxRecDepth 20000

set_option maxHeartbeats 4000000 in
theorem takeOne_any {gc cp ap ip g off cap : Nat} {k i : Nat} {x f : Int} {vk old : Value} {ad : Addr} {W : World} (hcp : W.heap[cp]? = some (.cells #[.slice (some ⟨gc, 0, none⟩) 21 cap] 89))
    (hap : W.heap[ap]? = some (.cells #[.int .i64 (k : Nat)] 3)) (hip : W.heap[ip]? = some (.cells #[.int .i64 (i : Nat)] 3)) (hgk : W.cell? ⟨gc, k * 2 + 1, none⟩ = some vk)
    (hvx : ∀ X, (Instr.indexAt 55 vk (.int .i64 (i : Int))).run Tryz.prog X = .ok (.pointer (some ad)) X) (had : W.cell? ad = some (.int .i64 x)) (ht : W.cell? ⟨g, off, none⟩ = some old) (hf : W.frozen? ⟨g, off, none⟩ = false) (hk : k < 21)
    (hcg : cp ≠ g) (hag : ap ≠ g) (hig : ip ≠ g) (hgg : gc ≠ g) (hadg : ad.block ≠ g) :
    Calls Tryz.prog 53 #[.int .i64 f, .pointer (some ⟨g, off, none⟩), .pointer (some ⟨cp, 0, none⟩), .pointer (some ⟨ap, 0, none⟩), .pointer (some ⟨ip, 0, none⟩)] W fun e W' => e = .returned (.tuple #[]) ∧ W' = ((W.drew).setCell ⟨g, off, none⟩ (.int .i64 x)).setCell ⟨ap, 0, none⟩ (.int .i64 ((k : Int) + 1)) := by
  have c0 : W.cell? ⟨cp, 0, none⟩ = some (.slice (some ⟨gc, 0, none⟩) 21 cap) := cell_held hcp rfl
  have a0 : W.cell? ⟨ap, 0, none⟩ = some (.int .i64 (k : Nat)) := cell_held hap rfl
  have i0 : W.cell? ⟨ip, 0, none⟩ = some (.int .i64 (i : Nat)) := cell_held hip rfl
  have hix : ∀ X, (Instr.indexAt 89 (.slice (some ⟨gc, 0, none⟩) 21 cap) (.int .i64 (k : Int))).run Tryz.prog X = .ok (.pointer (some ⟨gc, k * 2, none⟩)) X := fun X => by
    have he : Tryz.prog.elem 89 = 96 := by kernel_rfl
    rw [run_indexAt_slice (P := Tryz.prog) X _ _ 21 cap .i64 (k : Int) (by kernel_rfl), if_pos (by omega), he, elemC.hs]
    simp [Result.andThen, addr_at]
  go_enter Tryz.func53, Tryz.ntmps53
  go_wp2_with fail
  refine wp_region_held_drew (S := (fun X => X.cell? ⟨cp, 0, none⟩ = some (.slice (some ⟨gc, 0, none⟩) 21 cap) ∧ X.cell? ⟨ap, 0, none⟩ = some (.int .i64 (k : Nat)) ∧ X.cell? ⟨ip, 0, none⟩ = some (.int .i64 (i : Nat)) ∧ X.cell? ⟨gc, k * 2 + 1, none⟩ = some vk ∧ X.cell? ad = some (.int .i64 x))) (by kernel_rfl) ⟨c0, a0, i0, hgk, had⟩ (fun hH => ?_)
  refine wpAnyH_take (i := 0) (oi := ⟨some 7, .move (.tmp 1), _, _, _, none⟩) (v := (.pointer (some ⟨g, off, none⟩))) rfl (by decide +kernel) (by decide +kernel) (by decide +kernel) (fun _ _ _ h => h) (.inl ⟨rfl, fun X hX => rfl⟩) hH ?_
  try simp only [Act.put, List.setIfInBounds_toArray, List.set_cons_succ, List.set_cons_zero]
  refine wpAnyH_take (i := 1) (oi := ⟨some 8, .load 89 (.tmp 2), _, _, _, none⟩) (v := (.slice (some ⟨gc, 0, none⟩) 21 cap)) rfl (by decide +kernel) (by decide +kernel) (by decide +kernel) (fun _ _ _ h => h) (.inl ⟨rfl, fun X hX => by have e := hX.1; go_simp⟩) hH ?_
  try simp only [Act.put, List.setIfInBounds_toArray, List.set_cons_succ, List.set_cons_zero]
  refine wpAnyH_take (i := 2) (oi := ⟨some 9, .load 3 (.tmp 3), _, _, _, none⟩) (v := (.int .i64 (k : Nat))) rfl (by decide +kernel) (by decide +kernel) (by decide +kernel) (fun _ _ _ h => h) (.inl ⟨rfl, fun X hX => by have e := hX.2.1; go_simp⟩) hH ?_
  try simp only [Act.put, List.setIfInBounds_toArray, List.set_cons_succ, List.set_cons_zero]
  refine wpAnyH_take (i := 3) (oi := ⟨some 10, .indexAddr 89 (.tmp 8) (.tmp 9), _, _, _, none⟩) (v := (.pointer (some ⟨gc, k * 2, none⟩))) rfl (by decide +kernel) (by decide +kernel) (by decide +kernel) (fun _ _ _ h => h) (.inl ⟨rfl, fun X hX => by have e := hix; go_simp⟩) hH ?_
  try simp only [Act.put, List.setIfInBounds_toArray, List.set_cons_succ, List.set_cons_zero]
  refine wpAnyH_take (i := 4) (oi := ⟨some 11, .fieldAddr 96 (.tmp 10) 1, _, _, _, none⟩) (v := (.pointer (some ⟨gc, k * 2 + 1, none⟩))) rfl (by decide +kernel) (by decide +kernel) (by decide +kernel) (fun _ _ _ h => h) (.inl ⟨rfl, fun X hX => by go_simp⟩) hH ?_
  try simp only [Act.put, List.setIfInBounds_toArray, List.set_cons_succ, List.set_cons_zero]
  refine wpAnyH_take (i := 5) (oi := ⟨some 12, .load 55 (.tmp 11), _, _, _, none⟩) (v := vk) rfl (by decide +kernel) (by decide +kernel) (by decide +kernel) (fun _ _ _ h => h) (.inl ⟨rfl, fun X hX => by have e := hX.2.2.2.1; go_simp⟩) hH ?_
  try simp only [Act.put, List.setIfInBounds_toArray, List.set_cons_succ, List.set_cons_zero]
  refine wpAnyH_take (i := 6) (oi := ⟨some 13, .load 3 (.tmp 4), _, _, _, none⟩) (v := (.int .i64 (i : Nat))) rfl (by decide +kernel) (by decide +kernel) (by decide +kernel) (fun _ _ _ h => h) (.inl ⟨rfl, fun X hX => by have e := hX.2.2.1; go_simp⟩) hH ?_
  try simp only [Act.put, List.setIfInBounds_toArray, List.set_cons_succ, List.set_cons_zero]
  refine wpAnyH_take (i := 7) (oi := ⟨some 14, .indexAddr 55 (.tmp 12) (.tmp 13), _, _, _, none⟩) (v := (.pointer (some ad))) rfl (by decide +kernel) (by decide +kernel) (by decide +kernel) (fun _ _ _ h => h) (.inl ⟨rfl, fun X hX => by have e := hvx; go_simp⟩) hH ?_
  try simp only [Act.put, List.setIfInBounds_toArray, List.set_cons_succ, List.set_cons_zero]
  refine wpAnyH_take (i := 8) (oi := ⟨some 15, .load 3 (.tmp 14), _, _, _, none⟩) (v := (.int .i64 x)) rfl (by decide +kernel) (by decide +kernel) (by decide +kernel) (fun _ _ _ h => h) (.inl ⟨rfl, fun X hX => by have e := hX.2.2.2.2; go_simp⟩) hH ?_
  try simp only [Act.put, List.setIfInBounds_toArray, List.set_cons_succ, List.set_cons_zero]
  refine wpAnyH_take (i := 9) (oi := ⟨some 16, .nilCheck (.tmp 7), _, _, _, none⟩) (v := (.pointer (some ⟨g, off, none⟩))) rfl (by decide +kernel) (by decide +kernel) (by decide +kernel) (fun _ _ _ h => h) (.inl ⟨rfl, fun X hX => by go_simp⟩) hH ?_
  try simp only [Act.put, List.setIfInBounds_toArray, List.set_cons_succ, List.set_cons_zero]
  have htd : W.drew.cell? ⟨g, off, none⟩ = some old := ht
  have hfd : W.drew.frozen? ⟨g, off, none⟩ = false := hf
  refine wpAnyH_ready (rs := [10]) (by decide +kernel) (by simp) (AllReadyH.cons (o := ⟨none, .store 3 (.tmp 16) (.tmp 15), _, _, _, none⟩) rfl (fun K hK => ?_) AllReadyH.nil)
  go_simp
  rw [show (W.setCell ⟨g, off, none⟩ (.int .i64 x)).drew = W.drew.setCell ⟨g, off, none⟩ (.int .i64 x) from rfl]
  obtain ⟨W2, hW2⟩ : ∃ W2, W.drew.setCell ⟨g, off, none⟩ (.int .i64 x) = W2 := ⟨_, rfl⟩
  have hst : Turns [g] W.drew (W.drew.setCell ⟨g, off, none⟩ (.int .i64 x)) := Turns.set _ _ (by simp)
  rw [hW2] at hst ⊢
  have c2 : W2.cell? ⟨cp, 0, none⟩ = _ := (World.cell?_of_block (hst.block cp (Array.getElem?_eq_some_iff.1 hcp).1 (by simpa using hcg))).trans c0
  have hap2 := held_turns (w := W.drew) hap hst (by simpa using hag)
  have a2 : W2.cell? ⟨ap, 0, none⟩ = _ := cell_held hap2 rfl
  have af : W2.frozen? ⟨ap, 0, none⟩ = false := frozen_of_row _ _ _ _ _ hap2
  have i2 : W2.cell? ⟨ip, 0, none⟩ = _ := (World.cell?_of_block (hst.block ip (Array.getElem?_eq_some_iff.1 hip).1 (by simpa using hig))).trans i0
  have g2 : W2.cell? ⟨gc, k * 2 + 1, none⟩ = _ := (World.cell?_of_block (hst.block gc (World.block_lt_of_cell? _ _ hgk) (by simpa using hgg))).trans hgk
  have d2 : W2.cell? ad = _ := (World.cell?_of_block (hst.block ad.block (World.block_lt_of_cell? _ _ had) (by simpa using hadg))).trans had
  refine hK.out _ _ ⟨c2, a2, i2, g2, d2⟩ (fun hH2 => ?_)
  clear hK K
  try simp only [Act.put, List.setIfInBounds_toArray, List.set_cons_succ, List.set_cons_zero]
  refine wpAnyH_done (by decide +kernel) ?_ _
  go_wp2_with fail
  refine bodyPost_end (results_none rfl _ _ _) rfl ⟨rfl, by rw [hW2]⟩

/-- While an operation is handed its numbers: k of them have been. W1: the world when it began. -/
structure TakeI (W1 : World) (g n ap i : Nat) (D0 : Nat → OpV) (x : Nat → Int) (H : List (Nat × Obj)) (k : Nat) (W : World) (D : Nat → OpV) : Prop where
  all : Fld W g n D
  same : ∀ t, t ≠ i → D t = D0 t
  num : ∀ j, j < 21 → fld (D i) j = if j < k then x j else fld (D0 i) j
  tru : ∀ c, truV (D i) c = truV (D0 i) c
  tex : ∀ c, c < 3 → txt (D i) c = txt (D0 i) c
  at_ : W.heap[ap]? = some (.cells #[.int .i64 (k : Nat)] 3)
  held : ∀ y ∈ H, W.heap[y.1]? = some y.2 ∧ y.1 ≠ g ∧ y.1 ≠ ap
  turns : Turns [g, ap] W1 W

set_option maxHeartbeats 1000000 in
theorem takeHands {W1 : World} {gc cp ap ip g n cap i : Nat} {D0 : Nat → OpV} {x : Nat → Int} {cs : Array Value} {vs : Nat → Value} {L : Nat → List Int} (hi : i < n)
    (hcp : W1.heap[cp]? = some (.cells #[.slice (some ⟨gc, 0, none⟩) 21 cap] 89)) (hip : W1.heap[ip]? = some (.cells #[.int .i64 (i : Nat)] 3)) (hgc : W1.heap[gc]? = some (.cells cs 96))
    (hval : ∀ k, k < 21 → cs[k * 2 + 1]? = some (vs k)) (hrow : ∀ k, k < 21 → IntsAt W1 (vs k) (L k) ∧ (L k)[i]? = some (x k) ∧ (vs k).ownBlock ≠ some g ∧ (vs k).ownBlock ≠ some ap)
    (hne : cp ≠ g ∧ cp ≠ ap ∧ ip ≠ g ∧ ip ≠ ap ∧ gc ≠ g ∧ gc ≠ ap ∧ g ≠ ap) :
    Hands 53 [.pointer (some ⟨cp, 0, none⟩), .pointer (some ⟨ap, 0, none⟩), .pointer (some ⟨ip, 0, none⟩)] g (i * 26) fun H k W => ∃ D, TakeI W1 g n ap i D0 x H k W D where
  box H k W ob := by
    rintro ⟨D, h⟩
    have hal : ap < W.heap.size := (Array.getElem?_eq_some_iff.1 h.at_).1
    have hgl := h.all.lt
    have ht : Turns [] W (W.alloc ob) := Turns.of_below (below_box1 W ob)
    refine ⟨D, h.all.turns ht (by simp), h.same, h.num, h.tru, h.tex, held_alloc h.at_ ob, fun y hy => ?_, h.turns.call (below_box1 W ob)⟩
    rcases List.mem_cons.1 hy with rfl | hy
    · exact ⟨Go.heap_alloc_new W ob, by show W.heap.size ≠ g; omega, by show W.heap.size ≠ ap; omega⟩
    · exact ⟨held_alloc (h.held y hy).1 ob, (h.held y hy).2⟩
  drew H k W := by
    rintro ⟨D, h⟩
    exact ⟨D, h.all.turns (F := []) (Turns.of_below (below_drewN (Below.refl _ W) 1)) (by simp), h.same, h.num, h.tru, h.tex, h.at_, h.held, h.turns.drew⟩
  held H k W q ob := by
    rintro ⟨D, h⟩ hm
    exact (h.held _ hm).1
  call H k W hk := by
    rintro ⟨D, h⟩
    obtain ⟨n1, n2, n3, n4, n5, n6, n7⟩ := hne
    obtain ⟨r1, r2, r3, r4⟩ := hrow k hk
    have hcp' := held_turns hcp h.turns (by simp [n1, n2])
    have hip' := held_turns hip h.turns (by simp [n3, n4])
    have hgc' := held_turns hgc h.turns (by simp [n5, n6])
    have hil : i < (L k).length := (List.getElem?_eq_some_iff.1 r2).1
    obtain ⟨ad, q1, q2, q3⟩ := RowAt.index r1 elemI.ht elemI.hs (k := i) (by rw [ints_len]; exact hil)
    have hadn : ad.block ≠ g ∧ ad.block ≠ ap := by
      obtain ⟨A, c, e1, e2, e3, e4, _⟩ := r1
      obtain ⟨b, off, rfl, _, _⟩ := e4 (by rw [ints_len]; omega)
      have hw := q1 W1
      rw [e1] at hw r3 r4
      rw [run_indexAt_slice (P := Tryz.prog) W1 _ _ _ c .i64 (i : Int) (by kernel_rfl), if_pos (by rw [ints_len]; omega)] at hw
      have he : Tryz.prog.elem 55 = 3 := by kernel_rfl
      rw [he, elemI.hs] at hw
      simp only [Result.andThen, addr_at] at hw
      injection hw with hw _
      injection hw with hw
      injection hw with hw
      subst hw
      exact ⟨fun e => r3 (by show some b = _; rw [show b = g from e]), fun e => r4 (by show some b = _; rw [show b = ap from e])⟩
    have hax : W1.cell? ad = some (.int .i64 (x k)) := by
      rw [q2]
      unfold ints
      rw [List.getElem?_map, r2]; rfl
    have hax' := (h.turns.cell q3 (by simp [hadn.1, hadn.2])).trans hax
    have hoc := fld_cell (D i) hk
    obtain ⟨t1, t2⟩ := h.all.cell hi (offN_lt hk) hoc
    obtain ⟨o', ho'⟩ := set_num (D i) hk (x k)
    refine (takeOne_any (f := formN k) hcp' h.at_ hip' (cell_held hgc' (hval k hk)) q1 hax' t1 t2 hk n1 (Ne.symm n7) n3 n5 hadn.1).mono ?_
    rintro e W' ⟨rfl, rfl⟩
    have hF2 := (h.all.turns (F := []) (Turns.of_below (below_drewN (Below.refl _ W) 1)) (by simp) : Fld W.drew g n D).set hi (offN_lt hk) ho'
    have hst1 : Turns [g] W.drew (W.drew.setCell ⟨g, i * 26 + offN k, none⟩ (.int .i64 (x k))) := Turns.set _ _ (by simp)
    have hap2 := held_turns (w := W.drew) h.at_ hst1 (by simp [Ne.symm n7])
    have hst2 : Turns [ap] (W.drew.setCell ⟨g, i * 26 + offN k, none⟩ (.int .i64 (x k))) ((W.drew.setCell ⟨g, i * 26 + offN k, none⟩ (.int .i64 (x k))).setCell ⟨ap, 0, none⟩ (.int .i64 ((k : Int) + 1))) := Turns.set _ _ (by simp)
    have hnum : ∀ j, j < 21 → fld o' j = if j < k + 1 then x j else fld (D0 i) j := fun j hj => by
      by_cases e : j = k
      · subst e
        rw [if_pos (Nat.lt_succ_self _)]
        exact fld_is hj (cells_new ho' (offN_lt hj))
      · rw [fld_of hj (cells_same ho' fun e' => e (offN_inj hj hk e')), h.num j hj]
        by_cases e' : j < k
        · rw [if_pos e', if_pos (by omega)]
        · rw [if_neg e', if_neg (by omega)]
    refine ⟨rfl, _, hF2.turns hst2 (by simp [n7]), fun t ht => ?_, ?_, ?_, ?_, heap_set_at hap2 0 _, fun y hy => ?_, ((h.turns.drew).trans hst1 (by simp)).trans hst2 (by simp)⟩
    · show (if t = i then o' else D t) = D0 t
      rw [if_neg ht]; exact h.same t ht
    · show ∀ j, j < 21 → fld (if i = i then o' else D i) j = _
      rw [if_pos rfl]; exact hnum
    · intro c
      show truV (if i = i then o' else D i) c = _
      rw [if_pos rfl, tru_of c (cells_same ho' ((offN_apart hk).1 c))]
      exact h.tru c
    · intro c hc
      show txt (if i = i then o' else D i) c = _
      rw [if_pos rfl, tex_of hc (cells_same ho' ((offN_apart hk).2 c hc))]
      exact h.tex c hc
    · obtain ⟨y1, y2, y3⟩ := h.held y hy
      exact ⟨held_turns (held_turns (w := W.drew) y1 hst1 (by simpa using y2)) hst2 (by simpa using y3), y2, y3⟩
end Go.Proofs.YthpgfnhecfgiaaaGreatDoor
