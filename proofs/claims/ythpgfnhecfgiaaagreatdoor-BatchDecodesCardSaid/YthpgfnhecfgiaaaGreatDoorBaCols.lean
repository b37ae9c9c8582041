/-
  Columns of numbers, made without values: the first closure, and the function that hands it numbers.
-/
import Derived.Test.YthpgfnhecfgiaaaGreatDoorBaNumsCols
import Derived.Test.YthpgfnhecfgiaaaGreatDoorMOpB
import Derived.Test.YthpgfnhecfgiaaaGreatDoorMBase
namespace Go.Proofs.YthpgfnhecfgiaaaGreatDoor
open Go.RowKit Go.Sort
set_option maxRecDepth 20000

/-- The k-th number of an operation. -/
def fld (o : OpV) (k : Nat) : Int :=
  match k with
  | 0 => o.n | 1 => o.r | 2 => o.deps 0 | 3 => o.deps 1 | 4 => o.deps 2 | 5 => o.deps 3 | 6 => o.deps 4 | 7 => o.deps 5 | 8 => o.deps 6 | 9 => o.deps 7
  | 10 => o.kind | 11 => o.rn | 12 => o.rr | 13 => o.side | 14 => o.ch | 15 => o.un | 16 => o.ur | 17 => o.fn | 18 => o.fr | 19 => o.tn | _ => o.tr
theorem below21 {p : Nat → Prop} (h : p 0 ∧ p 1 ∧ p 2 ∧ p 3 ∧ p 4 ∧ p 5 ∧ p 6 ∧ p 7 ∧ p 8 ∧ p 9 ∧ p 10 ∧ p 11 ∧ p 12 ∧ p 13 ∧ p 14 ∧ p 15 ∧ p 16 ∧ p 17 ∧ p 18 ∧ p 19 ∧ p 20) {k : Nat} (hk : k < 21) : p k := by
  obtain ⟨h0, h1, h2, h3, h4, h5, h6, h7, h8, h9, h10, h11, h12, h13, h14, h15, h16, h17, h18, h19, h20⟩ := h
  have : k = 0 ∨ k = 1 ∨ k = 2 ∨ k = 3 ∨ k = 4 ∨ k = 5 ∨ k = 6 ∨ k = 7 ∨ k = 8 ∨ k = 9 ∨ k = 10 ∨ k = 11 ∨ k = 12 ∨ k = 13 ∨ k = 14 ∨ k = 15 ∨ k = 16 ∨ k = 17 ∨ k = 18 ∨ k = 19 ∨ k = 20 := by omega
  rcases this with rfl | rfl | rfl | rfl | rfl | rfl | rfl | rfl | rfl | rfl | rfl | rfl | rfl | rfl | rfl | rfl | rfl | rfl | rfl | rfl | rfl <;> assumption
theorem fld_cell (o : OpV) {k : Nat} (hk : k < 21) : (OpC o)[offN k]? = some (.int .i64 (fld o k)) :=
  below21 (p := fun k => (OpC o)[offN k]? = some (.int .i64 (fld o k))) ⟨rfl, rfl, rfl, rfl, rfl, rfl, rfl, rfl, rfl, rfl, rfl, rfl, rfl, rfl, rfl, rfl, rfl, rfl, rfl, rfl, rfl⟩ hk

theorem elemC : ElemK Tryz.prog 89 96 (.agg #[.int .i64 0, .slice none 0 0]) 2 32 := ⟨Tryz.underlying89, by kernel_rfl, rfl, by omega, by omega, fun W => by kernel_rfl⟩

/-- The columns, without values. -/
def emptyCols (k : Nat) : List (List Value) := (List.range k).map fun i => [.int .i64 (formN i), .slice none 0 0]
theorem emptyCols_succ (k : Nat) : emptyCols (k + 1) = emptyCols k ++ [[.int .i64 (formN k), .slice none 0 0]] := by
  unfold emptyCols
  rw [List.range_succ, List.map_append]; rfl
theorem emptyCols_len (k : Nat) : (emptyCols k).length = k := by simp [emptyCols]
theorem col_one (x : Int) : ∀ y ∈ [[Value.int .i64 x, .slice none 0 0]], ∀ u ∈ y, u.oneCell' = true := by
  intro y hy u hu
  simp at hy
  subst hy
  simp at hu
  rcases hu with rfl | rfl <;> rfl

theorem OwnRows.form2 {w : World} {base : Nat} {e : TypeId} {k : Nat} {v : Value} {xs : List (List Value)} (h : OwnRows w base e k v xs) : ∃ A m c, v = .slice A m c := by
  obtain ⟨A, c, hv, _⟩ := h.rows
  exact ⟨_, _, _, hv⟩
theorem notin_own {v : Value} {b : Nat} (h : v.ownBlock ≠ some b) : b ∉ v.ownBlock.toList := by simpa using h
theorem held_turns {w w' : World} {F : List Nat} {b : Nat} {o : Obj} (h : w.heap[b]? = some o) (ht : Turns F w w') (hF : b ∉ F) : w'.heap[b]? = some o :=
  (ht.block b (Array.getElem?_eq_some_iff.1 h).1 hF).trans h
theorem held_alloc {w : World} {b : Nat} {o : Obj} (h : w.heap[b]? = some o) (x : Obj) : (w.alloc x).heap[b]? = some o :=
  (Go.heap_alloc_old w x (Array.getElem?_eq_some_iff.1 h).1).trans h

set_option maxHeartbeats 1000000 in
theorem colsOne_any {base cp : Nat} {v : Value} {k : Nat} {f : Int} {p : Value} {W : World} (hc : W.heap[cp]? = some (.cells #[v] 89)) (ho : OwnRows W base 96 2 v (emptyCols k)) (hk : k < 21) (hb : base ≤ W.heap.size)
    (hcv : v.ownBlock ≠ some cp) :
    Calls Tryz.prog 76 #[.int .i64 f, p, .pointer (some ⟨cp, 0, none⟩)] W fun e W' => e = .returned (.tuple #[]) ∧ ∃ v', W'.heap[cp]? = some (.cells #[v'] 89) ∧ OwnRows W' base 96 2 v' (emptyCols k ++ [[.int .i64 f, .slice none 0 0]]) ∧ v'.ownBlock ≠ some cp ∧
      Turns (cp :: v.ownBlock.toList) W W' ∧ ∀ b, v'.ownBlock = some b → v.ownBlock = some b ∨ W.heap.size ≤ b := by
  have hcl : cp < W.heap.size := (Array.getElem?_eq_some_iff.1 hc).1
  have c0 : W.cell? ⟨cp, 0, none⟩ = some v := cell_held hc rfl
  have hlen := emptyCols_len k
  go_enter Tryz.func76, Tryz.ntmps76
  go_wp2_with (at_builtin; refine append_rows (v := v) elemC rfl (.tmp 5) (.tmp 8) rfl base rfl (ho.alloc _) rfl (rows_box W _ [.int .i64 f, .slice none 0 0] rfl _ rfl) (by simp) (col_one f) (by simp [hlen]; omega) (by simp; omega) ?_; intro v2 w2 hown2 ht2 hl2; obtain ⟨A2, m2, c2, rfl⟩ := hown2.form2; have hc2 := held_turns (held_alloc hc _) ht2 (notin_own hcv); have k0 : w2.cell? ⟨cp, 0, none⟩ = some v := cell_held hc2 rfl; have kf : w2.frozen? ⟨cp, 0, none⟩ = false := frozen_of_row _ _ _ _ _ hc2)
  refine bodyPost_end (results_none rfl _ _ _) rfl ?_
  have hcv2 : (Value.slice A2 m2 c2).ownBlock ≠ some cp := fun h => by
    rcases hl2 _ h with h' | h'
    · exact hcv h'
    · simp at h'; omega
  have hst : Turns [cp] w2 (w2.setCell ⟨cp, 0, none⟩ (.slice A2 m2 c2)) := Turns.set w2 _ (by simp)
  refine ⟨rfl, _, heap_set_at hc2 0 _, hown2.turns hst (fun b hb => by rintro hm; simp at hm; subst hm; exact hcv2 hb), hcv2, ?_, fun b hb => ?_⟩
  · have h1 : Turns (cp :: v.ownBlock.toList) W w2 := ((Turns.of_below (below_box1 W _)).trans ht2 (fun b hb => .inl (List.mem_cons_of_mem _ hb))).mono (fun b hb => .inl hb)
    exact h1.trans hst (fun b hb => .inl (by simp at hb; simp [hb]))
  · rcases hl2 _ hb with h' | h'
    · exact .inl h'
    · exact .inr (by simp at h'; omega)

/-- While the columns are made: 'H' are blocks that stay. -/
structure ColsI (W0 : World) (base cp : Nat) (H : List (Nat × Obj)) (k : Nat) (W : World) (v : Value) : Prop where
  cell : W.heap[cp]? = some (.cells #[v] 89)
  own : OwnRows W base 96 2 v (emptyCols k)
  ap : v.ownBlock ≠ some cp
  held : ∀ x ∈ H, W.heap[x.1]? = some x.2 ∧ x.1 ≠ cp ∧ v.ownBlock ≠ some x.1
  bc : base ≤ cp
  bel : Below base W0 W

theorem colsHands (W0 : World) (base cp b off : Nat) : Hands 76 [.pointer (some ⟨cp, 0, none⟩)] b off fun H k W => ∃ v, ColsI W0 base cp H k W v where
  box H k W ob := by
    rintro ⟨v, h⟩
    have hcl : cp < W.heap.size := (Array.getElem?_eq_some_iff.1 h.cell).1
    have hbc := h.bc
    refine ⟨v, held_alloc h.cell ob, h.own.alloc ob, h.ap, fun x hx => ?_, h.bc, h.bel.alloc (by omega) ob⟩
    rcases List.mem_cons.1 hx with rfl | hx
    · refine ⟨Go.heap_alloc_new W ob, ?_, fun hv => ?_⟩
      · show W.heap.size ≠ cp; omega
      · have := (h.own.block _ hv).2; omega
    · obtain ⟨h1, h2, h3⟩ := h.held x hx
      exact ⟨held_alloc h1 ob, h2, h3⟩
  drew H k W := by
    rintro ⟨v, h⟩
    exact ⟨v, h.cell, h.own, h.ap, h.held, h.bc, below_drewN h.bel 1⟩
  held H k W q ob := by
    rintro ⟨v, h⟩ hm
    exact (h.held _ hm).1
  call H k W hk := by
    rintro ⟨v, h⟩
    have hcl : cp < W.heap.size := (Array.getElem?_eq_some_iff.1 h.cell).1
    have hbc := h.bc
    refine (colsOne_any h.cell h.own hk (by omega) h.ap).mono ?_
    rintro e W' ⟨rfl, v', h1, h2, h3, h4, h5⟩
    refine ⟨rfl, v', h1, by rw [emptyCols_succ]; exact h2, h3, fun x hx => ?_, h.bc, h.bel.trans (h4.below (by omega) (fun b hb => ?_))⟩
    · obtain ⟨g1, g2, g3⟩ := h.held x hx
      refine ⟨held_turns g1 h4 ?_, g2, fun hv => ?_⟩
      · intro hm
        rcases List.mem_cons.1 hm with hm | hm
        · exact g2 hm
        · exact notin_own g3 hm
      · rcases h5 _ hv with h' | h'
        · exact g3 h'
        · have := (Array.getElem?_eq_some_iff.1 g1).1; omega
    · rcases List.mem_cons.1 hb with rfl | hb
      · exact h.bc
      · exact (h.own.block b (by simpa using hb)).1

set_option maxHeartbeats 1000000 in
theorem numberColumns_any (w : World) : Calls Tryz.prog 43 #[] w fun e w' => ∃ v, e = .returned v ∧ OwnRows w' w.heap.size 96 2 v (emptyCols 21) ∧ Below w.heap.size w w' := by
  have h0 : ColsI w w.heap.size w.heap.size [] 0 ((w.alloc (.cells #[.slice none 0 0] 89)).alloc (.cells #[.int .i64 0, .int .i64 0, .int .i64 0, .int .i64 0, .int .i64 0, .int .i64 0, .int .i64 0, .int .i64 0, .int .i64 0, .int .i64 0, .int .i64 0, .int .i64 0, .int .i64 0, .int .i64 0, .int .i64 0, .int .i64 0, .int .i64 0, .string { data := #[] }, .string { data := #[] }, .string { data := #[] }, .int .i64 0, .int .i64 0, .bool false, .int .i64 0, .int .i64 0, .bool false] 42)) (.slice none 0 0) :=
    ⟨held_alloc (Go.heap_alloc_new w _) _, OwnRows.none_ _ _ _ _, by simp [Value.ownBlock], by simp, Nat.le_refl _, below_alloc2 w _ _⟩
  go_enter Tryz.func43, Tryz.ntmps43
  go_wp2_with (go_at_call 44; refine (numbers_cols (colsHands w w.heap.size w.heap.size (w.heap.size + 1) 0) [] _ ⟨_, h0⟩).mono ?_; rintro e w1 ⟨rfl, x, v, h1⟩; have k0 : w1.cell? ⟨w.heap.size, 0, none⟩ = some v := cell_held h1.cell rfl)
  go_ret
  exact ⟨_, rfl, h1.own, h1.bel⟩
end Go.Proofs.YthpgfnhecfgiaaaGreatDoor
