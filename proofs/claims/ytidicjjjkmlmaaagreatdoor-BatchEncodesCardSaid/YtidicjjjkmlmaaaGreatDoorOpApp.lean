/-
  append of any slice of structs onto a row of the call's own, as a step of a region that draws.
-/
import Derived.Test.YtidicjjjkmlmaaaGreatDoorMOpB
import Derived.Deep.RegionLaw
namespace Go.Proofs.YtidicjjjkmlmaaaGreatDoor
open Go.RowKit Go.Sort

theorem run_append_rows0 {P : Program} {t e : TypeId} {z : Value} {k bytes base : Nat} {w : World} {v : Value} {xs : List (List Value)} (E : ElemK P t e z k bytes) (ty : TypeId) {x : Value} {M : List (List Value)}
    (hown : OwnRows w base e k v xs) (hr : RowsAt k w x M) (h1 : ∀ y ∈ M, ∀ u ∈ y, u.oneCell' = true) (hle : (xs.length + M.length) * 4096 ≤ 140737488355328) (hbase : base ≤ w.heap.size) :
    ∃ A m c w', (Builtin.append_ #[t, t] ty #[v, x]).run P w = .ok (.slice A m c) w' ∧ OwnRows w' base e k (.slice A m c) (xs ++ M) ∧ Turns v.ownBlock.toList w w' ∧ Below base w w' := by
  rcases Nat.eq_zero_or_pos M.length with h0 | hpos
  · have hM : M = [] := List.eq_nil_of_length_eq_zero h0
    subst hM
    obtain ⟨i0, hi0, hz0, hz1, hz2⟩ := info_parts E.hi
    obtain ⟨A, c, rfl, _, _, _, _, h6⟩ := hr
    rcases A with _ | ad
    · obtain rfl := h6 rfl
      have hrun := run_append_owned_none (P := P) w base t ty e i0 k E.ht hi0 v xs.length xs.flatten hown.1
      obtain ⟨A', c', hv', _⟩ := hown.rows
      refine ⟨A', xs.length, c', w, by rw [← hv']; exact hrun, by rw [← hv']; simpa using hown, Turns.refl _ _, Below.refl _ _⟩
    · have hb8 : (xs.length + 0) * bytes ≤ 140737488355328 := Nat.le_trans (Nat.mul_le_mul_left _ E.hb) (by simpa using hle)
      obtain ⟨v', w', hr', h2, h3, _⟩ := run_append_own (P := P) w base t ty e i0 z k bytes E.ht hi0 hz0 hz1 hz2 E.hz E.hk v xs.length xs.flatten hown.1 ad 0 c [] (by simp) (by simp) (by simp) (by simp [maxLen]; simp at hle; omega) hb8 hbase
      have hown2 : OwnRows w' base e k v' (xs ++ []) := ⟨by simpa using h2, by simpa using hown.2⟩
      obtain ⟨A', c', hv', _⟩ := hown2.rows
      have ht : Turns v.ownBlock.toList w w' := Turns.of_grown h3 (fun q hq => .inl (by rw [hq]; simp))
      refine ⟨A', _, c', w', by rw [← hv']; exact hr', by rw [← hv']; exact hown2, ht, ht.below hbase (fun b hb => (hown.block b (by simpa using hb)).1)⟩
  · obtain ⟨A, m, c, w', a1, a2, a3, _⟩ := run_append_rows E ty base hown hr hpos h1 hle hbase
    exact ⟨A, m, c, w', a1, a2, a3, a3.below hbase (fun b hb => (hown.block b (by simpa using hb)).1)⟩

theorem step_append_rows0 {P : Program} {t e : TypeId} {z : Value} {k bytes base : Nat} {w : World} {v : Value} {xs : List (List Value)} (E : ElemK P t e z k bytes) {ops : Array Oper} {o : Oper} {a : Act} {K : Act → World → Prop} {Q : Exit → Act → World → Prop} {D : Prop} (hgd : o.guard = none) (sv sx : Operand)
    (ho : o.op = .call { callee := .builtin .append, args := #[sv, sx], argTypes := #[t, t] }) {x : Value} {M : List (List Value)}
    (hs : a.eval sv = v) (hown : OwnRows w base e k v xs) (hx : a.eval sx = x) (hr : RowsAt k w x M) (h1 : ∀ y ∈ M, ∀ u ∈ y, u.oneCell' = true) (hle : (xs.length + M.length) * 4096 ≤ 140737488355328) (hbase : base ≤ w.heap.size)
    (h : ∀ A m c w', OwnRows w' base e k (.slice A m c) (xs ++ M) → Turns v.ownBlock.toList w w' → Below base w w' → K (a.put o.dst (.slice A m c)) w') : if Region.wanted o (yielded ops a.tmps) = true then Oper.wp P o a w K Q else D := by
  have hw : Region.wanted o (yielded ops a.tmps) = true := by simp [Region.wanted, hgd]
  rw [if_pos hw]
  obtain ⟨A, m, c, w', hr, h2, h3, h4⟩ := run_append_rows0 E o.type hown hr h1 hle hbase
  unfold Oper.wp execOp
  simp only [ho, resolve, invoke, builtin, Sem.run_bind, Sem.run_pure, Result.andThen_ok, List.map_toArray, List.map_cons, List.map_nil, hs, hx, hr]
  exact h A m c w' h2 h3 h4

/-- An empty row, just made. -/
theorem own_madeK (w : World) (e : TypeId) (k : Nat) : OwnRows (w.alloc (.cells #[] e)) w.heap.size e k (.slice (some ⟨w.heap.size, 0, none⟩) 0 0) [] :=
  ⟨⟨by simp, .inr ⟨w.heap.size, 0, #[], rfl, Nat.le_refl _, heap_alloc_new w _, Nat.le_refl _, Nat.zero_le _, by simp, by simp⟩⟩, by simp⟩
theorem rows_box_at {k : Nat} (w : World) (b : Nat) (hb : b = w.heap.size) (e : TypeId) (x : List Value) (hk : x.length = k) (cs : Array Value) (hcs : cs.toList = x) : RowsAt k (w.alloc (.cells cs e)) (.slice (some ⟨b, 0, none⟩) 1 1) [x] := by
  subst hb; exact rows_box w e x hk cs hcs
theorem own_madeK_at (w : World) (b base : Nat) (hb : b = w.heap.size) (hB : base ≤ w.heap.size) (e : TypeId) (k : Nat) : OwnRows (w.alloc (.cells #[] e)) base e k (.slice (some ⟨b, 0, none⟩) 0 0) [] := by
  subst hb; exact (own_madeK w e k).lower hB
theorem le_drew2 (W : World) (a b : Obj) : W.heap.size ≤ ((W.drew.alloc a).alloc b).heap.size := by simp; omega
theorem le_drew1 (W : World) (a : Obj) : W.heap.size ≤ (W.drew.alloc a).heap.size := by simp
theorem drew1_size (W : World) (a : Obj) : W.heap.size + 1 = (W.drew.alloc a).heap.size := by simp
theorem not_in_own {p q : Nat} (h : q ≠ p) (n c n' c' : Nat) : ∀ b, (Value.slice (some ⟨q, 0, none⟩) n c).ownBlock = some b → b ∉ (Value.slice (some ⟨p, 0, none⟩) n' c').ownBlock.toList := by
  intro b hb
  simp [Value.ownBlock] at hb ⊢
  omega
theorem OwnRows.up {w w' : World} {base : Nat} {e : TypeId} {k : Nat} {v : Value} {xs : List (List Value)} {F : List Nat} (h : OwnRows w base e k v xs) (ht : Turns F w w') (hF : ∀ b, v.ownBlock = some b → b ∉ F) : OwnRows w' base e k v xs := h.turns ht hF
theorem OwnRows.ops {w : World} {base : Nat} {v : Value} {l : List OpV} (h : OwnRows w base 33 26 v (l.map opL)) : OpsAt w v l := h.rows
theorem ops_one (l : List OpV) : ∀ y ∈ l.map opL, ∀ u ∈ y, u.oneCell' = true := by
  intro y hy u hu
  obtain ⟨o, _, rfl⟩ := List.mem_map.1 hy
  exact opL_one o u hu
end Go.Proofs.YtidicjjjkmlmaaaGreatDoor
