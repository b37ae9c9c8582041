/-
  Slices whose elements are one cell each, kept as letters: what they hold, their length, an element's address, cuts, appends.
-/
import Derived.Test.YtpkiapjcilapoaaBase
import Derived.Laws.OwnMore
import Derived.Laws.AppendOwnNone
import Derived.Deep.AppendLies
import Derived.Deep.Draws
import Derived.OwnWalk
import Derived.LoopTactic
namespace Go.Proofs.Ytpkiapjcilapoaa
open Go.RowKit Go.Sort

theorem addr_at (b off i : Nat) : (⟨b, off, none⟩ : Addr).add i = ⟨b, off + i, none⟩ := by unfold Addr.add; split <;> simp_all

/-- A slice: it holds xs. -/
def RowAt (w : World) (v : Value) (xs : List Value) : Prop :=
  ∃ A c, v = .slice A xs.length c ∧ xs.length ≤ c ∧ c ≤ maxLen ∧
    (0 < xs.length → ∃ b off, A = some ⟨b, off, none⟩ ∧ b < w.heap.size ∧ ∀ i x, xs[i]? = some x → w.cell? ⟨b, off + i, none⟩ = some x) ∧ (A = none → c = 0)

section
variable {w w' : World} {v : Value} {xs : List Value}

theorem RowAt.below (h : RowAt w v xs) (hb : Below w.heap.size w w') : RowAt w' v xs := by
  obtain ⟨A, c, h1, h2, h3, h5, h6⟩ := h
  refine ⟨A, c, h1, h2, h3, fun hl => ?_, h6⟩
  obtain ⟨b, off, h7, h8, h9⟩ := h5 hl
  exact ⟨b, off, h7, Nat.lt_of_lt_of_le h8 hb.size, fun i x hx => (hb.cell (p := ⟨b, off + i, none⟩) h8).trans (h9 i x hx)⟩

theorem RowAt.drew (h : RowAt w v xs) : RowAt w.drew v xs := h
theorem RowAt.drewN (h : RowAt w v xs) (k : Nat) : RowAt (w.drewN k) v xs := h

theorem RowAt.le (h : RowAt w v xs) : (xs.length : Int) ≤ 9223372036854775807 := by
  obtain ⟨A, c, _, h2, h3, _⟩ := h
  unfold maxLen at h3; omega

theorem RowAt.len (h : RowAt w v xs) {P : Program} {t e ty : TypeId} (ht : P.underlying t = some (.slice e)) (W : World) : (Builtin.len_ #[t] ty #[v]).run P W = .ok (.int .i64 (xs.length : Nat)) W := by
  obtain ⟨A, c, rfl, _⟩ := h
  have he : P.elem t = e := by simp [Program.elem, ht]
  exact run_len_slice (P := P) W t ty A xs.length c (by rw [he]; exact ht)

theorem RowAt.index (h : RowAt w v xs) {P : Program} {t e : TypeId} (ht : P.underlying t = some (.slice e)) (hs : ∀ W, (sizeOf e).run P W = .ok 1 W) {k : Nat} (hk : k < xs.length) :
    ∃ ad : Addr, (∀ W, (Instr.indexAt t v (.int .i64 (k : Int))).run P W = .ok (.pointer (some ad)) W) ∧ w.cell? ad = xs[k]? ∧ ad.block < w.heap.size := by
  obtain ⟨A, c, rfl, h2, h3, h5, _⟩ := h
  obtain ⟨b, off, rfl, hb, hc⟩ := h5 (by omega)
  have he : P.elem t = e := by simp [Program.elem, ht]
  refine ⟨⟨b, off + k, none⟩, fun W => ?_, ?_, hb⟩
  · rw [run_indexAt_slice (P := P) W t _ xs.length c .i64 (k : Int) (by rw [he]; exact ht), if_pos (by omega), he, hs]
    simp [Result.andThen, addr_at]
  · rw [List.getElem?_eq_getElem hk]
    exact hc k _ (List.getElem?_eq_getElem hk)

/-- The elements from a place on. -/
theorem RowAt.from_ (h : RowAt w v xs) {P : Program} {t e : TypeId} (ht : P.underlying t = some (.slice e)) (hs : ∀ W, (sizeOf e).run P W = .ok 1 W) {k : Nat} (hk : k ≤ xs.length) :
    ∃ v', (∀ W, (Instr.slice t v (some (.int .i64 (k : Int))) none none).run P W = .ok v' W) ∧ RowAt w v' (xs.drop k) := by
  obtain ⟨A, c, rfl, h2, h3, h5, h6⟩ := h
  have he : P.elem t = e := by simp [Program.elem, ht]
  refine ⟨sliced A k xs.length c 1, fun W => ?_, ?_⟩
  · rw [run_slice_l (P := P) W t A xs.length c (by rw [he]; exact ht) .i64 (k : Int) (by omega) (by omega), he, hs]
    simp [Result.andThen]
  · refine ⟨if c = k then A else A.map (·.add (k * 1)), c - k, by rw [sliced, List.length_drop], by rw [List.length_drop]; omega, by unfold maxLen at *; omega, fun hl => ?_, fun hn => ?_⟩
    · rw [List.length_drop] at hl
      obtain ⟨b, off, rfl, h8, h9⟩ := h5 (by omega)
      rw [if_neg (by omega)]
      refine ⟨b, off + k, by simp [addr_at], h8, fun i x hx => ?_⟩
      rw [List.getElem?_drop] at hx
      rw [Nat.add_assoc]
      exact h9 _ x hx
    · split at hn
      · omega
      · have := h6 (by cases A <;> simp_all)
        omega

/-- The first so many elements. -/
theorem RowAt.upto (h : RowAt w v xs) {P : Program} {t e : TypeId} (ht : P.underlying t = some (.slice e)) (hs : ∀ W, (sizeOf e).run P W = .ok 1 W) {k : Nat} (hk : k ≤ xs.length) :
    ∃ v', (∀ W, (Instr.slice t v none (some (.int .i64 (k : Int))) none).run P W = .ok v' W) ∧ RowAt w v' (xs.take k) := by
  obtain ⟨A, c, rfl, h2, h3, h5, h6⟩ := h
  have he : P.elem t = e := by simp [Program.elem, ht]
  refine ⟨sliced A 0 k c 1, fun W => ?_, ?_⟩
  · rw [run_slice_h (P := P) W t A xs.length c (by rw [he]; exact ht) .i64 (k : Int) (by omega) (by omega), he, hs]
    simp [Result.andThen]
  · refine ⟨if c = 0 then A else A.map (·.add (0 * 1)), c, by rw [sliced, List.length_take, Nat.min_eq_left hk]; simp, by rw [List.length_take]; omega, h3, fun hl => ?_, fun hn => ?_⟩
    · rw [List.length_take] at hl
      obtain ⟨b, off, rfl, h8, h9⟩ := h5 (by omega)
      rw [if_neg (by omega)]
      refine ⟨b, off, by simp [addr_at], h8, fun i x hx => ?_⟩
      rw [List.getElem?_take] at hx
      split at hx
      · exact h9 _ x hx
      · cases hx
    · split at hn
      · assumption
      · exact h6 (by cases A <;> simp_all)
end

/-- A cut at its end, and the cut undone. -/
theorem RowAt.back {w : World} {v : Value} {xs : List Value} (h : RowAt w v xs) {P : Program} {t e : TypeId} (ht : P.underlying t = some (.slice e)) (hs : ∀ W, (sizeOf e).run P W = .ok 1 W) {k : Nat} (hk : k ≤ xs.length) (hpos : 0 < xs.length) :
    ∃ v', (∀ W, (Instr.slice t v none (some (.int .i64 (k : Int))) none).run P W = .ok v' W) ∧ RowAt w v' (xs.take k) ∧ (∀ W, (Instr.slice t v' none (some (.int .i64 (xs.length : Int))) none).run P W = .ok v W) := by
  have h0 := h
  obtain ⟨v', h1, h2⟩ := h0.upto ht hs hk
  refine ⟨v', h1, h2, fun W => ?_⟩
  obtain ⟨A, c, rfl, h3, h4, h5, h6⟩ := h
  obtain ⟨b, off, rfl, _, _⟩ := h5 hpos
  have he : P.elem t = e := by simp [Program.elem, ht]
  have h7 := h1 w
  rw [run_slice_h (P := P) w t _ xs.length c (by rw [he]; exact ht) .i64 (k : Int) (by omega) (by omega), he, hs] at h7
  simp only [Result.andThen, sliced, Int.toNat_natCast] at h7
  injection h7 with h8 _
  subst h8
  rw [if_neg (show ¬ c = 0 by omega)]
  rw [run_slice_h (P := P) W t _ _ _ (by rw [he]; exact ht) .i64 (xs.length : Int) (by omega) (by omega), he, hs]
  simp only [Result.andThen, sliced, Int.toNat_natCast]
  rw [if_neg (show ¬ c - 0 = 0 by omega)]
  simp [addr_at]

/-- What is known of a slice type whose elements are one cell each. -/
structure Elem (P : Program) (t e : TypeId) (z : Value) (bytes : Nat) : Prop where
  ht : P.underlying t = some (.slice e)
  hi : (P.info? e).map (fun i => (i.zero, i.size, i.bytes)) = some (some z, 1, bytes)
  hz : z.cells.size = 1
  hb : bytes ≤ 8
  hs : ∀ W, (sizeOf e).run P W = .ok 1 W

/-- A slice of the call's own: it holds xs. -/
def OwnRow (w : World) (base : Nat) (e : TypeId) (v : Value) (xs : List Value) : Prop := w.ownsRow base e 1 v xs.length xs

theorem OwnRow.none_ (w : World) (base : Nat) (e : TypeId) : OwnRow w base e (.slice none 0 0) [] := World.ownsRow_nil w base e 1

section
variable {w : World} {base : Nat} {e : TypeId} {v : Value} {xs : List Value}

theorem OwnRow.row (h : OwnRow w base e v xs) : RowAt w v xs := by
  rcases h.2 with ⟨rfl, hl⟩ | ⟨g, cap, cur, rfl, hb, hg, hnc, hcm, _⟩
  · have : xs = [] := List.eq_nil_of_length_eq_zero hl
    subst this
    exact ⟨none, 0, rfl, Nat.le_refl _, Nat.zero_le _, fun hh => absurd hh (by simp), fun _ => rfl⟩
  · refine ⟨some ⟨g, 0, none⟩, cap, rfl, hnc, hcm, fun hl => ⟨g, 0, rfl, (Array.getElem?_eq_some_iff.1 hg).1, fun i x hx => ?_⟩, fun hh => by cases hh⟩
    have := World.ownsRow.cells h (g := g) rfl i x hx
    rwa [addr_at] at this

theorem OwnRow.lower {B : Nat} (h : OwnRow w B e v xs) (hB : base ≤ B) : OwnRow w base e v xs := by
  refine ⟨h.1, ?_⟩
  rcases h.2 with hn | ⟨g, cap, cur, rfl, hbg, rest⟩
  · exact .inl hn
  · exact .inr ⟨g, cap, cur, rfl, Nat.le_trans hB hbg, rest⟩
theorem OwnRow.alloc (h : OwnRow w base e v xs) (o : Obj) : OwnRow (w.alloc o) base e v xs := World.ownsRow.alloc h o
theorem OwnRow.drew (h : OwnRow w base e v xs) : OwnRow w.drew base e v xs := h
theorem OwnRow.drewN (h : OwnRow w base e v xs) (k : Nat) : OwnRow (w.drewN k) base e v xs := h

/-- A call keeps it. -/
theorem OwnRow.below {w' : World} (h : OwnRow w base e v xs) (hb : Below w.heap.size w w') : OwnRow w' base e v xs := by
  refine ⟨h.1, ?_⟩
  rcases h.2 with hn | ⟨g, cap, cur, rfl, hbg, hg, rest⟩
  · exact .inl hn
  · exact .inr ⟨g, cap, cur, rfl, hbg, (hb.block g (Array.getElem?_eq_some_iff.1 hg).1).trans hg, rest⟩

theorem OwnRow.grown {w' : World} (h : OwnRow w base e v xs) (hg : w.grownBy w' v.ownBlock) (hbase : base ≤ w.heap.size) : Below base w w' :=
  (Below.refl _ _).grown hg hbase fun k hk => (World.ownsRow.lt h k hk).1

/-- append(v, x...), v the call's own, x any slice. -/
theorem append_row {P : Program} {t : TypeId} {z : Value} {bytes : Nat} (E : Elem P t e z bytes) {ops : Array Oper} {rest : List Oper} {o : Oper} {a : Act} {Q : Exit → Act → World → Prop} (hgd : o.guard = none) (sv sx : Operand)
    (ho : o.op = .call { callee := .builtin .append, args := #[sv, sx], argTypes := #[t, t] }) (base : Nat) {x : Value} {M : List Value}
    (hs : a.eval sv = v) (hown : OwnRow w base e v xs) (hx : a.eval sx = x) (hr : RowAt w x M) (h1 : ∀ u ∈ M, u.oneCell' = true) (hle : (xs.length + M.length) * 8 ≤ 140737488355328) (hbase : base ≤ w.heap.size)
    (h : ∀ v' w', OwnRow w' base e v' (xs ++ M) → Below base w w' → wpList P ops Q rest (a.put o.dst v') w') : wpList P ops Q (o :: rest) a w := by
  obtain ⟨i0, hi0, hz0, hz1, hz2⟩ := info_parts E.hi
  obtain ⟨A, c, rfl, _, _, hc, h0⟩ := hr
  have hb8 : (xs.length + M.length) * bytes ≤ 140737488355328 := Nat.le_trans (Nat.mul_le_mul_left _ E.hb) hle
  rcases A with _ | ad
  · have hM : M = [] := by
      cases M with
      | nil => rfl
      | cons y t => obtain ⟨_, _, hh, _⟩ := hc (by simp); cases hh
    subst hM
    obtain rfl := h0 rfl
    refine wpList_append_own_none hgd sv sx t ho base e i0 1 E.ht hi0 v xs.length xs hs hown hx ?_
    exact h v w (by simpa using hown) (Below.refl _ _)
  · refine wpList_append_own w hgd sv sx t ho base e i0 z 1 bytes E.ht hi0 hz0 hz1 hz2 E.hz (by decide) v xs.length xs hs hown ad M.length c M hx (by simp) ?_ h1 (by unfold maxLen; omega) hb8 hbase ?_
    · intro j u hu
      have hj : j < M.length := (List.getElem?_eq_some_iff.1 hu).1
      obtain ⟨b, off, he, _, hcell⟩ := hc (by omega)
      injection he with he
      subst he
      rw [addr_at]
      exact hcell j u hu
    · intro v' w' h2 h3 _
      exact h v' w' (by simpa [OwnRow] using h2) (hown.grown h3 hbase)

/-- The same in a region that draws its order: as a step. -/
theorem step_append_row {P : Program} {t : TypeId} {z : Value} {bytes : Nat} (E : Elem P t e z bytes) {ops : Array Oper} {o : Oper} {a : Act} {K : Act → World → Prop} {Q : Exit → Act → World → Prop} {F : Prop} (hgd : o.guard = none) (sv sx : Operand)
    (ho : o.op = .call { callee := .builtin .append, args := #[sv, sx], argTypes := #[t, t] }) (base : Nat) {M : List Value} {ad : Addr} {m c : Nat}
    (hs : a.eval sv = v) (hown : OwnRow w base e v xs) (hx : a.eval sx = .slice (some ad) m c) (hr : RowAt w (.slice (some ad) m c) M) (h1 : ∀ u ∈ M, u.oneCell' = true) (hle : (xs.length + M.length) * 8 ≤ 140737488355328) (hbase : base ≤ w.heap.size)
    (h : ∀ v' w', OwnRow w' base e v' (xs ++ M) → Below base w w' → K (a.put o.dst v') w') : if Region.wanted o (yielded ops a.tmps) = true then Oper.wp P o a w K Q else F := by
  have hw : Region.wanted o (yielded ops a.tmps) = true := by simp [Region.wanted, hgd]
  rw [if_pos hw]
  obtain ⟨i0, hi0, hz0, hz1, hz2⟩ := info_parts E.hi
  obtain ⟨A, c', he, _, _, hc, _⟩ := hr
  injection he with he1 he2 he3
  subst he1 he2 he3
  have hb8 : (xs.length + M.length) * bytes ≤ 140737488355328 := Nat.le_trans (Nat.mul_le_mul_left _ E.hb) hle
  refine wp_append_own w sv sx t ho base e i0 z 1 bytes E.ht hi0 hz0 hz1 hz2 E.hz (by decide) v xs.length xs hs hown ad M.length c M hx (by simp) ?_ h1 (by unfold maxLen; omega) hb8 hbase ?_
  · intro j u hu
    have hj : j < M.length := (List.getElem?_eq_some_iff.1 hu).1
    obtain ⟨b, off, he, _, hcell⟩ := hc (by omega)
    injection he with he
    subst he
    rw [addr_at]
    exact hcell j u hu
  · intro v' w' h2 h3 _
    exact h v' w' (by simpa [OwnRow] using h2) (hown.grown h3 hbase)

/-- One element in a new block. -/
theorem row_box (w : World) (e : TypeId) (x : Value) : RowAt (w.alloc (.cells #[x] e)) (.slice (some ⟨w.heap.size, 0, none⟩) 1 1) [x] := by
  refine ⟨some ⟨w.heap.size, 0, none⟩, 1, rfl, Nat.le_refl _, by decide, fun _ => ⟨w.heap.size, 0, rfl, by simp, fun i y hy => ?_⟩, fun h => by cases h⟩
  have hi : i = 0 := by have := (List.getElem?_eq_some_iff.1 hy).1; simpa using this
  subst hi
  simp at hy
  subst hy
  go_simp

theorem own_made' (w : World) (e : TypeId) : OwnRow (w.alloc (.cells #[] e)) w.heap.size e (.slice (some ⟨w.heap.size, 0, none⟩) 0 0) [] :=
  World.ownsRow_made w #[] 0 (Nat.le_refl _) (Nat.zero_le _) rfl
end
end Go.Proofs.Ytpkiapjcilapoaa
