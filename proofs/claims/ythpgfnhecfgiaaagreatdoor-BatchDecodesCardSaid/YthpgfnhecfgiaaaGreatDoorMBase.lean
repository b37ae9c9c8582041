/-
  Joined: Base, Row, Store, By, Sl, VaNum, VaPut, VaZig, VaTake, BySame, VaBytes, VaApp, VaRefTake, Row2.
-/
import Derived.Test.YthpgfnhecfgiaaaGreatDoorRows
import Derived.WalkKit
import Derived.WalkSpells
import Derived.WalkLawsBesides
import Derived.Lib.QuietBelow
import Derived.BigQuiet
import Derived.ProofKit
import Derived.Handy
import Derived.Lib.Hide
import Derived.StillTailTactics
import Derived.Deep.RegionWith
import Derived.Laws.OwnMore
import Derived.Laws.AppendOwnNone
import Derived.Deep.AppendLies
import Derived.Deep.Draws
import Derived.OwnWalk
import Derived.LoopTactic
import Derived.Maps.AppendAt
import Derived.Laws.BytesArg
import Derived.Deep.RegionHeld3
import Derived.Deep.QuietTactic
import Derived.IntWalk
namespace Go.Proofs.YthpgfnhecfgiaaaGreatDoor
open Go.RowKit Go.Sort
set_option maxRecDepth 20000

/-- It hands back v, and of what was there nothing has turned. -/
def Ret (v : Value) (w : World) : Ending → World → Prop := fun e w' => e = .returned v ∧ Below w.heap.size w w'

theorem Ret.trans {v : Value} {w w1 : World} (h : Below w.heap.size w w1) : ∀ e w', Ret v w1 e w' → Ret v w e w' :=
  fun _ _ ⟨he, hb⟩ => ⟨he, h.trans (hb.mono h.size)⟩

/-- A contract met in a world of the class 'some blocks laid, some draws made'. -/
theorem Calls.ret_regrown {P : Program} {f : FuncId} {args : Array Value} {w : World} {d : Nat} {os : Array Obj} {v : Value}
    (h : Calls P f args (grow (redrawn w d) os) (Ret v (grow (redrawn w d) os))) : Calls P f args (grow (redrawn w d) os) fun e w'' => e = .returned v ∧ ∃ p : Regrown, w'' = grow (redrawn w p.d) p.os :=
  Calls.regrown_of h

theorem bcell {W w1 : World} (hb : Below W.heap.size W w1) : (∀ b o, b < W.heap.size → w1.cell? ⟨b, o, none⟩ = W.cell? ⟨b, o, none⟩) ∧ (∀ b o, b < W.heap.size → w1.frozen? ⟨b, o, none⟩ = W.frozen? ⟨b, o, none⟩) :=
  ⟨fun b o h => hb.cell (p := ⟨b, o, none⟩) h, fun b o h => hb.frozen (p := ⟨b, o, none⟩) h⟩

theorem ret_int {a b : Int} {k : IntKind} (h : a = b) : Ending.returned (.int k a) = .returned (.int k b) := by rw [h]
theorem ret_bool {a b : Bool} (h : a = b) : Ending.returned (.bool a) = .returned (.bool b) := by rw [h]

/-- The still walk with a forced tail, the world behind the draw under its own name. -/
theorem still_tail {P : Program} {id : Nat} {Q : Exit → Act → World → Prop} {a : Act} {w : World} {l : List Oper} (n : Nat) (hm : P.follows .mixedOrders = true) (hB : Region.lexTailB .any l.toArray n = true)
    (h : wpStill P l.toArray w.drew (fun a' => wpList P l.toArray Q (l.drop n) a' w.drew) (l.take n) a) : (Code.region id l.toArray true).wp P Q a w :=
  wp_region_still_tail n hm hB h

theorem below_alloc2 (w : World) (a b : Obj) : Below w.heap.size w ((w.alloc a).alloc b) :=
  ((Below.refl _ _).alloc (Nat.le_refl _) _).alloc (by simp) _

/-- Two structs of two integers, handed in by value: the world behind their boxes, by what it holds. -/
theorem two_boxes (w : World) (x0 x1 y0 y1 : Value) (T : TypeId) : ∃ W, (w.alloc (.cells #[x0, x1] T)).alloc (.cells #[y0, y1] T) = W ∧ Below w.heap.size w W ∧ W.cell? ⟨w.heap.size, 0, none⟩ = some x0 ∧ W.cell? ⟨w.heap.size, 1, none⟩ = some x1 ∧ W.cell? ⟨w.heap.size + 1, 0, none⟩ = some y0 ∧ W.cell? ⟨w.heap.size + 1, 1, none⟩ = some y1 :=
  ⟨_, rfl, below_alloc2 _ _ _, by go_simp, by go_simp, by go_simp, by go_simp⟩

theorem three_boxes (w : World) (x0 x1 y0 y1 z0 z1 : Value) (T : TypeId) : ∃ W, ((w.alloc (.cells #[x0, x1] T)).alloc (.cells #[y0, y1] T)).alloc (.cells #[z0, z1] T) = W ∧ Below w.heap.size w W ∧ W.cell? ⟨w.heap.size, 0, none⟩ = some x0 ∧ W.cell? ⟨w.heap.size, 1, none⟩ = some x1 ∧ W.cell? ⟨w.heap.size + 1, 0, none⟩ = some y0 ∧ W.cell? ⟨w.heap.size + 1, 1, none⟩ = some y1 ∧ W.cell? ⟨w.heap.size + 1 + 1, 0, none⟩ = some z0 ∧ W.cell? ⟨w.heap.size + 1 + 1, 1, none⟩ = some z1 :=
  ⟨_, rfl, (below_alloc2 _ _ _).alloc (by simp; omega) _, by go_simp, by go_simp, by go_simp, by go_simp, by go_simp, by go_simp⟩

/-- An int is at most 2^63 - 1. -/
theorem le_of_wf64 {n : Int} (h : (Lit.int .i64 n).wf = true) : n ≤ 9223372036854775807 := by
  simp only [Lit.wf, Bool.and_eq_true, decide_eq_true_eq] at h
  exact h.2

/-- One call more; one block more. -/
theorem then_call {w W w' : World} (h : Below w.heap.size w W) (hb : Below W.heap.size W w') : Below w.heap.size w w' := h.trans (hb.mono h.size)
theorem then_box {w W : World} (h : Below w.heap.size w W) (o : Obj) : Below w.heap.size w (W.alloc o) := h.alloc h.size o

/-- A contract 'the very world', the equation turned round. -/
theorem Calls.turn {P : Program} {f : FuncId} {args : Array Value} {w : World} {v : Value}
    (h : Calls P f args w fun e w' => e = .returned v ∧ w = w') : Calls P f args w fun e w' => e = .returned v ∧ w' = w :=
  h.mono fun _ _ ⟨he, hw⟩ => ⟨he, hw.symm⟩

theorem below_box {w w' : World} {o : Obj} (hb : Below (w.alloc o).heap.size (w.alloc o) w') : Below w.heap.size w w' :=
  ((Below.refl _ _).alloc (Nat.le_refl _) _).trans (hb.mono (by simp))
theorem below_box2 {w w' : World} {o o' : Obj} (hb : Below ((w.alloc o).alloc o').heap.size ((w.alloc o).alloc o') w') : Below w.heap.size w w' :=
  below_box (below_box hb)
theorem below_box1 (w : World) (o : Obj) : Below w.heap.size w (w.alloc o) := (Below.refl _ _).alloc (Nat.le_refl _) _

theorem below_drewN {B : Nat} {a w : World} (h : Below B a w) (n : Nat) : Below B a (w.drewN n) := ⟨h.os, h.tape, h.output, h.size, h.block⟩
end Go.Proofs.YthpgfnhecfgiaaaGreatDoor

namespace Go.Proofs.YthpgfnhecfgiaaaGreatDoor
open Go.RowKit Go.Sort
set_option maxRecDepth 20000

theorem addr_at (b off i : Nat) : (⟨b, off, none⟩ : Addr).add i = ⟨b, off + i, none⟩ := by unfold Addr.add; split <;> simp_all

/-- A slice: it holds xs. -/
def RowAt (w : World) (v : Value) (xs : List Value) : Prop :=
  ∃ A c, v = .slice A xs.length c ∧ xs.length ≤ c ∧ c ≤ maxLen ∧
    (0 < xs.length → ∃ b off, A = some ⟨b, off, none⟩ ∧ b < w.heap.size ∧ ∀ i x, xs[i]? = some x → w.cell? ⟨b, off + i, none⟩ = some x) ∧ (A = none → c = 0)

section
variable {w w' : World} {v : Value} {xs : List Value}

theorem RowAt.below (h : RowAt w v xs) (hb : Below w.heap.size w w') : RowAt w' v xs := by
  obtain ⟨A, c, h1, h2, h3, h5, h6⟩ := h
  refine ⟨A, c, h1, h2, h3, fun hl => ?_, h6⟩
  obtain ⟨b, off, h7, h8, h9⟩ := h5 hl
  exact ⟨b, off, h7, Nat.lt_of_lt_of_le h8 hb.size, fun i x hx => (hb.cell (p := ⟨b, off + i, none⟩) h8).trans (h9 i x hx)⟩

theorem RowAt.drew (h : RowAt w v xs) : RowAt w.drew v xs := h
theorem RowAt.drewN (h : RowAt w v xs) (k : Nat) : RowAt (w.drewN k) v xs := h

theorem RowAt.le (h : RowAt w v xs) : (xs.length : Int) ≤ 9223372036854775807 := by
  obtain ⟨A, c, _, h2, h3, _⟩ := h
  unfold maxLen at h3; omega

theorem RowAt.len (h : RowAt w v xs) {P : Program} {t e ty : TypeId} (ht : P.underlying t = some (.slice e)) (W : World) : (Builtin.len_ #[t] ty #[v]).run P W = .ok (.int .i64 (xs.length : Nat)) W := by
  obtain ⟨A, c, rfl, _⟩ := h
  have he : P.elem t = e := by simp [Program.elem, ht]
  exact run_len_slice (P := P) W t ty A xs.length c (by rw [he]; exact ht)

theorem RowAt.index (h : RowAt w v xs) {P : Program} {t e : TypeId} (ht : P.underlying t = some (.slice e)) (hs : ∀ W, (sizeOf e).run P W = .ok 1 W) {k : Nat} (hk : k < xs.length) :
    ∃ ad : Addr, (∀ W, (Instr.indexAt t v (.int .i64 (k : Int))).run P W = .ok (.pointer (some ad)) W) ∧ w.cell? ad = xs[k]? ∧ ad.block < w.heap.size := by
  obtain ⟨A, c, rfl, h2, h3, h5, _⟩ := h
  obtain ⟨b, off, rfl, hb, hc⟩ := h5 (by omega)
  have he : P.elem t = e := by simp [Program.elem, ht]
  refine ⟨⟨b, off + k, none⟩, fun W => ?_, ?_, hb⟩
  · rw [run_indexAt_slice (P := P) W t _ xs.length c .i64 (k : Int) (by rw [he]; exact ht), if_pos (by omega), he, hs]
    simp [Result.andThen, addr_at]
  · rw [List.getElem?_eq_getElem hk]
    exact hc k _ (List.getElem?_eq_getElem hk)

/-- The elements from a place on. -/
theorem RowAt.from_ (h : RowAt w v xs) {P : Program} {t e : TypeId} (ht : P.underlying t = some (.slice e)) (hs : ∀ W, (sizeOf e).run P W = .ok 1 W) {k : Nat} (hk : k ≤ xs.length) :
    ∃ v', (∀ W, (Instr.slice t v (some (.int .i64 (k : Int))) none none).run P W = .ok v' W) ∧ RowAt w v' (xs.drop k) := by
  obtain ⟨A, c, rfl, h2, h3, h5, h6⟩ := h
  have he : P.elem t = e := by simp [Program.elem, ht]
  refine ⟨sliced A k xs.length c 1, fun W => ?_, ?_⟩
  · rw [run_slice_l (P := P) W t A xs.length c (by rw [he]; exact ht) .i64 (k : Int) (by omega) (by omega), he, hs]
    simp [Result.andThen]
  · refine ⟨if c = k then A else A.map (·.add (k * 1)), c - k, by rw [sliced, List.length_drop], by rw [List.length_drop]; omega, by unfold maxLen at *; omega, fun hl => ?_, fun hn => ?_⟩
    · rw [List.length_drop] at hl
      obtain ⟨b, off, rfl, h8, h9⟩ := h5 (by omega)
      rw [if_neg (by omega)]
      refine ⟨b, off + k, by simp [addr_at], h8, fun i x hx => ?_⟩
      rw [List.getElem?_drop] at hx
      rw [Nat.add_assoc]
      exact h9 _ x hx
    · split at hn
      · omega
      · have := h6 (by cases A <;> simp_all)
        omega

/-- The first so many elements. -/
theorem RowAt.upto (h : RowAt w v xs) {P : Program} {t e : TypeId} (ht : P.underlying t = some (.slice e)) (hs : ∀ W, (sizeOf e).run P W = .ok 1 W) {k : Nat} (hk : k ≤ xs.length) :
    ∃ v', (∀ W, (Instr.slice t v none (some (.int .i64 (k : Int))) none).run P W = .ok v' W) ∧ RowAt w v' (xs.take k) := by
  obtain ⟨A, c, rfl, h2, h3, h5, h6⟩ := h
  have he : P.elem t = e := by simp [Program.elem, ht]
  refine ⟨sliced A 0 k c 1, fun W => ?_, ?_⟩
  · rw [run_slice_h (P := P) W t A xs.length c (by rw [he]; exact ht) .i64 (k : Int) (by omega) (by omega), he, hs]
    simp [Result.andThen]
  · refine ⟨if c = 0 then A else A.map (·.add (0 * 1)), c, by rw [sliced, List.length_take, Nat.min_eq_left hk]; simp, by rw [List.length_take]; omega, h3, fun hl => ?_, fun hn => ?_⟩
    · rw [List.length_take] at hl
      obtain ⟨b, off, rfl, h8, h9⟩ := h5 (by omega)
      rw [if_neg (by omega)]
      refine ⟨b, off, by simp [addr_at], h8, fun i x hx => ?_⟩
      rw [List.getElem?_take] at hx
      split at hx
      · exact h9 _ x hx
      · cases hx
    · split at hn
      · assumption
      · exact h6 (by cases A <;> simp_all)
end

/-- A cut at its end, and the cut undone. -/
theorem RowAt.back {w : World} {v : Value} {xs : List Value} (h : RowAt w v xs) {P : Program} {t e : TypeId} (ht : P.underlying t = some (.slice e)) (hs : ∀ W, (sizeOf e).run P W = .ok 1 W) {k : Nat} (hk : k ≤ xs.length) (hpos : 0 < xs.length) :
    ∃ v', (∀ W, (Instr.slice t v none (some (.int .i64 (k : Int))) none).run P W = .ok v' W) ∧ RowAt w v' (xs.take k) ∧ (∀ W, (Instr.slice t v' none (some (.int .i64 (xs.length : Int))) none).run P W = .ok v W) := by
  have h0 := h
  obtain ⟨v', h1, h2⟩ := h0.upto ht hs hk
  refine ⟨v', h1, h2, fun W => ?_⟩
  obtain ⟨A, c, rfl, h3, h4, h5, h6⟩ := h
  obtain ⟨b, off, rfl, _, _⟩ := h5 hpos
  have he : P.elem t = e := by simp [Program.elem, ht]
  have h7 := h1 w
  rw [run_slice_h (P := P) w t _ xs.length c (by rw [he]; exact ht) .i64 (k : Int) (by omega) (by omega), he, hs] at h7
  simp only [Result.andThen, sliced, Int.toNat_natCast] at h7
  injection h7 with h8 _
  subst h8
  rw [if_neg (show ¬ c = 0 by omega)]
  rw [run_slice_h (P := P) W t _ _ _ (by rw [he]; exact ht) .i64 (xs.length : Int) (by omega) (by omega), he, hs]
  simp only [Result.andThen, sliced, Int.toNat_natCast]
  rw [if_neg (show ¬ c - 0 = 0 by omega)]
  simp [addr_at]

/-- What is known of a slice type whose elements are one cell each. -/
structure Elem (P : Program) (t e : TypeId) (z : Value) (bytes : Nat) : Prop where
  ht : P.underlying t = some (.slice e)
  hi : (P.info? e).map (fun i => (i.zero, i.size, i.bytes)) = some (some z, 1, bytes)
  hz : z.cells.size = 1
  hb : bytes ≤ 8
  hs : ∀ W, (sizeOf e).run P W = .ok 1 W

/-- A slice of the call's own: it holds xs. -/
def OwnRow (w : World) (base : Nat) (e : TypeId) (v : Value) (xs : List Value) : Prop := w.ownsRow base e 1 v xs.length xs

theorem OwnRow.none_ (w : World) (base : Nat) (e : TypeId) : OwnRow w base e (.slice none 0 0) [] := World.ownsRow_nil w base e 1

section
variable {w : World} {base : Nat} {e : TypeId} {v : Value} {xs : List Value}

theorem OwnRow.row (h : OwnRow w base e v xs) : RowAt w v xs := by
  rcases h.2 with ⟨rfl, hl⟩ | ⟨g, cap, cur, rfl, hb, hg, hnc, hcm, _⟩
  · have : xs = [] := List.eq_nil_of_length_eq_zero hl
    subst this
    exact ⟨none, 0, rfl, Nat.le_refl _, Nat.zero_le _, fun hh => absurd hh (by simp), fun _ => rfl⟩
  · refine ⟨some ⟨g, 0, none⟩, cap, rfl, hnc, hcm, fun hl => ⟨g, 0, rfl, (Array.getElem?_eq_some_iff.1 hg).1, fun i x hx => ?_⟩, fun hh => by cases hh⟩
    have := World.ownsRow.cells h (g := g) rfl i x hx
    rwa [addr_at] at this

theorem OwnRow.lower {B : Nat} (h : OwnRow w B e v xs) (hB : base ≤ B) : OwnRow w base e v xs := by
  refine ⟨h.1, ?_⟩
  rcases h.2 with hn | ⟨g, cap, cur, rfl, hbg, rest⟩
  · exact .inl hn
  · exact .inr ⟨g, cap, cur, rfl, Nat.le_trans hB hbg, rest⟩
theorem OwnRow.alloc (h : OwnRow w base e v xs) (o : Obj) : OwnRow (w.alloc o) base e v xs := World.ownsRow.alloc h o
theorem OwnRow.drew (h : OwnRow w base e v xs) : OwnRow w.drew base e v xs := h
theorem OwnRow.drewN (h : OwnRow w base e v xs) (k : Nat) : OwnRow (w.drewN k) base e v xs := h

/-- A call keeps it. -/
theorem OwnRow.below {w' : World} (h : OwnRow w base e v xs) (hb : Below w.heap.size w w') : OwnRow w' base e v xs := by
  refine ⟨h.1, ?_⟩
  rcases h.2 with hn | ⟨g, cap, cur, rfl, hbg, hg, rest⟩
  · exact .inl hn
  · exact .inr ⟨g, cap, cur, rfl, hbg, (hb.block g (Array.getElem?_eq_some_iff.1 hg).1).trans hg, rest⟩

theorem OwnRow.grown {w' : World} (h : OwnRow w base e v xs) (hg : w.grownBy w' v.ownBlock) (hbase : base ≤ w.heap.size) : Below base w w' :=
  (Below.refl _ _).grown hg hbase fun k hk => (World.ownsRow.lt h k hk).1

/-- append(v, x...), v the call's own, x any slice. -/
theorem append_row {P : Program} {t : TypeId} {z : Value} {bytes : Nat} (E : Elem P t e z bytes) {ops : Array Oper} {rest : List Oper} {o : Oper} {a : Act} {Q : Exit → Act → World → Prop} (hgd : o.guard = none) (sv sx : Operand)
    (ho : o.op = .call { callee := .builtin .append, args := #[sv, sx], argTypes := #[t, t] }) (base : Nat) {x : Value} {M : List Value}
    (hs : a.eval sv = v) (hown : OwnRow w base e v xs) (hx : a.eval sx = x) (hr : RowAt w x M) (h1 : ∀ u ∈ M, u.oneCell' = true) (hle : (xs.length + M.length) * 8 ≤ 140737488355328) (hbase : base ≤ w.heap.size)
    (h : ∀ v' w', OwnRow w' base e v' (xs ++ M) → Below base w w' → wpList P ops Q rest (a.put o.dst v') w') : wpList P ops Q (o :: rest) a w := by
  obtain ⟨i0, hi0, hz0, hz1, hz2⟩ := info_parts E.hi
  obtain ⟨A, c, rfl, _, _, hc, h0⟩ := hr
  have hb8 : (xs.length + M.length) * bytes ≤ 140737488355328 := Nat.le_trans (Nat.mul_le_mul_left _ E.hb) hle
  rcases A with _ | ad
  · have hM : M = [] := by
      cases M with
      | nil => rfl
      | cons y t => obtain ⟨_, _, hh, _⟩ := hc (by simp); cases hh
    subst hM
    obtain rfl := h0 rfl
    refine wpList_append_own_none hgd sv sx t ho base e i0 1 E.ht hi0 v xs.length xs hs hown hx ?_
    exact h v w (by simpa using hown) (Below.refl _ _)
  · refine wpList_append_own w hgd sv sx t ho base e i0 z 1 bytes E.ht hi0 hz0 hz1 hz2 E.hz (by decide) v xs.length xs hs hown ad M.length c M hx (by simp) ?_ h1 (by unfold maxLen; omega) hb8 hbase ?_
    · intro j u hu
      have hj : j < M.length := (List.getElem?_eq_some_iff.1 hu).1
      obtain ⟨b, off, he, _, hcell⟩ := hc (by omega)
      injection he with he
      subst he
      rw [addr_at]
      exact hcell j u hu
    · intro v' w' h2 h3 _
      exact h v' w' (by simpa [OwnRow] using h2) (hown.grown h3 hbase)

/-- The same in a region that draws its order: as a step. -/
theorem step_append_row {P : Program} {t : TypeId} {z : Value} {bytes : Nat} (E : Elem P t e z bytes) {ops : Array Oper} {o : Oper} {a : Act} {K : Act → World → Prop} {Q : Exit → Act → World → Prop} {F : Prop} (hgd : o.guard = none) (sv sx : Operand)
    (ho : o.op = .call { callee := .builtin .append, args := #[sv, sx], argTypes := #[t, t] }) (base : Nat) {M : List Value} {ad : Addr} {m c : Nat}
    (hs : a.eval sv = v) (hown : OwnRow w base e v xs) (hx : a.eval sx = .slice (some ad) m c) (hr : RowAt w (.slice (some ad) m c) M) (h1 : ∀ u ∈ M, u.oneCell' = true) (hle : (xs.length + M.length) * 8 ≤ 140737488355328) (hbase : base ≤ w.heap.size)
    (h : ∀ v' w', OwnRow w' base e v' (xs ++ M) → Below base w w' → K (a.put o.dst v') w') : if Region.wanted o (yielded ops a.tmps) = true then Oper.wp P o a w K Q else F := by
  have hw : Region.wanted o (yielded ops a.tmps) = true := by simp [Region.wanted, hgd]
  rw [if_pos hw]
  obtain ⟨i0, hi0, hz0, hz1, hz2⟩ := info_parts E.hi
  obtain ⟨A, c', he, _, _, hc, _⟩ := hr
  injection he with he1 he2 he3
  subst he1 he2 he3
  have hb8 : (xs.length + M.length) * bytes ≤ 140737488355328 := Nat.le_trans (Nat.mul_le_mul_left _ E.hb) hle
  refine wp_append_own w sv sx t ho base e i0 z 1 bytes E.ht hi0 hz0 hz1 hz2 E.hz (by decide) v xs.length xs hs hown ad M.length c M hx (by simp) ?_ h1 (by unfold maxLen; omega) hb8 hbase ?_
  · intro j u hu
    have hj : j < M.length := (List.getElem?_eq_some_iff.1 hu).1
    obtain ⟨b, off, he, _, hcell⟩ := hc (by omega)
    injection he with he
    subst he
    rw [addr_at]
    exact hcell j u hu
  · intro v' w' h2 h3 _
    exact h v' w' (by simpa [OwnRow] using h2) (hown.grown h3 hbase)

/-- One element in a new block. -/
theorem row_box (w : World) (e : TypeId) (x : Value) : RowAt (w.alloc (.cells #[x] e)) (.slice (some ⟨w.heap.size, 0, none⟩) 1 1) [x] := by
  refine ⟨some ⟨w.heap.size, 0, none⟩, 1, rfl, Nat.le_refl _, by decide, fun _ => ⟨w.heap.size, 0, rfl, by simp, fun i y hy => ?_⟩, fun h => by cases h⟩
  have hi : i = 0 := by have := (List.getElem?_eq_some_iff.1 hy).1; simpa using this
  subst hi
  simp at hy
  subst hy
  go_simp

theorem own_made' (w : World) (e : TypeId) : OwnRow (w.alloc (.cells #[] e)) w.heap.size e (.slice (some ⟨w.heap.size, 0, none⟩) 0 0) [] :=
  World.ownsRow_made w #[] 0 (Nat.le_refl _) (Nat.zero_le _) rfl
end
end Go.Proofs.YthpgfnhecfgiaaaGreatDoor

namespace Go.Proofs.YthpgfnhecfgiaaaGreatDoor
open Go.RowKit Go.Sort
set_option maxRecDepth 20000

section
variable {w : World} {base : Nat} {e : TypeId} {v : Value} {xs : List Value}

theorem heap_set_at {w : World} {g : Nat} {cs : Array Value} {t : TypeId} {fz : Nat × Nat} (h : w.heap[g]? = some (.cells cs t fz)) (k : Nat) (u : Value) :
    (w.setCell ⟨g, k, none⟩ u).heap[g]? = some (.cells (cs.set! k u) t fz) := by
  obtain ⟨hlt, hk⟩ := Array.getElem?_eq_some_iff.1 h
  show (w.heap.modify g _)[g]? = _
  rw [Array.getElem?_eq_getElem (by rw [Array.size_modify]; exact hlt), Array.getElem_modify_self, hk]
  rfl

theorem OwnRow.store (h : OwnRow w base e v xs) {P : Program} {t : TypeId} (ht : P.underlying t = some (.slice e)) (hs : ∀ W, (sizeOf e).run P W = .ok 1 W) {k : Nat} (hk : k < xs.length) :
    ∃ ad : Addr, (∀ W, (Instr.indexAt t v (.int .i64 (k : Int))).run P W = .ok (.pointer (some ad)) W) ∧ w.cell? ad = xs[k]? ∧ w.frozen? ad = false ∧ base ≤ ad.block ∧ ad.block < w.heap.size ∧
      ∀ u, OwnRow (w.setCell ad u) base e v (xs.set k u) ∧ Below base w (w.setCell ad u) := by
  have hr := h.row
  rcases h.2 with ⟨rfl, hl⟩ | ⟨g, cap, cur, rfl, hb, hg, hnc, hcm, hsz, htk⟩
  · omega
  · have hlt := (Array.getElem?_eq_some_iff.1 hg).1
    have he : P.elem t = e := by simp [Program.elem, ht]
    refine ⟨⟨g, k, none⟩, fun W => ?_, ?_, by simp [World.frozen?, hg], hb, hlt, fun u => ⟨?_, (Below.refl _ _).setCell (p := ⟨g, k, none⟩) hb u⟩⟩
    · rw [run_indexAt_slice (P := P) W t _ xs.length cap .i64 (k : Int) (by rw [he]; exact ht), if_pos (by omega), he, hs]
      simp [Result.andThen, addr_at]
    · obtain ⟨A, c, h1, _, _, h4, _⟩ := hr
      obtain ⟨b, off, h5, _, h6⟩ := h4 (by omega)
      rw [h5] at h1
      injection h1 with h1
      injection h1 with h1
      injection h1 with h1 h2
      subst h1 h2
      rw [List.getElem?_eq_getElem hk]
      have := h6 k _ (List.getElem?_eq_getElem hk)
      simpa using this
    · refine ⟨by simp, .inr ⟨g, cap, cur.set! k u, by rw [List.length_set], hb, heap_set_at hg k u, by rw [List.length_set]; exact hnc, hcm, by simpa using hsz, ?_⟩⟩
      rw [List.length_set, Array.set!_eq_setIfInBounds, Array.toList_setIfInBounds, List.take_set, htk]
end
end Go.Proofs.YthpgfnhecfgiaaaGreatDoor

namespace Go.Proofs.YthpgfnhecfgiaaaGreatDoor
open Go.RowKit Go.Sort
set_option maxRecDepth 20000

theorem elemY : Elem Tryz.prog 22 5 (.int .u8 0) 1 := ⟨Tryz.underlying22, by kernel_rfl, rfl, by omega, fun W => by kernel_rfl⟩

/-- A byte's value; the values of bytes. -/
def bval (b : Nat) : Value := .int .u8 (b : Int)
def bvals (l : List Nat) : List Value := l.map bval
theorem bvals_length (l : List Nat) : (bvals l).length = l.length := by simp [bvals]
theorem bvals_append (l m : List Nat) : bvals (l ++ m) = bvals l ++ bvals m := by simp [bvals]
theorem bvals_one (l : List Nat) : ∀ u ∈ bvals l, u.oneCell' = true := by
  intro u hu
  obtain ⟨b, _, rfl⟩ := List.mem_map.1 hu
  rfl

theorem info_u8 : (Tryz.prog.info? 5).map (fun i => (i.zero, i.size, i.bytes)) = some (some (.int .u8 0), 1, 1) := by kernel_rfl

/-- A slice of bytes, the call's own: it holds l. -/
def Own (w : World) (base : Nat) (v : Value) (l : List Nat) : Prop := w.ownsRow base 5 1 v l.length (bvals l)

theorem own_none (w : World) (base : Nat) : Own w base (.slice none 0 0) [] := ⟨by simp [bvals], .inl ⟨rfl, by simp⟩⟩

/-- One cell more: a byte in a block of its own, appended. -/
theorem cell_box (w : World) (b : Nat) {e : TypeId} : ∀ (j : Nat) (u : Value), [bval b][j]? = some u → (w.alloc (.cells #[.int .u8 (b : Int)] e)).cell? ((⟨w.heap.size, 0, none⟩ : Addr).add j) = some u := by
  intro j u h
  match j with
  | 0 =>
    simp at h
    subst h
    show (w.alloc _).cell? ⟨w.heap.size, 0, none⟩ = _
    go_simp
    rfl
  | j + 1 => simp at h

theorem one_box (b : Nat) : ∀ u : Value, u ∈ [bval b] → u.oneCell' = true := by
  intro u h
  simp at h
  subst h
  rfl

/-- After an append of one byte. -/
theorem own_more {w wr w1 : World} {o : Obj} {v v' : Value} {l : List Nat} {b : Nat} (hown : Own wr w.heap.size v l) (hbel : Below w.heap.size w wr)
    (h1 : w1.ownsRow w.heap.size 5 1 v' (l.length + 1) (bvals l ++ [bval b])) (hg : (wr.alloc o).grownBy w1 v.ownBlock) : Own w1 w.heap.size v' (l ++ [b]) ∧ Below w.heap.size w w1 := by
  refine ⟨by simpa [Own, bvals] using h1, ?_⟩
  refine (then_box hbel o).grown hg (by have := hbel.size; simp; omega) ?_
  intro k hk
  exact (World.ownsRow.lt hown k hk).1

theorem hide {p : Prop} (h : p) : Hid p := h

theorem wf_i64 {n : Int} (h : (Lit.int .i64 n).wf = true) : -9223372036854775808 ≤ n ∧ n ≤ 9223372036854775807 := by
  have h1 : IntKind.i64.min = -9223372036854775808 := rfl
  have h2 : IntKind.i64.max = 9223372036854775807 := rfl
  simp only [Lit.wf, Bool.and_eq_true, decide_eq_true_eq] at h
  omega
theorem wf_u64 {n : Int} (h : (Lit.int .u64 n).wf = true) : 0 ≤ n ∧ n ≤ 18446744073709551615 := by
  have h1 : IntKind.u64.min = 0 := rfl
  have h2 : IntKind.u64.max = 18446744073709551615 := rfl
  simp only [Lit.wf, Bool.and_eq_true, decide_eq_true_eq] at h
  omega
theorem wf_u8 {n : Int} (h : (Lit.int .u8 n).wf = true) : 0 ≤ n ∧ n < 256 := by
  have h1 : IntKind.u8.min = 0 := rfl
  have h2 : IntKind.u8.max = 255 := rfl
  simp only [Lit.wf, Bool.and_eq_true, decide_eq_true_eq] at h
  omega

theorem add_at (b off i : Nat) : (⟨b, off, none⟩ : Addr).add i = ⟨b, off + i, none⟩ := by unfold Addr.add; split <;> simp_all

/-- A slice of bytes: it holds l. -/
def BytesAt (w : World) (v : Value) (l : List Nat) : Prop :=
  ∃ A c, v = .slice A l.length c ∧ l.length ≤ c ∧ c ≤ maxLen ∧ (∀ x ∈ l, x < 256) ∧
    (0 < l.length → ∃ b off, A = some ⟨b, off, none⟩ ∧ b < w.heap.size ∧ ∀ i, i < l.length → w.cell? ⟨b, off + i, none⟩ = some (.int .u8 (l.getD i 0 : Nat))) ∧ (A = none → c = 0)

theorem BytesAt.below {w w' : World} {v : Value} {l : List Nat} (h : BytesAt w v l) (hb : Below w.heap.size w w') : BytesAt w' v l := by
  obtain ⟨A, c, h1, h2, h3, h4, h5, h6⟩ := h
  refine ⟨A, c, h1, h2, h3, h4, fun hl => ?_, h6⟩
  obtain ⟨b, off, h6, h7, h8⟩ := h5 hl
  exact ⟨b, off, h6, Nat.lt_of_lt_of_le h7 hb.size, fun i hi => (hb.cell (p := ⟨b, off + i, none⟩) h7).trans (h8 i hi)⟩

/-- Further below: what was made since lies above. -/
theorem BytesAt.later {w W w' : World} {v : Value} {l : List Nat} (h : BytesAt w v l) (hb : Below W.heap.size W w') (hw : Below w.heap.size w W) : BytesAt w' v l := (h.below hw).below hb

theorem Own.bytes {w : World} {base : Nat} {v : Value} {l : List Nat} (h : Own w base v l) (hby : ∀ x ∈ l, x < 256) : BytesAt w v l := by
  rcases h.2 with ⟨rfl, hl⟩ | ⟨g, cap, cur, rfl, hb, hg, hnc, hcm, _⟩
  · have : l = [] := by cases l with | nil => rfl | cons => simp at hl
    subst this
    exact ⟨none, 0, rfl, Nat.le_refl _, Nat.zero_le _, by simp, fun hh => absurd hh (by simp), fun _ => rfl⟩
  · refine ⟨some ⟨g, 0, none⟩, cap, rfl, hnc, hcm, hby, fun hl => ⟨g, 0, rfl, (Array.getElem?_eq_some_iff.1 hg).1, fun i hi => ?_⟩, fun hh => by cases hh⟩
    have := World.ownsRow.cells h (g := g) rfl i (bval (l.getD i 0)) (by simp [bvals, List.getD, List.getElem?_eq_getElem hi])
    rwa [add_at] at this

theorem info_u8_size : Tryz.prog.cellsOf 5 = 1 := by kernel_rfl

/-- The text of bytes. -/
def strB (l : List Nat) : ByteArray := ⟨(l.map UInt8.ofNat).toArray⟩

theorem strB_inj {l m : List Nat} (hl : ∀ x ∈ l, x < 256) (hm : ∀ x ∈ m, x < 256) (h : strB l = strB m) : l = m := by
  have h1 : l.map UInt8.ofNat = m.map UInt8.ofNat := by
    have := congrArg (fun b => b.data.toList) h
    simpa [strB] using this
  have h2 := congrArg (List.map UInt8.toNat) h1
  rw [List.map_map, List.map_map] at h2
  have key : ∀ q : List Nat, (∀ x ∈ q, x < 256) → q.map (UInt8.toNat ∘ UInt8.ofNat) = q := by
    intro q hq
    have : q.map (UInt8.toNat ∘ UInt8.ofNat) = q.map id := List.map_congr_left (fun x hx => by have := hq x hx; simp; omega)
    simpa using this
  rwa [key l hl, key m hm] at h2

theorem run_bytes {w : World} {v : Value} {l : List Nat} (h : BytesAt w v l) : (convert 22 9 v).run Tryz.prog w = .ok (.string (strB l)) w := by
  obtain ⟨A, c, rfl, h2, h3, h4, h5, h6⟩ := h
  rw [run_convert_bytes_string w 22 9 5 A l.length c Tryz.underlying22 Tryz.underlying5 Tryz.underlying9]
  rcases A with _ | ad
  · have : l = [] := by
      cases l with
      | nil => rfl
      | cons x t => obtain ⟨_, _, h, _⟩ := h5 (by simp); cases h
    subst this
    simp [Conv.bytesToString]
    rfl
  · have hl : (loadCells ad l.length).run Tryz.prog w = .ok ((l.map (fun n : Nat => (n : Int))).map (Value.int .u8)).toArray w := by
      have := run_loadCells_list (P := Tryz.prog) w ad ((l.map (fun n : Nat => (n : Int))).map (Value.int .u8)) (fun j u hu => by
        have hj : j < l.length := by
          rcases Nat.lt_or_ge j l.length with h | h
          · exact h
          · rw [List.getElem?_eq_none (by simpa using h)] at hu; cases hu
        obtain ⟨b, off, he, _, hc⟩ := h5 (by omega)
        injection he with he
        subst he
        rw [add_at, hc j hj]
        simp [List.getElem?_eq_getElem hj] at hu
        simp [List.getD, List.getElem?_eq_getElem hj, hu])
      simpa using this
    rw [run_bytesToString w ad l.length c _ hl, foldl_push_bytes]
    simp [strB, ByteArray.empty, ByteArray.emptyWithCapacity, Function.comp_def]
    rfl

/-- Where a number's bytes lie. -/
theorem own_at {w : World} {base : Nat} {v : Value} {l : List Nat} (h : Own w base v l) (hne : 0 < l.length) : ∃ g c, v = .slice (some ⟨g, 0, none⟩) l.length c ∧ l.length ≤ c ∧ c ≤ maxLen ∧ base ≤ g ∧ g < w.heap.size ∧ ∀ i, i < l.length → w.cell? ⟨g, 0 + i, none⟩ = some (.int .u8 (l.getD i 0 : Nat)) := by
  rcases h.2 with ⟨rfl, hl⟩ | ⟨g, cap, cur, rfl, hb, hg, hnc, hcm, _⟩
  · omega
  · refine ⟨g, cap, rfl, hnc, hcm, hb, (Array.getElem?_eq_some_iff.1 hg).1, fun i hi => ?_⟩
    have := World.ownsRow.cells h (g := g) rfl i (bval (l.getD i 0)) (by simp [bvals, List.getD, List.getElem?_eq_getElem hi])
    rwa [add_at] at this

section
variable {w : World} {v x : Value} {L M : List Nat}

theorem grown_below {w' : World} {base : Nat} (hown : Own w base v L) (hg : w.grownBy w' v.ownBlock) (hbase : base ≤ w.heap.size) : Below base w w' :=
  (Below.refl _ _).grown hg hbase fun k hk => (World.ownsRow.lt hown k hk).1

set_option maxRecDepth 20000 in
/-- append(v, x...), v the call's own, x any slice of bytes. -/
theorem append_bytes {ops : Array Oper} {rest : List Oper} {o : Oper} {a : Act} {Q : Exit → Act → World → Prop} (hgd : o.guard = none) (sv sx : Operand)
    (ho : o.op = .call { callee := .builtin .append, args := #[sv, sx], argTypes := #[22, 22] }) (base : Nat)
    (hs : a.eval sv = v) (hown : Own w base v L) (hx : a.eval sx = x) (hb : BytesAt w x M) (hle : L.length + M.length ≤ 140737488355328) (hbase : base ≤ w.heap.size)
    (h : ∀ v' w', Own w' base v' (L ++ M) → Below base w w' → wpList Tryz.prog ops Q rest (a.put o.dst v') w') : wpList Tryz.prog ops Q (o :: rest) a w := by
  obtain ⟨i0, hi0, hz0, hz1, hz2⟩ := info_parts info_u8
  obtain ⟨A, c, rfl, _, _, _, hc, h0⟩ := hb
  rcases A with _ | ad
  · have hM : M = [] := by
      cases M with
      | nil => rfl
      | cons y t => obtain ⟨_, _, hh, _⟩ := hc (by simp); cases hh
    subst hM
    obtain rfl := h0 rfl
    refine wpList_append_own_none hgd sv sx 22 ho base 5 i0 1 Tryz.underlying22 hi0 v L.length (bvals L) hs hown hx ?_
    exact h v w (by simpa using hown) (Below.refl _ _)
  · refine wpList_append_own w hgd sv sx 22 ho base 5 i0 (.int .u8 0) 1 1 Tryz.underlying22 hi0 hz0 hz1 hz2 rfl (by decide) v L.length (bvals L) hs hown ad M.length c (bvals M) hx (by simp [bvals]) ?_ (bvals_one M) (by unfold maxLen; omega) (by omega) hbase ?_
    · intro j u hu
      have hj : j < M.length := by
        rcases Nat.lt_or_ge j M.length with hh | hh
        · exact hh
        · rw [List.getElem?_eq_none (by simpa [bvals] using hh)] at hu; cases hu
      obtain ⟨b, off, he, _, hcell⟩ := hc (by omega)
      injection he with he
      subst he
      rw [add_at, hcell j hj]
      simp [bvals, List.getElem?_eq_getElem hj] at hu
      simp [List.getD, List.getElem?_eq_getElem hj, ← hu, bval]
    · intro v' w' h1 h2 _
      exact h v' w' (by simpa [Own, bvals_append] using h1) (grown_below hown h2 hbase)

set_option maxRecDepth 20000 in
/-- The same, the row told: where something is held by then. -/
theorem append_bytes_at {ops : Array Oper} {rest : List Oper} {o : Oper} {a : Act} {Q : Exit → Act → World → Prop} (hgd : o.guard = none) (sv sx : Operand)
    (ho : o.op = .call { callee := .builtin .append, args := #[sv, sx], argTypes := #[22, 22] }) (base : Nat)
    (hs : a.eval sv = v) (hown : Own w base v L) (hx : a.eval sx = x) (hb : BytesAt w x M) (hle : L.length + M.length ≤ 140737488355328) (hbase : base ≤ w.heap.size)
    (R : List Nat) (N : Nat) (hR : L ++ M = R) (hN : R.length = N) (hpos : 0 < N)
    (h : ∀ g c w', Own w' base (.slice (some ⟨g, 0, none⟩) N c) R → (N : Int) ≤ (c : Nat) → (c : Int) ≤ 9223372036854775807 → base ≤ g → Below base w w' →
      wpList Tryz.prog ops Q rest (a.put o.dst (.slice (some ⟨g, 0, none⟩) N c)) w') : wpList Tryz.prog ops Q (o :: rest) a w := by
  refine append_bytes hgd sv sx ho base hs hown hx hb hle hbase fun v' w' h1 h2 => ?_
  rw [hR] at h1
  rcases h1.2 with ⟨rfl, hl⟩ | ⟨g, cap, cur, he, hbg, hg, hnc, hcm, _⟩
  · omega
  · rw [hN] at he
    subst he
    exact h g cap w' h1 (by omega) (by unfold maxLen at hcm; omega) hbg h2
end

/-- One byte in a new block. -/
theorem bytes_box (w : World) (b : Nat) (hb : b < 256) : BytesAt (w.alloc (.cells #[.int .u8 (b : Int)] 5)) (.slice (some ⟨w.heap.size, 0, none⟩) 1 1) [b] := by
  refine ⟨some ⟨w.heap.size, 0, none⟩, 1, rfl, Nat.le_refl _, by decide, by simpa using hb, fun _ => ⟨w.heap.size, 0, rfl, by simp, fun i hi => ?_⟩, fun h => by cases h⟩
  obtain rfl : i = 0 := by simpa using hi
  go_simp

/-- What `[]byte{}` makes. -/
theorem own_made (w : World) (e : Obj) (he : e = .cells #[] 5) : Own (w.alloc e) w.heap.size (.slice (some ⟨w.heap.size, 0, none⟩) 0 0) [] := by
  subst he
  exact World.ownsRow_made w #[] 0 (Nat.le_refl _) (Nat.zero_le _) rfl

theorem Own.below {w w' : World} {base B : Nat} {v : Value} {l : List Nat} (h : Own w base v l) (hb : Below B w w') (hB : ∀ k, v.ownBlock = some k → k < B) : Own w' base v l := by
  refine ⟨h.1, ?_⟩
  rcases h.2 with hn | ⟨g, cap, cur, rfl, hbg, hg, rest⟩
  · exact .inl hn
  · exact .inr ⟨g, cap, cur, rfl, hbg, (hb.block g (hB g rfl)).trans hg, rest⟩

/-- The first bytes of a slice of bytes. -/
theorem BytesAt.upto {w : World} {A : Option Addr} {n c : Nat} {l : List Nat} (h : BytesAt w (.slice A n c) l) (k : Nat) (hk : k ≤ l.length) : BytesAt w (.slice A k c) (l.take k) := by
  obtain ⟨A', c', he, h2, h3, h4, h5, h6⟩ := h
  injection he with h7 h8 h9
  subst h7 h9
  refine ⟨A, c, by rw [List.length_take, Nat.min_eq_left hk], by rw [List.length_take]; omega, h3, fun x hx => h4 x (List.mem_of_mem_take hx), fun hl => ?_, h6⟩
  rw [List.length_take] at hl
  obtain ⟨b, off, h10, h11, h12⟩ := h5 (by omega)
  refine ⟨b, off, h10, h11, fun i hi => ?_⟩
  rw [List.length_take] at hi
  rw [h12 i (by omega)]
  simp [List.getD, show i < k by omega]

/-- The bytes from a place on, the place before the capacity's end. -/
theorem BytesAt.from_ {w : World} {b off n c : Nat} {l : List Nat} (h : BytesAt w (.slice (some ⟨b, off, none⟩) n c) l) (k : Nat) (hk : k ≤ l.length) : BytesAt w (.slice (some ⟨b, off + k, none⟩) (l.length - k) (c - k)) (l.drop k) := by
  obtain ⟨A', c', he, h2, h3, h4, h5, h6⟩ := h
  injection he with h7 h8 h9
  subst h7 h9
  refine ⟨some ⟨b, off + k, none⟩, c - k, by rw [List.length_drop], by rw [List.length_drop]; omega, by unfold maxLen at *; omega, fun x hx => h4 x (List.mem_of_mem_drop hx), fun hl => ?_, fun hh => by cases hh⟩
  rw [List.length_drop] at hl
  obtain ⟨b', off', h10, h11, h12⟩ := h5 (by omega)
  injection h10 with h10
  injection h10 with h13 h14
  subst h13 h14
  refine ⟨b, off + k, rfl, h11, fun i hi => ?_⟩
  rw [List.length_drop] at hi
  have := h12 (k + i) (by omega)
  rw [Nat.add_assoc, this]
  simp [List.getD]

theorem Own.later {w w' : World} {base : Nat} {v : Value} {l : List Nat} (h : Own w base v l) (hb : Below w.heap.size w w') : Own w' base v l := by
  refine ⟨h.1, ?_⟩
  rcases h.2 with hn | ⟨g, cap, cur, rfl, hbg, hg, rest⟩
  · exact .inl hn
  · exact .inr ⟨g, cap, cur, rfl, hbg, (hb.block g (Array.getElem?_eq_some_iff.1 hg).1).trans hg, rest⟩

theorem Own.lower {w : World} {base B : Nat} {v : Value} {l : List Nat} (h : Own w B v l) (hB : base ≤ B) : Own w base v l := by
  refine ⟨h.1, ?_⟩
  rcases h.2 with hn | ⟨g, cap, cur, rfl, hbg, rest⟩
  · exact .inl hn
  · exact .inr ⟨g, cap, cur, rfl, Nat.le_trans hB hbg, rest⟩
theorem Own.drewN {w : World} {base : Nat} {v : Value} {l : List Nat} (h : Own w base v l) (k : Nat) : Own (w.drewN k) base v l := h

section
variable {w : World} {v : Value} {l : List Nat}

theorem BytesAt.row (h : BytesAt w v l) : RowAt w v (bvals l) := by
  obtain ⟨A, c, h1, h2, h3, _, h5, h6⟩ := h
  refine ⟨A, c, by rw [bvals_length]; exact h1, by rw [bvals_length]; exact h2, h3, fun hl => ?_, h6⟩
  rw [bvals_length] at hl
  obtain ⟨b, off, h7, h8, h9⟩ := h5 hl
  refine ⟨b, off, h7, h8, fun i x hx => ?_⟩
  have hi : i < l.length := by have := (List.getElem?_eq_some_iff.1 hx).1; rwa [bvals_length] at this
  rw [h9 i hi]
  simp [bvals, List.getElem?_eq_getElem hi] at hx
  simp [List.getD, List.getElem?_eq_getElem hi, ← hx, bval]

theorem RowAt.bytes (h : RowAt w v (bvals l)) (hby : ∀ x ∈ l, x < 256) : BytesAt w v l := by
  obtain ⟨A, c, h1, h2, h3, h5, h6⟩ := h
  rw [bvals_length] at h1 h2 h5
  refine ⟨A, c, h1, h2, h3, hby, fun hl => ?_, h6⟩
  obtain ⟨b, off, h7, h8, h9⟩ := h5 hl
  refine ⟨b, off, h7, h8, fun i hi => h9 i _ ?_⟩
  simp [bvals, List.getD, List.getElem?_eq_getElem hi, bval]

theorem BytesAt.byte (h : BytesAt w v l) : ∀ x ∈ l, x < 256 := by
  obtain ⟨_, _, _, _, _, h4, _⟩ := h
  exact h4

theorem BytesAt.cut (h : BytesAt w v l) {k : Nat} (hk : k ≤ l.length) :
    ∃ v', (∀ W, (Instr.slice 22 v (some (.int .i64 (k : Int))) none none).run Tryz.prog W = .ok v' W) ∧ BytesAt w v' (l.drop k) := by
  obtain ⟨v', h1, h2⟩ := h.row.from_ elemY.ht elemY.hs (k := k) (by rw [bvals_length]; exact hk)
  refine ⟨v', h1, RowAt.bytes ?_ (fun x hx => h.byte x (List.mem_of_mem_drop hx))⟩
  rw [bvals, ← List.map_drop] at h2
  exact h2

theorem BytesAt.first (h : BytesAt w v l) {k : Nat} (hk : k ≤ l.length) :
    ∃ v', (∀ W, (Instr.slice 22 v none (some (.int .i64 (k : Int))) none).run Tryz.prog W = .ok v' W) ∧ BytesAt w v' (l.take k) := by
  obtain ⟨v', h1, h2⟩ := h.row.upto elemY.ht elemY.hs (k := k) (by rw [bvals_length]; exact hk)
  refine ⟨v', h1, RowAt.bytes ?_ (fun x hx => h.byte x (List.mem_of_mem_take hx))⟩
  rw [bvals, ← List.map_take] at h2
  exact h2

theorem BytesAt.len (h : BytesAt w v l) {ty : TypeId} (W : World) : (Builtin.len_ #[22] ty #[v]).run Tryz.prog W = .ok (.int .i64 (l.length : Nat)) W := by
  have := h.row.len elemY.ht (ty := ty) W; rwa [bvals_length] at this
end

/-- A slice's length, out of its value. -/
def lenV : Value → Nat
  | .slice _ n _ => n
  | _ => 0
theorem RowAt.lenV {w : World} {v : Value} {xs : List Value} (h : RowAt w v xs) : lenV v = xs.length := by
  obtain ⟨A, c, rfl, _⟩ := h; rfl

theorem strB_beq {l m : List Nat} (hl : ∀ x ∈ l, x < 256) (hm : ∀ x ∈ m, x < 256) : ((strB l).toList == (strB m).toList) = decide (l = m) := by
  by_cases h : l = m
  · subst h; simp
  · rw [decide_eq_false h, beq_eq_false_iff_ne]
    intro h'
    rw [ByteArray.toList_eq, ByteArray.toList_eq] at h'
    exact h (strB_inj hl hm (ByteArray.ext (Array.toList_inj.1 h')))
end Go.Proofs.YthpgfnhecfgiaaaGreatDoor

namespace Go.Proofs.YthpgfnhecfgiaaaGreatDoor
open Go.RowKit Go.Sort
set_option maxRecDepth 20000

theorem elemI : Elem Tryz.prog 55 3 (.int .i64 0) 8 := ⟨Tryz.underlying55, by kernel_rfl, rfl, by omega, fun W => by kernel_rfl⟩
theorem elemT : Elem Tryz.prog 84 4 (.bool false) 1 := ⟨Tryz.underlying84, by kernel_rfl, rfl, by omega, fun W => by kernel_rfl⟩
def ints (l : List Int) : List Value := l.map (Value.int .i64)
def truths (l : List Bool) : List Value := l.map Value.bool
theorem ints_len (l : List Int) : (ints l).length = l.length := by simp [ints]
theorem truths_len (l : List Bool) : (truths l).length = l.length := by simp [truths]
theorem ints_app (l m : List Int) : ints (l ++ m) = ints l ++ ints m := by simp [ints]
theorem truths_app (l m : List Bool) : truths (l ++ m) = truths l ++ truths m := by simp [truths]
theorem ints_one (l : List Int) : ∀ u ∈ ints l, u.oneCell' = true := by
  intro u hu; obtain ⟨b, _, rfl⟩ := List.mem_map.1 hu; rfl
theorem truths_one (l : List Bool) : ∀ u ∈ truths l, u.oneCell' = true := by
  intro u hu; obtain ⟨b, _, rfl⟩ := List.mem_map.1 hu; rfl

/-- A slice of integers, of truths. -/
def IntsAt (w : World) (v : Value) (l : List Int) : Prop := RowAt w v (ints l)
def TruthsAt (w : World) (v : Value) (l : List Bool) : Prop := RowAt w v (truths l)

section
variable {w : World} {v : Value}
theorem IntsAt.len {l : List Int} (h : IntsAt w v l) {ty : TypeId} (W : World) : (Builtin.len_ #[55] ty #[v]).run Tryz.prog W = .ok (.int .i64 (l.length : Nat)) W := by
  have := RowAt.len h elemI.ht (ty := ty) W; rwa [ints_len] at this
theorem IntsAt.index {l : List Int} (h : IntsAt w v l) {k : Nat} (hk : k < l.length) :
    ∃ ad : Addr, (∀ W, (Instr.indexAt 55 v (.int .i64 (k : Int))).run Tryz.prog W = .ok (.pointer (some ad)) W) ∧ w.cell? ad = some (.int .i64 (l.getD k 0)) ∧ ad.block < w.heap.size := by
  obtain ⟨ad, h1, h2, h3⟩ := RowAt.index h elemI.ht elemI.hs (k := k) (by rw [ints_len]; exact hk)
  refine ⟨ad, h1, ?_, h3⟩
  rw [h2]; simp [ints, List.getD, List.getElem?_eq_getElem hk]
theorem TruthsAt.len {l : List Bool} (h : TruthsAt w v l) {ty : TypeId} (W : World) : (Builtin.len_ #[84] ty #[v]).run Tryz.prog W = .ok (.int .i64 (l.length : Nat)) W := by
  have := RowAt.len h elemT.ht (ty := ty) W; rwa [truths_len] at this
theorem TruthsAt.index {l : List Bool} (h : TruthsAt w v l) {k : Nat} (hk : k < l.length) :
    ∃ ad : Addr, (∀ W, (Instr.indexAt 84 v (.int .i64 (k : Int))).run Tryz.prog W = .ok (.pointer (some ad)) W) ∧ w.cell? ad = some (.bool (l.getD k false)) ∧ ad.block < w.heap.size := by
  obtain ⟨ad, h1, h2, h3⟩ := RowAt.index h elemT.ht elemT.hs (k := k) (by rw [truths_len]; exact hk)
  refine ⟨ad, h1, ?_, h3⟩
  rw [h2]; simp [truths, List.getD, List.getElem?_eq_getElem hk]
end
end Go.Proofs.YthpgfnhecfgiaaaGreatDoor

namespace Go.Proofs.YthpgfnhecfgiaaaGreatDoor

def putL (n : Nat) : List Nat := if n < 128 then [n] else (n % 128 + 128) :: putL (n / 128)
termination_by n

theorem putL_lt {n : Nat} (h : n < 128) : putL n = [n] := by rw [putL, if_pos h]
theorem putL_ge {n : Nat} (h : 128 ≤ n) : putL n = (n % 128 + 128) :: putL (n / 128) := by rw [putL, if_neg (by omega)]

def val : List Nat → Nat
  | [] => 0
  | b :: t => b % 128 + 128 * val t

theorem val_snoc : ∀ (l : List Nat) (b : Nat), val (l ++ [b]) = val l + 128 ^ l.length * (b % 128)
  | [], b => by simp [val]
  | a :: l, b => by
    rw [List.cons_append, val, val, val_snoc l b, List.length_cons, Nat.pow_succ, Nat.mul_add, Nat.mul_comm (128 ^ l.length) 128, Nat.mul_assoc]
    omega

theorem val_putL (n : Nat) : val (putL n) = n := by
  induction n using Nat.strongRecOn with
  | _ n ih =>
    by_cases h : n < 128
    · rw [putL_lt h]; simp [val]; omega
    · rw [putL_ge (by omega), val, ih (n / 128) (by omega)]; omega

theorem putL_inj {n m : Nat} (h : putL n = putL m) : n = m := by rw [← val_putL n, ← val_putL m, h]

/-- All bytes but the last one are 128 or more, the last one is less, and a 0 only where it is alone. -/
theorem putL_form (n : Nat) : ∃ f b, putL n = f ++ [b] ∧ (∀ x ∈ f, 128 ≤ x ∧ x < 256) ∧ b < 128 ∧ (f = [] ∨ 0 < b) := by
  induction n using Nat.strongRecOn with
  | _ n ih =>
    by_cases h : n < 128
    · exact ⟨[], n, by rw [putL_lt h]; rfl, by simp, h, .inl rfl⟩
    · obtain ⟨f, b, he, hf, hb, h0⟩ := ih (n / 128) (by omega)
      refine ⟨(n % 128 + 128) :: f, b, by rw [putL_ge (by omega), he]; rfl, ?_, hb, .inr ?_⟩
      · intro x hx
        rcases List.mem_cons.1 hx with rfl | hx
        · omega
        · exact hf x hx
      · rcases h0 with rfl | h0
        · have h1 : putL (n / 128) = [b] := by simpa using he
          have h2 := val_putL (n / 128)
          rw [h1] at h2
          simp only [val] at h2
          omega
        · exact h0

theorem putL_val : ∀ (f : List Nat) (b : Nat), (∀ x ∈ f, 128 ≤ x ∧ x < 256) → b < 128 → (f = [] ∨ 0 < b) → putL (val (f ++ [b])) = f ++ [b]
  | [], b, _, hb, _ => by
    have h : val ([] ++ [b]) = b := by simp [val]; omega
    rw [h, putL_lt hb]; rfl
  | x :: f, b, hf, hb, h0 => by
    have hx := hf x (by simp)
    have hp : 0 < b := by rcases h0 with h | h; · cases h
                          · exact h
    have hv : 0 < val (f ++ [b]) := by
      rw [val_snoc, Nat.mod_eq_of_lt hb]
      have := Nat.mul_pos (Nat.pow_pos (n := f.length) (show 0 < 128 by omega)) hp
      omega
    have ih := putL_val f b (fun y hy => hf y (by simp [hy])) hb (.inr hp)
    rw [List.cons_append, val, putL_ge (by omega)]
    have h1 : (x % 128 + 128 * val (f ++ [b])) % 128 + 128 = x := by omega
    have h2 : (x % 128 + 128 * val (f ++ [b])) / 128 = val (f ++ [b]) := by omega
    rw [h1, h2, ih]

/-- No two numbers have one's bytes at the beginning of the other's. -/
theorem putL_free (n : Nat) : ∀ (m : Nat) (x y : List Nat), putL n ++ x = putL m ++ y → n = m ∧ x = y := by
  induction n using Nat.strongRecOn with
  | _ n ih =>
    intro m x y h
    by_cases hn : n < 128 <;> by_cases hm : m < 128
    · rw [putL_lt hn, putL_lt hm] at h; simpa using h
    · rw [putL_lt hn, putL_ge (by omega)] at h; simp at h; omega
    · rw [putL_ge (by omega), putL_lt hm] at h; simp at h; omega
    · rw [putL_ge (by omega), putL_ge (show 128 ≤ m by omega), List.cons_append, List.cons_append] at h
      injection h with h1 h2
      obtain ⟨h3, h4⟩ := ih (n / 128) (by omega) _ _ _ h2
      exact ⟨by omega, h4⟩

theorem putL_pos (n : Nat) : 1 ≤ (putL n).length := by
  obtain ⟨f, b, he, _⟩ := putL_form n
  rw [he]; simp

theorem putL_len : ∀ (k n : Nat), n < 128 ^ (k + 1) → (putL n).length ≤ k + 1
  | 0, n, h => by rw [putL_lt (by simpa using h)]; simp
  | k + 1, n, h => by
    by_cases hn : n < 128
    · rw [putL_lt hn]; simp
    · rw [putL_ge (by omega), List.length_cons]
      have := putL_len k (n / 128) (by rw [Nat.div_lt_iff_lt_mul (by omega), ← Nat.pow_succ]; exact h)
      omega

theorem putL_len10 {n : Nat} (h : n < 18446744073709551616) : (putL n).length ≤ 10 := putL_len 9 n (Nat.lt_of_lt_of_le h (by decide))

theorem putL_mono (n : Nat) : ∀ m, n ≤ m → (putL n).length ≤ (putL m).length := by
  induction n using Nat.strongRecOn with
  | _ n ih =>
    intro m h
    by_cases hn : n < 128
    · rw [putL_lt hn]; exact putL_pos m
    · rw [putL_ge (by omega), putL_ge (show 128 ≤ m by omega), List.length_cons, List.length_cons]
      have := ih (n / 128) (by omega) (m / 128) (by omega)
      omega

theorem putL_byte (n : Nat) : ∀ x ∈ putL n, x < 256 := by
  intro x hx
  obtain ⟨f, b, he, hf, hb, _⟩ := putL_form n
  rw [he] at hx
  rcases List.mem_append.1 hx with h | h
  · exact (hf x h).2
  · simp at h; omega

/-- A number's bytes at the beginning of others: where the last one stands, and what it is. -/
theorem putL_at {m : Nat} {l : List Nat} (h : putL m <+: l) : ∃ j, j < l.length ∧ (putL m).length = j + 1 ∧ putL m = l.take (j + 1) ∧ l.getD j 0 < 128 ∧ (∀ i, i < j → 128 ≤ l.getD i 0) ∧ (j = 0 ∨ 0 < l.getD j 0) ∧
    (m < 18446744073709551616 → j ≤ 9 ∧ (j = 9 → l.getD j 0 ≤ 1)) := by
  obtain ⟨f, b, he, hf, hb, h0⟩ := putL_form m
  obtain ⟨t, rfl⟩ := h
  have hlen : (putL m).length = f.length + 1 := by rw [he]; simp
  have hg : (putL m ++ t).getD f.length 0 = b := by rw [he]; simp [List.getD]
  refine ⟨f.length, by simp [hlen]; omega, hlen, by rw [← hlen]; simp, by rw [hg]; exact hb, ?_, ?_, ?_⟩
  · intro i hi
    have : (putL m ++ t).getD i 0 = f[i] := by rw [he]; simp [List.getD, List.getElem?_append_left, hi]
    rw [this]
    exact (hf _ (List.getElem_mem hi)).1
  · rw [hg]
    rcases h0 with h | h
    · left; simp [h]
    · exact .inr h
  · intro hm
    have h10 := putL_len10 hm
    refine ⟨by omega, fun h9 => ?_⟩
    rw [hg]
    have hv := val_putL m
    rw [he, val_snoc, h9, Nat.mod_eq_of_lt hb] at hv
    have : (128 : Nat) ^ 9 = 9223372036854775808 := by decide
    rw [this] at hv
    omega

/-- What the document says of the number that is taken from bytes: which it is, of how many bytes, and which error. -/
def Taken (l : List Nat) (n k e : Nat) : Prop :=
  (n < 18446744073709551616 ∧ putL n <+: l ∧ k = (putL n).length ∧ e = 0) ∨ ((∀ m, m < 18446744073709551616 → ¬ putL m <+: l) ∧ n = 0 ∧ k = 0 ∧ e = 31)

theorem taken_any (l : List Nat) : ∃ n k e, Taken l n k e := by
  by_cases h : ∃ n, n < 18446744073709551616 ∧ putL n <+: l
  · obtain ⟨n, h1, h2⟩ := h
    exact ⟨n, _, 0, .inl ⟨h1, h2, rfl, rfl⟩⟩
  · exact ⟨0, 0, 31, .inr ⟨fun m h1 h2 => h ⟨m, h1, h2⟩, rfl, rfl, rfl⟩⟩

theorem Taken.bounds {l : List Nat} {n k e : Nat} (h : Taken l n k e) : n < 18446744073709551616 ∧ k ≤ 10 ∧ k ≤ l.length ∧ e ≤ 31 := by
  rcases h with ⟨h1, h2, rfl, rfl⟩ | ⟨_, rfl, rfl, rfl⟩
  · exact ⟨h1, putL_len10 h1, h2.length_le, by omega⟩
  · omega

theorem Taken.of {l : List Nat} {n k e m : Nat} (h : Taken l n k e) (hm : m < 18446744073709551616) (hp : putL m <+: l) : n = m ∧ k = (putL m).length ∧ e = 0 := by
  rcases h with ⟨h1, h2, h3, h4⟩ | ⟨h1, _⟩
  · obtain ⟨t, ht⟩ := hp
    obtain ⟨s, hs⟩ := h2
    obtain ⟨rfl, _⟩ := putL_free n m s t (by rw [hs, ht])
    exact ⟨rfl, h3, h4⟩
  · exact absurd hp (h1 m hm)

theorem Taken.none_ {l : List Nat} {n k e : Nat} (h : Taken l n k e) (hno : ∀ m, m < 18446744073709551616 → ¬ putL m <+: l) : n = 0 ∧ k = 0 ∧ e = 31 := by
  rcases h with ⟨h1, h2, _⟩ | ⟨_, h⟩
  · exact absurd h2 (hno n h1)
  · exact h

theorem val_take {l : List Nat} {i : Nat} (hi : i < l.length) : val (l.take (i + 1)) = val (l.take i) + 128 ^ i * (l.getD i 0 % 128) := by
  rw [List.take_add_one, List.getElem?_eq_getElem hi, Option.toList_some, val_snoc, List.length_take, Nat.min_eq_left (by omega)]
  simp [List.getD, List.getElem?_eq_getElem hi]

theorem val_take_mod {l : List Nat} {i : Nat} (hi : i < l.length) :
    (val (l.take i) % 18446744073709551616 + (l.getD i 0 % 128) * 2 ^ (7 * i) % 18446744073709551616) % 18446744073709551616 = val (l.take (i + 1)) % 18446744073709551616 := by
  rw [val_take hi, Nat.pow_mul, Nat.mul_comm, ← Nat.add_mod]

theorem val_lt : ∀ l : List Nat, val l < 128 ^ l.length
  | [] => by simp [val]
  | b :: t => by
    have := val_lt t
    rw [val, List.length_cons, Nat.pow_succ]
    omega

theorem taken_yes {l : List Nat} {n k e i : Nat} (ht : Taken l n k e) (hi : i < l.length) (h10 : i < 10) (hby : ∀ x ∈ l, x < 256) (hge : ∀ j, j < i → 128 ≤ l.getD j 0) (hlt : l.getD i 0 < 128)
    (h9 : i = 9 → l.getD i 0 = 1) (h0 : i = 0 ∨ 0 < l.getD i 0) : n = val (l.take (i + 1)) % 18446744073709551616 ∧ k = i + 1 ∧ e = 0 ∧ putL (val (l.take (i + 1)) % 18446744073709551616) = l.take (i + 1) := by
  have hsp : l.take (i + 1) = l.take i ++ [l.getD i 0] := by
    rw [List.take_add_one, List.getElem?_eq_getElem hi]; simp [List.getD, List.getElem?_eq_getElem hi]
  have hil : (l.take i).length = i := by rw [List.length_take]; omega
  have hput : putL (val (l.take (i + 1))) = l.take (i + 1) := by
    rw [hsp]
    refine putL_val _ _ ?_ hlt ?_
    · intro x hx
      obtain ⟨j, hj, rfl⟩ := List.mem_iff_getElem.1 hx
      have hji : j < i := by omega
      have := hge j hji
      have hjl : j < l.length := by omega
      simp only [List.getD, List.getElem?_eq_getElem hjl, Option.getD_some] at this
      rw [List.getElem_take]
      exact ⟨this, hby _ (List.getElem_mem hjl)⟩
    · rcases h0 with h | h
      · left; exact List.eq_nil_of_length_eq_zero (by omega)
      · exact .inr h
  have hv : val (l.take (i + 1)) < 18446744073709551616 := by
    by_cases h : i = 9
    · have h1 := h9 h
      rw [val_take hi, h1, h]
      have h2 := val_lt (l.take 9)
      rw [← h, hil, h] at h2
      rw [h] at *
      have : (128 : Nat) ^ 9 = 9223372036854775808 := by decide
      omega
    · have h1 := val_lt (l.take (i + 1))
      rw [List.length_take, Nat.min_eq_left (by omega)] at h1
      have h2 : 128 ^ (i + 1) ≤ 128 ^ 9 := Nat.pow_le_pow_right (by omega) (by omega)
      have : (128 : Nat) ^ 9 = 9223372036854775808 := by decide
      omega
  rw [Nat.mod_eq_of_lt hv, hput]
  obtain ⟨h1, h2, h3⟩ := ht.of hv (by rw [hput]; exact List.take_prefix _ _)
  exact ⟨h1, by rw [h2, hput, List.length_take]; omega, h3, rfl⟩

theorem taken_not {l : List Nat} {n k e i : Nat} (ht : Taken l n k e) (hi : i < l.length) (h10 : i < 10) (hge : ∀ j, j < i → 128 ≤ l.getD j 0) (hlt : l.getD i 0 < 128)
    (h : ¬ ((i = 9 → l.getD i 0 = 1) ∧ (i = 0 ∨ 0 < l.getD i 0))) : n = 0 ∧ k = 0 ∧ e = 31 ∧ putL (val (l.take (i + 1)) % 18446744073709551616) ≠ l.take (i + 1) := by
  have hno : ∀ m, m < 18446744073709551616 → ¬ putL m <+: l := by
    intro m hm hp
    obtain ⟨j, hj, _, _, hjl, hjg, hj0, hj9⟩ := putL_at hp
    obtain ⟨h9a, h9b⟩ := hj9 hm
    have hji : j = i := by
      rcases Nat.lt_trichotomy j i with h' | h' | h'
      · have := hge j h'; omega
      · exact h'
      · have := hjg i h'; omega
    subst hji
    refine h ⟨fun h' => ?_, hj0⟩
    have := h9b h'
    omega
  obtain ⟨h1, h2, h3⟩ := ht.none_ hno
  refine ⟨h1, h2, h3, fun heq => ?_⟩
  exact hno _ (Nat.mod_lt _ (by decide)) (by rw [heq]; exact List.take_prefix _ _)

theorem taken_end {l : List Nat} {n k e : Nat} (ht : Taken l n k e) (hge : ∀ j, j < l.length → j < 10 → 128 ≤ l.getD j 0) : n = 0 ∧ k = 0 ∧ e = 31 := by
  refine ht.none_ fun m hm hp => ?_
  obtain ⟨j, hj, _, _, hjl, _, _, hj9⟩ := putL_at hp
  have := (hj9 hm).1
  have := hge j hj (by omega)
  omega

/-- Of fewer bytes than a number's own nothing is taken. -/
theorem taken_cut {l : List Nat} {n k e j : Nat} (hm : ∃ m, m < 18446744073709551616 ∧ putL m <+: l ∧ j < (putL m).length) (ht : Taken (l.take j) n k e) : e = 31 := by
  obtain ⟨m, _, ⟨t, rfl⟩, hj⟩ := hm
  refine (ht.none_ fun m' _ hp => ?_).2.2
  have hp2 : putL m' <+: putL m ++ t := List.IsPrefix.trans hp (List.take_prefix _ _)
  obtain ⟨s, hs⟩ := hp2
  obtain ⟨rfl, _⟩ := putL_free m' m s t hs
  have := hp.length_le
  rw [List.length_take] at this
  omega
end Go.Proofs.YthpgfnhecfgiaaaGreatDoor

namespace Go.Proofs.YthpgfnhecfgiaaaGreatDoor
open Go.RowKit Go.Sort
set_option maxRecDepth 20000

/-- The bytes that were put so far and those to come. -/
def Sofar (n m k : Nat) (l : List Nat) : Prop := putL n = l ++ putL m ∧ l.length = k

theorem sofar_lt {n m k : Nat} {l : List Nat} (h : Sofar n m k l) (hm : m < 128) : putL n = l ++ [m] := by rw [h.1, putL_lt hm]
theorem sofar_ge {n m k : Nat} {l : List Nat} (h : Sofar n m k l) (hm : 128 ≤ m) : Sofar n (m / 128) (k + 1) (l ++ [m % 128 + 128]) := by
  refine ⟨by rw [h.1, putL_ge hm]; simp, by simp [h.2]⟩
theorem sofar_len {n m k : Nat} {l : List Nat} (h : Sofar n m k l) (hn : n < 18446744073709551616) : k + 1 ≤ 10 ∧ (k = 9 → m < 128) := by
  have h1 := putL_len10 hn
  have h2 := putL_pos m
  have h3 := congrArg List.length h.1
  rw [List.length_append, h.2] at h3
  refine ⟨by omega, fun h9 => ?_⟩
  apply Decidable.byContradiction
  intro hm
  rw [putL_ge (show 128 ≤ m by omega), List.length_cons] at h3
  have := putL_pos (m / 128)
  omega

set_option maxRecDepth 20000 in
set_option maxHeartbeats 1000000 in
theorem refPut_any (n : Nat) (hn : n < 18446744073709551616) (w : World) :
    Calls Tryz.prog 34 #[.int .u64 n] w fun e w' => ∃ v, e = .returned v ∧ Own w' w.heap.size v (putL n) ∧ Below w.heap.size w w' := by
  obtain ⟨i0, hi0, hz0, hz1, hz2⟩ := info_parts info_u8
  go_enter Tryz.func34, Tryz.ntmps34
  go_wp2
  go_loopw [0, 3] (fun t v wr => ∃ (m k : Nat) (l : List Nat), t = .int .u64 m ∧ m < 18446744073709551616 ∧ Sofar n m k l ∧ Own wr w.heap.size v l ∧ Below w.heap.size w wr) (fun t _ _ => (intOf t).toNat)
  case atStart => exact ⟨n, 0, [], rfl, hn, ⟨rfl, rfl⟩, own_none _ _, Below.refl _ _⟩
  case round =>
    obtain ⟨m, k, l, rfl, hm, hs, hown, hbel⟩ := hrel
    have hlen := sofar_len hs hn
    have hl2 := hs.2
    have hcap : l.length ≤ 10 := by omega
    rcases Nat.lt_or_ge m 128 with h128 | h128
    · have hfin := Lib.hid (sofar_lt hs h128)
      clear hs hlen hl2
      have hwx : IntKind.u8.wrap (m : Int) = m := by rw [IntKind.wrap_u8]; omega
      go_wp2_with (at_builtin; refine wpList_append_own _ rfl (.tmp 15) (.tmp 18) _ rfl w.heap.size 5 i0 (.int .u8 0) 1 1 Tryz.underlying22 hi0 hz0 hz1 hz2 rfl (by decide) _ _ _ rfl (hown.alloc _) ⟨wr.heap.size, 0, none⟩ 1 1 [bval m] rfl rfl (cell_box wr m) (one_box m) ?c3 ?c4 ?c5 ?_)
      case c3 => unfold maxLen; omega
      case c4 => omega
      case c5 => have := hbel.size; simp; omega
      intro v1 w1 hown1 hg1 _
      obtain ⟨ho, hb⟩ := own_more hown hbel hown1 hg1
      clear hown hbel hown1 hg1
      go_wp2
      go_ret
      exact ⟨v1, rfl, by rw [hfin.out]; exact ho, hb⟩
    · have hnext := Lib.hid (sofar_ge hs h128)
      clear hs hl2
      go_wp2_with (at_builtin; refine wpList_append_own _ rfl (.tmp 6) (.tmp 11) _ rfl w.heap.size 5 i0 (.int .u8 0) 1 1 Tryz.underlying22 hi0 hz0 hz1 hz2 rfl (by decide) _ _ _ rfl (hown.alloc _) ⟨wr.heap.size, 0, none⟩ 1 1 [bval (m % 128 + 128)] rfl rfl (cell_box wr (m % 128 + 128)) (one_box _) ?d3 ?d4 ?d5 ?_)
      case d3 => unfold maxLen; omega
      case d4 => omega
      case d5 => have := hbel.size; simp; omega
      intro v1 w1 hown1 hg1 _
      obtain ⟨ho, hb⟩ := own_more hown hbel hown1 hg1
      clear hown hbel hown1 hg1
      go_wp2
      go_roundw
      case rel => exact ⟨m / 128, k + 1, _, by go_num, by omega, hnext.out, ho, hb⟩
      case measure => simp [intOf]; omega

set_option maxRecDepth 20000 in
set_option maxHeartbeats 1000000 in
theorem put_any (n : Nat) (hn : n < 18446744073709551616) (w : World) :
    Calls Tryz.prog 21 #[.int .u64 n] w fun e w' => ∃ v, e = .returned v ∧ Own w' w.heap.size v (putL n) ∧ Below w.heap.size w w' := by
  obtain ⟨i0, hi0, hz0, hz1, hz2⟩ := info_parts info_u8
  go_enter Tryz.func21, Tryz.ntmps21
  go_wp2
  go_loopw [0, 3, 4] (fun t v i wr => ∃ (m k : Nat) (l : List Nat), t = .int .u64 m ∧ i = .int .i64 k ∧ m < 18446744073709551616 ∧ Sofar n m k l ∧ Own wr w.heap.size v l ∧ Below w.heap.size w wr) (fun t _ _ _ => (intOf t).toNat)
  case atStart => exact ⟨n, 0, [], rfl, rfl, hn, ⟨rfl, rfl⟩, own_none _ _, Below.refl _ _⟩
  case round =>
    obtain ⟨m, k, l, rfl, rfl, hm, hs, hown, hbel⟩ := hrel
    have hlen := sofar_len hs hn
    have hl2 := hs.2
    have hcap : l.length ≤ 10 := by omega
    have hk10 : k < 10 := by omega
    rcases Nat.lt_or_ge m 128 with h128 | h128
    · have hfin := Lib.hid (sofar_lt hs h128)
      clear hs hlen hl2
      have hwx : IntKind.u8.wrap (m : Int) = m := by rw [IntKind.wrap_u8]; omega
      go_wp2_with (at_builtin; refine wpList_append_own _ rfl (.tmp 18) (.tmp 21) _ rfl w.heap.size 5 i0 (.int .u8 0) 1 1 Tryz.underlying22 hi0 hz0 hz1 hz2 rfl (by decide) _ _ _ rfl (hown.alloc _) ⟨wr.heap.size, 0, none⟩ 1 1 [bval m] rfl rfl (cell_box wr m) (one_box m) ?c3 ?c4 ?c5 ?_)
      case c3 => unfold maxLen; omega
      case c4 => omega
      case c5 => have := hbel.size; simp; omega
      intro v1 w1 hown1 hg1 _
      obtain ⟨ho, hb⟩ := own_more hown hbel hown1 hg1
      clear hown hbel hown1 hg1
      go_wp2
      go_ret
      exact ⟨v1, rfl, by rw [hfin.out]; exact ho, hb⟩
    · have hnext := Lib.hid (sofar_ge hs h128)
      clear hs hl2
      go_wp2_with (at_builtin; refine wpList_append_own _ rfl (.tmp 8) (.tmp 13) _ rfl w.heap.size 5 i0 (.int .u8 0) 1 1 Tryz.underlying22 hi0 hz0 hz1 hz2 rfl (by decide) _ _ _ rfl (hown.alloc _) ⟨wr.heap.size, 0, none⟩ 1 1 [bval (m % 128 + 128)] rfl rfl (cell_box wr (m % 128 + 128)) (one_box _) ?d3 ?d4 ?d5 ?_)
      case d3 => unfold maxLen; omega
      case d4 => omega
      case d5 => have := hbel.size; simp; omega
      intro v1 w1 hown1 hg1 _
      obtain ⟨ho, hb⟩ := own_more hown hbel hown1 hg1
      clear hown hbel hown1 hg1
      go_wp2
      go_roundw
      case rel => exact ⟨m / 128, k + 1, _, by go_num, by go_num, by omega, hnext.out, ho, hb⟩
      case measure => simp [intOf]; omega
end Go.Proofs.YthpgfnhecfgiaaaGreatDoor

namespace Go.Proofs.YthpgfnhecfgiaaaGreatDoor
open Go.RowKit Go.Sort
set_option maxRecDepth 20000

def zig (n : Int) : Int := if n < 0 then -2 * n - 1 else 2 * n
def zag (m : Int) : Int := if m % 2 = 1 then -(m / 2) - 1 else m / 2

theorem zig_ways (n : Int) : (n < 0 ∧ Hid (zig n = -2 * n - 1)) ∨ (0 ≤ n ∧ Hid (zig n = 2 * n)) := by
  by_cases h : n < 0
  · exact .inl ⟨h, Lib.hid (by rw [zig, if_pos h])⟩
  · exact .inr ⟨by omega, Lib.hid (by rw [zig, if_neg h])⟩
theorem zag_ways (m : Int) : ∃ q : Int, (m = 2 * q + 1 ∧ Hid (zag m = -q - 1)) ∨ (m = 2 * q ∧ Hid (zag m = q)) := by
  refine ⟨m / 2, ?_⟩
  by_cases h : m % 2 = 1
  · exact .inl ⟨by omega, Lib.hid (by rw [zag, if_pos h])⟩
  · exact .inr ⟨by omega, Lib.hid (by rw [zag, if_neg h])⟩

theorem ret_u64 {a b : Int} (h : a = b) : Ending.returned (.int .u64 a) = .returned (.int .u64 b) := by rw [h]

set_option maxHeartbeats 400000 in
theorem zig_any (n : Int) (hl : -9223372036854775808 ≤ n) (hh : n ≤ 9223372036854775807) (w : World) :
    Calls Tryz.prog 78 #[.int .i64 n] w fun e w' => e = .returned (.int .u64 (zig n)) ∧ w = w' := by
  rcases zig_ways n with ⟨h1, H⟩ | ⟨h1, H⟩
  all_goals
    go_enter Tryz.func78, Tryz.ntmps78
    go_wp2
    go_ret
    exact ⟨ret_u64 (by have h := H.out; omega), rfl⟩

set_option maxHeartbeats 400000 in
theorem refZig_any (n : Int) (hl : -9223372036854775808 ≤ n) (hh : n ≤ 9223372036854775807) (w : World) :
    Calls Tryz.prog 59 #[.int .i64 n] w fun e w' => e = .returned (.int .u64 (zig n)) ∧ w = w' := by
  rcases zig_ways n with ⟨h1, H⟩ | ⟨h1, H⟩
  all_goals
    go_enter Tryz.func59, Tryz.ntmps59
    go_wp2
    go_ret
    exact ⟨ret_u64 (by have h := H.out; omega), rfl⟩

set_option maxHeartbeats 400000 in
theorem zag_any (m : Int) (hl : 0 ≤ m) (hh : m ≤ 18446744073709551615) (w : World) :
    Calls Tryz.prog 96 #[.int .u64 m] w fun e w' => e = .returned (.int .i64 (zag m)) ∧ w = w' := by
  obtain ⟨q, ⟨rfl, H⟩ | ⟨rfl, H⟩⟩ := zag_ways m
  all_goals
    go_enter Tryz.func96, Tryz.ntmps96
    go_wp2
    go_ret
    exact ⟨ret_int (by have h := H.out; omega), rfl⟩

set_option maxHeartbeats 400000 in
theorem refZag_any (m : Int) (hl : 0 ≤ m) (hh : m ≤ 18446744073709551615) (w : World) :
    Calls Tryz.prog 35 #[.int .u64 m] w fun e w' => e = .returned (.int .i64 (zag m)) ∧ w = w' := by
  obtain ⟨q, ⟨rfl, H⟩ | ⟨rfl, H⟩⟩ := zag_ways m
  all_goals
    go_enter Tryz.func35, Tryz.ntmps35
    go_wp2
    go_ret
    exact ⟨ret_int (by have h := H.out; omega), rfl⟩

/-- What 'ends' tells. -/
def endsB (i b : Nat) : Bool := decide ((i = 9 → b = 1) ∧ (i = 0 ∨ 0 < b))

set_option maxHeartbeats 400000 in
theorem ends_any (i b : Nat) (hb : b < 256) (w : World) :
    Calls Tryz.prog 51 #[.int .i64 i, .int .u8 b] w fun e w' => e = .returned (.bool (endsB i b)) ∧ w = w' := by
  have H : (i = 9 ∧ b = 1 ∧ Hid (endsB i b = true)) ∨ (i = 9 ∧ b ≠ 1 ∧ Hid (endsB i b = false)) ∨ (i = 0 ∧ Hid (endsB i b = true)) ∨ (i ≠ 0 ∧ i ≠ 9 ∧ b = 0 ∧ Hid (endsB i b = false)) ∨ (i ≠ 0 ∧ i ≠ 9 ∧ 0 < b ∧ Hid (endsB i b = true)) := by
    have ht : ∀ {p : Prop} [Decidable p], p → Hid (decide p = true) := fun h => decide_eq_true h
    have hf : ∀ {p : Prop} [Decidable p], ¬ p → Hid (decide p = false) := fun h => decide_eq_false h
    by_cases h9 : i = 9
    · by_cases hb : b = 1
      · exact .inl ⟨h9, hb, ht ⟨fun _ => hb, by omega⟩⟩
      · exact .inr (.inl ⟨h9, hb, hf (fun h => hb (h.1 h9))⟩)
    · by_cases h0 : i = 0
      · exact .inr (.inr (.inl ⟨h0, ht ⟨fun h => absurd h h9, .inl h0⟩⟩))
      · by_cases hb : b = 0
        · exact .inr (.inr (.inr (.inl ⟨h0, h9, hb, hf (fun h => by omega)⟩)))
        · exact .inr (.inr (.inr (.inr ⟨h0, h9, by omega, ht ⟨fun h => absurd h h9, by omega⟩⟩)))
  rcases H with ⟨rfl, rfl, H⟩ | ⟨rfl, h2, H⟩ | ⟨rfl, H⟩ | ⟨h1, h2, rfl, H⟩ | ⟨h1, h2, h3, H⟩
  · go_enter Tryz.func51, Tryz.ntmps51
    go_wp2
    go_ret
    exact ⟨ret_bool (by rw [H.out] <;> first | rfl | exact beq_false_of_ne (by omega)), rfl⟩
  · have hd : decide ((b : Int) = 1) = false := decide_eq_false (by omega)
    go_enter Tryz.func51, Tryz.ntmps51
    go_wp2
    go_ret
    exact ⟨ret_bool (by rw [H.out] <;> first | rfl | exact beq_false_of_ne (by omega)), rfl⟩
  · go_enter Tryz.func51, Tryz.ntmps51
    go_wp2
    go_ret
    exact ⟨ret_bool (by rw [H.out] <;> first | rfl | exact beq_false_of_ne (by omega)), rfl⟩
  · have hd : decide ((i : Int) = 9) = false := decide_eq_false (by omega)
    have hd2 : decide ((i : Int) = 0) = false := decide_eq_false (by omega)
    go_enter Tryz.func51, Tryz.ntmps51
    go_wp2
    go_ret
    exact ⟨ret_bool (by rw [H.out] <;> first | rfl | exact beq_false_of_ne (by omega)), rfl⟩
  · have hd : decide ((i : Int) = 9) = false := decide_eq_false (by omega)
    have hd2 : decide ((i : Int) = 0) = false := decide_eq_false (by omega)
    go_enter Tryz.func51, Tryz.ntmps51
    go_wp2
    go_ret
    exact ⟨ret_bool (by rw [H.out] <;> first | rfl | exact beq_false_of_ne (by omega)), rfl⟩
end Go.Proofs.YthpgfnhecfgiaaaGreatDoor

namespace Go.Proofs.YthpgfnhecfgiaaaGreatDoor
open Go.RowKit Go.Sort
set_option maxRecDepth 20000

theorem ret_three {a b c a' b' c' : Int} (h1 : a = a') (h2 : b = b') (h3 : c = c') :
    Ending.returned (.tuple #[.int .u64 a, .int .i64 b, .int .i64 c]) = .returned (.tuple #[.int .u64 a', .int .i64 b', .int .i64 c']) := by rw [h1, h2, h3]

theorem ends_val {i b : Nat} {x : Bool} (h : endsB i b = x) (hb : b < 256) (w : World) :
    Calls Tryz.prog 51 #[.int .i64 i, .int .u8 b] w fun e w' => e = .returned (.bool x) ∧ w = w' := by
  subst h
  exact ends_any i b hb w

/-- The sum of a round, as the walk spells it. -/
theorem sum_wrap {V d j R : Nat} (h : (V + d % 128 * 2 ^ (7 * j) % 18446744073709551616) % 18446744073709551616 = R) :
    IntKind.u64.wrap ((V : Int) + IntKind.u64.wrap ((d : Int) % 128 * 2 ^ (7 * j))) = ((R : Nat) : Int) := by
  rw [IntKind.wrap_u64, IntKind.wrap_u64, ← h]
  rw [Int.natCast_emod, Int.natCast_add, Int.natCast_emod, Int.natCast_mul, Int.natCast_emod, Int.natCast_pow]
  rfl

set_option maxRecDepth 20000 in
set_option maxHeartbeats 2000000 in
theorem take_long (b off c : Nat) (l : List Nat) (n k e : Nat) (ht : Hid (Taken l n k e)) (hlen : (l.length : Int) ≤ 9223372036854775807) (hby : Hid (∀ x ∈ l, x < 256)) (w : World)
    (hc : Hid (∀ i, i < l.length → w.cell? ⟨b, off + i, none⟩ = some (.int .u8 (l.getD i 0 : Nat)))) (hl : 10 < l.length) :
    Calls Tryz.prog 25 #[.slice (some ⟨b, off, none⟩) l.length c] w fun e' w' => e' = .returned (.tuple #[.int .u64 n, .int .i64 k, .int .i64 e]) ∧ w = w' := by
  go_enter Tryz.func25, Tryz.ntmps25
  go_wp2
  go_loop [5, 10] (fun t i => ∃ j : Nat, i = .int .i64 j ∧ j ≤ 10 ∧ t = .int .u64 ((val (l.take j) % 18446744073709551616 : Nat) : Int) ∧ Hid (∀ p, p < j → 128 ≤ l.getD p 0)) (fun _ i => 10 - (intOf i).toNat)
  case atStart => exact ⟨0, rfl, by omega, rfl, Lib.hid (by omega)⟩
  case round =>
    obtain ⟨j, rfl, hj, rfl, hg⟩ := hrel
    rcases Nat.lt_or_ge j (10) with hjM | hjM
    · obtain ⟨d, hd⟩ : ∃ d : Nat, l.getD j 0 = d := ⟨_, rfl⟩
      have hcell : w.cell? ⟨b, off + j, none⟩ = some (.int .u8 d) := by rw [← hd]; exact hc.out j (by omega)
      have hd256 : d < 256 := by rw [← hd]; simp only [List.getD]; rw [List.getElem?_eq_getElem (by omega)]; exact hby.out _ (List.getElem_mem _)
      have hsum := val_take_mod (l := l) (i := j) (by omega)
      rw [hd] at hsum
      have hsum := Lib.hid (sum_wrap hsum)
      have hdj := Lib.hid hd
      clear hd
      obtain ⟨V, hV⟩ : ∃ V : Nat, val (l.take j) % 18446744073709551616 = V := ⟨_, rfl⟩
      have hVb : V < 18446744073709551616 := by omega
      rw [hV]
      rw [hV] at hsum
      clear hV
      rcases Nat.lt_or_ge d 128 with h128 | h128
      · rcases hE : endsB j d with _ | _
        · obtain ⟨rfl, rfl, rfl, _⟩ := taken_not (i := j) ht.out (by omega) (by omega) hg.out (by rw [hdj.out]; exact h128) (by rw [hdj.out]; exact of_decide_eq_false hE)
          have hE' := Lib.hid hE
          clear hE
          go_wp2_with (go_at_call 51; refine (ends_val hE'.out hd256 _).mono ?_; rintro e w' ⟨rfl, rfl⟩)
          go_ret3
          exact ⟨rfl, rfl⟩
        · have H := taken_yes (i := j) ht.out (by omega) (by omega) hby.out hg.out (by rw [hdj.out]; exact h128) (by rw [hdj.out]; exact (of_decide_eq_true hE).1) (by rw [hdj.out]; exact (of_decide_eq_true hE).2)
          have H1 := Lib.hid H.1
          obtain ⟨rfl, rfl⟩ : k = j + 1 ∧ e = 0 := ⟨H.2.1, H.2.2.1⟩
          clear H
          have hE' := Lib.hid hE
          clear hE
          go_wp2_with (go_at_call 51; refine (ends_val hE'.out hd256 _).mono ?_; rintro e w' ⟨rfl, rfl⟩)
          go_ret3
          exact ⟨ret_three (by rw [hsum.out, H1.out]) (by omega) rfl, rfl⟩
      · have hg2 : Hid (∀ p, p < j + 1 → 128 ≤ l.getD p 0) := Lib.hid (fun p hp => by
          rcases Nat.lt_or_ge p j with h | h
          · exact hg.out p h
          · obtain rfl : p = j := by omega
            rw [hdj.out]; exact h128)
        go_wp2
        exact ⟨⟨j + 1, by go_num, by omega, by rw [hsum.out], hg2⟩, by simp [intOf]; omega⟩
    · obtain ⟨rfl, rfl, rfl⟩ := taken_end ht.out (fun p hp hp' => hg.out p (by omega))
      obtain ⟨V, hV⟩ : ∃ V : Nat, val (l.take j) % 18446744073709551616 = V := ⟨_, rfl⟩
      rw [hV]
      clear hV
      go_wp2
      go_ret3
      exact ⟨rfl, rfl⟩

set_option maxRecDepth 20000 in
set_option maxHeartbeats 2000000 in
theorem take_short (b off c : Nat) (l : List Nat) (n k e : Nat) (ht : Hid (Taken l n k e)) (hlen : (l.length : Int) ≤ 9223372036854775807) (hby : Hid (∀ x ∈ l, x < 256)) (w : World)
    (hc : Hid (∀ i, i < l.length → w.cell? ⟨b, off + i, none⟩ = some (.int .u8 (l.getD i 0 : Nat)))) (hl : l.length ≤ 10) :
    Calls Tryz.prog 25 #[.slice (some ⟨b, off, none⟩) l.length c] w fun e' w' => e' = .returned (.tuple #[.int .u64 n, .int .i64 k, .int .i64 e]) ∧ w = w' := by
  go_enter Tryz.func25, Tryz.ntmps25
  go_wp2
  go_loop [5, 10] (fun t i => ∃ j : Nat, i = .int .i64 j ∧ j ≤ l.length ∧ t = .int .u64 ((val (l.take j) % 18446744073709551616 : Nat) : Int) ∧ Hid (∀ p, p < j → 128 ≤ l.getD p 0)) (fun _ i => l.length - (intOf i).toNat)
  case atStart => exact ⟨0, rfl, by omega, rfl, Lib.hid (by omega)⟩
  case round =>
    obtain ⟨j, rfl, hj, rfl, hg⟩ := hrel
    rcases Nat.lt_or_ge j (l.length) with hjM | hjM
    · obtain ⟨d, hd⟩ : ∃ d : Nat, l.getD j 0 = d := ⟨_, rfl⟩
      have hcell : w.cell? ⟨b, off + j, none⟩ = some (.int .u8 d) := by rw [← hd]; exact hc.out j (by omega)
      have hd256 : d < 256 := by rw [← hd]; simp only [List.getD]; rw [List.getElem?_eq_getElem (by omega)]; exact hby.out _ (List.getElem_mem _)
      have hsum := val_take_mod (l := l) (i := j) (by omega)
      rw [hd] at hsum
      have hsum := Lib.hid (sum_wrap hsum)
      have hdj := Lib.hid hd
      clear hd
      obtain ⟨V, hV⟩ : ∃ V : Nat, val (l.take j) % 18446744073709551616 = V := ⟨_, rfl⟩
      have hVb : V < 18446744073709551616 := by omega
      rw [hV]
      rw [hV] at hsum
      clear hV
      rcases Nat.lt_or_ge d 128 with h128 | h128
      · rcases hE : endsB j d with _ | _
        · obtain ⟨rfl, rfl, rfl, _⟩ := taken_not (i := j) ht.out (by omega) (by omega) hg.out (by rw [hdj.out]; exact h128) (by rw [hdj.out]; exact of_decide_eq_false hE)
          have hE' := Lib.hid hE
          clear hE
          go_wp2_with (go_at_call 51; refine (ends_val hE'.out hd256 _).mono ?_; rintro e w' ⟨rfl, rfl⟩)
          go_ret3
          exact ⟨rfl, rfl⟩
        · have H := taken_yes (i := j) ht.out (by omega) (by omega) hby.out hg.out (by rw [hdj.out]; exact h128) (by rw [hdj.out]; exact (of_decide_eq_true hE).1) (by rw [hdj.out]; exact (of_decide_eq_true hE).2)
          have H1 := Lib.hid H.1
          obtain ⟨rfl, rfl⟩ : k = j + 1 ∧ e = 0 := ⟨H.2.1, H.2.2.1⟩
          clear H
          have hE' := Lib.hid hE
          clear hE
          go_wp2_with (go_at_call 51; refine (ends_val hE'.out hd256 _).mono ?_; rintro e w' ⟨rfl, rfl⟩)
          go_ret3
          exact ⟨ret_three (by rw [hsum.out, H1.out]) (by omega) rfl, rfl⟩
      · have hg2 : Hid (∀ p, p < j + 1 → 128 ≤ l.getD p 0) := Lib.hid (fun p hp => by
          rcases Nat.lt_or_ge p j with h | h
          · exact hg.out p h
          · obtain rfl : p = j := by omega
            rw [hdj.out]; exact h128)
        go_wp2
        exact ⟨⟨j + 1, by go_num, by omega, by rw [hsum.out], hg2⟩, by simp [intOf]; omega⟩
    · obtain ⟨rfl, rfl, rfl⟩ := taken_end ht.out (fun p hp hp' => hg.out p (by omega))
      obtain ⟨V, hV⟩ : ∃ V : Nat, val (l.take j) % 18446744073709551616 = V := ⟨_, rfl⟩
      rw [hV]
      clear hV
      go_wp2
      go_ret3
      exact ⟨rfl, rfl⟩

set_option maxRecDepth 20000 in
set_option maxHeartbeats 1000000 in
theorem take_nil (A : Option Addr) (c : Nat) (n k e : Nat) (ht : Hid (Taken [] n k e)) (w : World) :
    Calls Tryz.prog 25 #[.slice A 0 c] w fun e' w' => e' = .returned (.tuple #[.int .u64 n, .int .i64 k, .int .i64 e]) ∧ w = w' := by
  obtain ⟨rfl, rfl, rfl⟩ := taken_end ht.out (fun p hp hp' => by simp at hp)
  go_enter Tryz.func25, Tryz.ntmps25
  go_wp2
  go_loop [5, 10] (fun t i => i = .int .i64 0) (fun _ i => 0)
  case atStart => rfl
  case round =>
    obtain rfl := hrel
    go_wp2
    go_ret3
    exact ⟨rfl, rfl⟩
end Go.Proofs.YthpgfnhecfgiaaaGreatDoor

namespace Go.Proofs.YthpgfnhecfgiaaaGreatDoor
open Go.RowKit Go.Sort
set_option maxRecDepth 20000

set_option maxHeartbeats 400000 in
theorem same_at {w : World} {v u : Value} {l m : List Nat} (hv : BytesAt w v l) (hu : BytesAt w u m) :
    Calls Tryz.prog 8 #[v, u] w fun e w' => e = .returned (.bool (decide (l = m))) ∧ w = w' := by
  have h1 := run_bytes hv
  have h2 := run_bytes hu
  have hd : ((strB l).toList == (strB m).toList) = decide (l = m) := by
    obtain ⟨_, _, _, _, _, h4, _, _⟩ := hv
    obtain ⟨_, _, _, _, _, h5, _, _⟩ := hu
    by_cases h : l = m
    · subst h; simp
    · rw [decide_eq_false h, beq_eq_false_iff_ne]
      intro h'
      rw [ByteArray.toList_eq, ByteArray.toList_eq] at h'
      exact h (strB_inj h4 h5 (ByteArray.ext (Array.toList_inj.1 h')))
  have hd := Lib.hid hd
  obtain ⟨S, hS⟩ : ∃ S, strB l = S := ⟨_, rfl⟩
  obtain ⟨T, hT⟩ : ∃ T, strB m = T := ⟨_, rfl⟩
  rw [hS] at h1
  rw [hT] at h2
  clear hv hu
  rw [hS, hT] at hd
  clear hS hT
  go_enter Tryz.func8, Tryz.ntmps8
  go_wp2
  go_ret
  exact ⟨ret_bool hd.out, rfl⟩

theorem same_true {w : World} {v u : Value} {l : List Nat} (hv : BytesAt w v l) (hu : BytesAt w u l) :
    Calls Tryz.prog 8 #[v, u] w fun e w' => e = .returned (.bool true) ∧ w = w' := by
  have h := same_at hv hu
  rw [decide_eq_true (rfl : l = l)] at h
  exact h
end Go.Proofs.YthpgfnhecfgiaaaGreatDoor

namespace Go.Proofs.YthpgfnhecfgiaaaGreatDoor
open Go.RowKit Go.Sort
set_option maxRecDepth 20000

theorem take_at {w : World} {v : Value} {l : List Nat} {n k e : Nat} (hv : BytesAt w v l) (ht : Taken l n k e) :
    Calls Tryz.prog 25 #[v] w fun e' w' => e' = .returned (.tuple #[.int .u64 n, .int .i64 k, .int .i64 e]) ∧ w = w' := by
  obtain ⟨A, c, rfl, h2, h3, h4, h5, _⟩ := hv
  have hm : (l.length : Int) ≤ 9223372036854775807 := by unfold maxLen at h3; omega
  rcases Nat.eq_zero_or_pos l.length with h0 | h0
  · have : l = [] := List.eq_nil_of_length_eq_zero h0
    subst this
    exact take_nil A c n k e (Lib.hid ht) w
  · obtain ⟨b, off, rfl, _, hc⟩ := h5 h0
    rcases Nat.lt_or_ge 10 l.length with h | h
    · exact take_long b off c l n k e (Lib.hid ht) hm (Lib.hid h4) w (Lib.hid hc) h
    · exact take_short b off c l n k e (Lib.hid ht) hm (Lib.hid h4) w (Lib.hid hc) h

theorem putL_bytes {w : World} {base : Nat} {v : Value} {n : Nat} (h : Own w base v (putL n)) : BytesAt w v (putL n) := h.bytes (putL_byte n)
end Go.Proofs.YthpgfnhecfgiaaaGreatDoor


namespace Go.Proofs.YthpgfnhecfgiaaaGreatDoor
open Go.RowKit Go.Sort
set_option maxRecDepth 20000


set_option maxRecDepth 20000 in
set_option maxHeartbeats 2000000 in
theorem refTake_any (b off c : Nat) (l : List Nat) (n k e : Nat) (ht : Hid (Taken l n k e)) (hlen : (l.length : Int) ≤ 9223372036854775807) (hlc : (l.length : Int) ≤ c) (hcm : (c : Int) ≤ 9223372036854775807) (hby : Hid (∀ x ∈ l, x < 256)) (w : World) (hbw : b < w.heap.size)
    (hc : Hid (∀ i, i < l.length → w.cell? ⟨b, off + i, none⟩ = some (.int .u8 (l.getD i 0 : Nat)))) :
    Calls Tryz.prog 12 #[.slice (some ⟨b, off, none⟩) l.length c] w (Ret (.tuple #[.int .u64 n, .int .i64 k, .int .i64 e]) w) := by
  go_enter Tryz.func12, Tryz.ntmps12
  go_wp2
  go_loop [5, 6] (fun t i => ∃ j : Nat, i = .int .i64 j ∧ j ≤ l.length ∧ j ≤ 10 ∧ t = .int .u64 ((val (l.take j) % 18446744073709551616 : Nat) : Int) ∧ Hid (∀ p, p < j → 128 ≤ l.getD p 0)) (fun _ i => 10 - (intOf i).toNat)
  case atStart => exact ⟨0, rfl, by omega, by omega, rfl, Lib.hid (by omega)⟩
  case round =>
    obtain ⟨j, rfl, hj, hj10, rfl, hg⟩ := hrel
    have HJ : (j < l.length ∧ j < 10) ∨ (j < l.length ∧ j = 10) ∨ j = l.length := by omega
    rcases HJ with ⟨hjl, hjt⟩ | HJ
    · obtain ⟨d, hd⟩ : ∃ d : Nat, l.getD j 0 = d := ⟨_, rfl⟩
      have hcell : w.cell? ⟨b, off + j, none⟩ = some (.int .u8 d) := by rw [← hd]; exact hc.out j (by omega)
      have hd256 : d < 256 := by rw [← hd]; simp only [List.getD]; rw [List.getElem?_eq_getElem (by omega)]; exact hby.out _ (List.getElem_mem _)
      have hsum := val_take_mod (l := l) (i := j) (by omega)
      rw [hd] at hsum
      have hdj := Lib.hid hd
      clear hd
      obtain ⟨R, hR⟩ : ∃ R : Nat, val (l.take (j + 1)) % 18446744073709551616 = R := ⟨_, rfl⟩
      have hRb : R < 18446744073709551616 := by omega
      rw [hR] at hsum
      have hsum := sum_wrap hsum
      have hR := Lib.hid hR
      obtain ⟨V, hV⟩ : ∃ V : Nat, val (l.take j) % 18446744073709551616 = V := ⟨_, rfl⟩
      have hVb : V < 18446744073709551616 := by omega
      rw [hV]
      rw [hV] at hsum
      clear hV
      rcases Nat.lt_or_ge d 128 with h128 | h128
      · -- the bytes, read and written again
        have hbt : BytesAt w (.slice (some ⟨b, off, none⟩) (j + 1) c) (l.take (j + 1)) := by
          refine ⟨some ⟨b, off, none⟩, c, by rw [List.length_take, Nat.min_eq_left (by omega)], by rw [List.length_take]; omega, by unfold maxLen; omega, fun x hx => hby.out x (List.mem_of_mem_take hx), fun _ => ⟨b, off, rfl, hbw, fun i hi => ?_⟩, fun h => by cases h⟩
          rw [List.length_take] at hi
          rw [hc.out i (by omega)]
          simp [List.getD, show i < j + 1 by omega]
        obtain ⟨T, hT⟩ : ∃ T, strB (l.take (j + 1)) = T := ⟨_, rfl⟩
        obtain ⟨U, hU⟩ : ∃ U, strB (putL R) = U := ⟨_, rfl⟩
        have hput : ∀ w : World, Calls Tryz.prog 34 #[.int .u64 R] w fun e w' => ∃ v, e = .returned v ∧ (convert 22 9 v).run Tryz.prog w' = .ok (.string U) w' ∧ Below w.heap.size w w' := fun w =>
          (refPut_any R hRb w).mono fun e w' ⟨v, h1, h2, h3⟩ => ⟨v, h1, by rw [← hU]; exact run_bytes (h2.bytes (putL_byte R)), h3⟩
        have hput := hide hput
        have HQ : ((U.toList == T.toList) = true ∧ n = R ∧ k = j + 1 ∧ e = 0) ∨ ((U.toList == T.toList) = false ∧ n = 0 ∧ k = 0 ∧ e = 31) := by
          rcases hE : endsB j d with _ | _
          · obtain ⟨h1, h2, h3, h4⟩ := taken_not (i := j) ht.out hjl (by omega) hg.out (by rw [hdj.out]; exact h128) (by rw [hdj.out]; exact of_decide_eq_false hE)
            refine .inr ⟨?_, h1, h2, h3⟩
            rw [hR.out] at h4
            rw [← hU, ← hT, beq_eq_false_iff_ne]
            intro h'
            rw [ByteArray.toList_eq, ByteArray.toList_eq] at h'
            exact h4 (strB_inj (putL_byte R) (fun x hx => hby.out x (List.mem_of_mem_take hx)) (ByteArray.ext (Array.toList_inj.1 h')))
          · obtain ⟨h1, h2, h3, h4⟩ := taken_yes (i := j) ht.out hjl (by omega) hby.out hg.out (by rw [hdj.out]; exact h128) (by rw [hdj.out]; exact (of_decide_eq_true hE).1) (by rw [hdj.out]; exact (of_decide_eq_true hE).2)
            rw [hR.out] at h1 h4
            refine .inl ⟨?_, h1, h2, h3⟩
            rw [← hU, ← hT, h4]
            simp
        have hcv0 : (convert 22 9 (.slice (some ⟨b, off, none⟩) (j + 1) c)).run Tryz.prog w.drew = .ok (.string T) w.drew := by rw [← hT]; exact run_bytes (w := w.drew) hbt
        have hbt := Lib.hid hbt
        have hT := Lib.hid hT
        have hU := Lib.hid hU
        rcases HQ with ⟨hq, rfl, rfl, rfl⟩ | ⟨hq, rfl, rfl, rfl⟩
        all_goals
          go_wp2_with (fail)
          clear hsum
          have hz0 : (0 : Int) ≤ ↑j + 1 := by omega
          have hz1 : (↑j + 1 : Int).toNat = j + 1 := by omega
          have hz2 : (↑j + 1 : Int) ≤ c := by omega
          have hz3 : IntKind.i64.wrap (↑j + 1) = ↑j + 1 := IntWalk.i64_in _ (by omega)
          go_region_with ((go_at_call 34; refine (hput.out _).mono ?_; rintro e w1 ⟨v, rfl, hcv1, hb1⟩; have hcv2 : (convert 22 9 (.slice (some ⟨b, off, none⟩) (j + 1) c)).run Tryz.prog w1 = .ok (.string T) w1 := by rw [← hT.out]; exact run_bytes (BytesAt.below (w := w.drew) hbt.out hb1)))
          all_goals
            clear hz3
            go_wp2
            go_ret3
            exact ⟨by first | rfl | exact ret_three rfl (by omega) rfl, then_call (Below.drew (Below.refl _ _)) hb1⟩
      · have hg2 : Hid (∀ p, p < j + 1 → 128 ≤ l.getD p 0) := Lib.hid (fun p hp => by
          rcases Nat.lt_or_ge p j with h | h
          · exact hg.out p h
          · obtain rfl : p = j := by omega
            rw [hdj.out]; exact h128)
        go_wp2
        exact ⟨⟨j + 1, by go_num, by omega, by omega, by rw [hR.out], hg2⟩, by simp [intOf]; omega⟩
    · obtain ⟨rfl, rfl, rfl⟩ := taken_end ht.out (fun p hp hp' => hg.out p (by omega))
      obtain ⟨V, hV⟩ : ∃ V : Nat, val (l.take j) % 18446744073709551616 = V := ⟨_, rfl⟩
      rw [hV]
      clear hV
      rcases HJ with ⟨h1, rfl⟩ | h1
      · go_wp2
        go_ret3
        exact ⟨rfl, Below.refl _ _⟩
      · have h2 : decide ((j : Int) < l.length) = false := decide_eq_false (by omega)
        go_wp2
        go_ret3
        exact ⟨rfl, Below.refl _ _⟩

set_option maxRecDepth 20000 in
set_option maxHeartbeats 1000000 in
theorem refTake_nil (A : Option Addr) (c : Nat) (n k e : Nat) (ht : Hid (Taken [] n k e)) (w : World) :
    Calls Tryz.prog 12 #[.slice A 0 c] w (Ret (.tuple #[.int .u64 n, .int .i64 k, .int .i64 e]) w) := by
  obtain ⟨rfl, rfl, rfl⟩ := taken_end ht.out (fun p hp hp' => by simp at hp)
  go_enter Tryz.func12, Tryz.ntmps12
  go_wp2
  go_loop [5, 6] (fun t i => i = .int .i64 0) (fun _ i => 0)
  case atStart => rfl
  case round =>
    obtain rfl := hrel
    go_wp2
    go_ret3
    exact ⟨rfl, Below.refl _ _⟩

theorem refTake_at {w : World} {v : Value} {l : List Nat} {n k e : Nat} (hv : BytesAt w v l) (ht : Taken l n k e) :
    Calls Tryz.prog 12 #[v] w (Ret (.tuple #[.int .u64 n, .int .i64 k, .int .i64 e]) w) := by
  obtain ⟨A, c, rfl, h2, h3, h4, h5, _⟩ := hv
  have hm : (c : Int) ≤ 9223372036854775807 := by unfold maxLen at h3; omega
  rcases Nat.eq_zero_or_pos l.length with h0 | h0
  · have : l = [] := List.eq_nil_of_length_eq_zero h0
    subst this
    exact refTake_nil A c n k e (Lib.hid ht) w
  · obtain ⟨b, off, rfl, hb, hc⟩ := h5 h0
    exact refTake_any b off c l n k e (Lib.hid ht) (by omega) (by omega) hm (Lib.hid h4) w hb (Lib.hid hc)
end Go.Proofs.YthpgfnhecfgiaaaGreatDoor

namespace Go.Proofs.YthpgfnhecfgiaaaGreatDoor
open Go.RowKit Go.Sort

/-- They share no block. -/
def ApartRow (u v : Value) : Prop := ∀ k, u.ownBlock = some k → v.ownBlock ≠ some k
theorem ApartRow.symm {u v : Value} (h : ApartRow u v) : ApartRow v u := fun k hv hu => h k hu hv
theorem ApartRow.nil (u : Value) : ApartRow (.slice none 0 0) u := fun k h => by simp [Value.ownBlock] at h

theorem append_one2 {P : Program} {t e e2 : TypeId} {z : Value} {bytes : Nat} (E : Elem P t e z bytes) {w : World} {ops : Array Oper} {rest : List Oper} {o : Oper} {a : Act} {Q : Exit → Act → World → Prop} (hgd : o.guard = none) (sv sx : Operand)
    (ho : o.op = .call { callee := .builtin .append, args := #[sv, sx], argTypes := #[t, t] }) (base : Nat) {v u x : Value} {xs ys : List Value}
    (hs : a.eval sv = v) (hown : OwnRow w base e v xs) (hoth : OwnRow w base e2 u ys) (hap : ApartRow u v) (hx : a.eval sx = .slice (some ⟨w.heap.size, 0, none⟩) 1 1) (h1 : x.oneCell' = true) (hle : (xs.length + 1) * 8 ≤ 140737488355328) (hbase : base ≤ w.heap.size)
    (h : ∀ v' w', OwnRow w' base e v' (xs ++ [x]) → OwnRow w' base e2 u ys → ApartRow u v' → Below base w w' → wpList P ops Q rest (a.put o.dst v') w') : wpList P ops Q (o :: rest) a (w.alloc (.cells #[x] e)) := by
  obtain ⟨i0, hi0, hz0, hz1, hz2⟩ := info_parts E.hi
  have hb8 : (xs.length + 1) * bytes ≤ 140737488355328 := Nat.le_trans (Nat.mul_le_mul_left _ E.hb) hle
  have hbase' : base ≤ (w.alloc (.cells #[x] e)).heap.size := by simp; omega
  refine wpList_append_own_at (w.alloc (.cells #[x] e)) hgd sv sx t ho base e i0 z 1 bytes E.ht hi0 hz0 hz1 hz2 E.hz (by decide) v xs.length xs hs (hown.alloc _) ⟨w.heap.size, 0, none⟩ 1 1 [x] hx rfl ?_ (by simpa using h1) (by unfold maxLen; omega) hb8 hbase' ?_
  · intro j y hj
    have hi : j = 0 := by have := (List.getElem?_eq_some_iff.1 hj).1; simpa using this
    subst hi
    simp at hj
    subst hj
    rw [addr_at]
    go_simp
  · intro v' w' h2 h3 _ h5
    have hne : u.ownBlock = none ∨ u.ownBlock ≠ v.ownBlock := by
      cases hu : u.ownBlock with
      | none => exact .inl rfl
      | some k => exact .inr (fun he => hap k hu he.symm)
    refine h v' w' (by simpa [OwnRow] using h2) (World.ownsRow.kept (hoth.alloc _) h3 hne) ?_ (Below.trans ((Below.refl _ _).alloc hbase _) ((hown.alloc (.cells #[x] e)).grown h3 hbase'))
    intro k hk hv
    rcases h5 with h5 | h5
    · rw [h5] at hv; exact hap k hk hv
    · rw [h5] at hv
      injection hv with hv
      have := (World.ownsRow.lt hoth k hk).2
      simp at hv
      omega
end Go.Proofs.YthpgfnhecfgiaaaGreatDoor
