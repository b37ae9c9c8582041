/-
  A whole operation read from, and written into, a row of the call's own.
-/
import Derived.Test.YthpgfnhecfgiaaaGreatDoorBaTk
namespace Go.Proofs.YthpgfnhecfgiaaaGreatDoor
open Go.RowKit Go.Sort
set_option maxRecDepth 20000

theorem heap_setCells {g : Nat} {ty : TypeId} : ∀ (vs : List Value) (o : Nat) {W : World} {cs : Array Value}, W.heap[g]? = some (.cells cs ty) →
    ∃ cs', (W.setCells g o vs).heap[g]? = some (.cells cs' ty) ∧ cs'.size = cs.size ∧ ∀ k, k < cs.size → cs'[k]? = if o ≤ k ∧ k < o + vs.length then vs[k - o]? else cs[k]?
  | [], o, W, cs, h => ⟨cs, h, rfl, fun k _ => by rw [if_neg (by simp)]⟩
  | v :: r, o, W, cs, h => by
    obtain ⟨cs', h1, h2, h3⟩ := heap_setCells r (o + 1) (heap_set_at h o v)
    rw [Array.set!_eq_setIfInBounds, Array.size_setIfInBounds] at h2 h3
    refine ⟨cs', h1, h2, fun k hk => ?_⟩
    rw [h3 k hk]
    by_cases e : o + 1 ≤ k ∧ k < o + 1 + r.length
    · rw [if_pos e, if_pos (by simp; omega), show k - o = (k - (o + 1)) + 1 by omega, List.getElem?_cons_succ]
    · rw [if_neg e]
      by_cases e' : k = o
      · subst e'
        rw [if_pos (by simp), Nat.sub_self, List.getElem?_cons_zero, Array.getElem?_setIfInBounds_self_of_lt hk]
      · rw [if_neg (by simp; omega), Array.getElem?_setIfInBounds_ne (by omega)]
theorem turnsR (W : World) (g : Nat) : ∀ (vs : List Value) (o : Nat), Turns [g] W (W.setCells g o vs) := by
  intro vs
  induction vs generalizing W with
  | nil => intro o; exact Turns.refl _ _
  | cons v r ih => intro o; exact (Turns.set W v (by simp)).trans' (ih _ _)
theorem Fld.range {W : World} {g n : Nat} {D : Nat → OpV} (h : Fld W g n D) {i : Nat} (hi : i < n) : W.rangeAt g (i * 26) (opL (D i)) := fun j u hu => by
  have hj : j < 26 := (List.getElem?_eq_some_iff.1 hu).1
  exact (h.cell hi hj (by simpa [opL] using hu)).1
theorem Fld.there {W : World} {g n : Nat} {D : Nat → OpV} (h : Fld W g n D) {i : Nat} (hi : i < n) : W.there g (i * 26) 26 := fun j hj => by
  obtain ⟨u, hu⟩ : ∃ u, (OpC (D i))[j]? = some u := ⟨_, Array.getElem?_eq_getElem (by rw [OpC_size]; exact hj)⟩
  obtain ⟨h1, h2⟩ := h.cell hi hj hu
  exact ⟨by rw [h1]; rfl, h2⟩
theorem Fld.putO {W : World} {g n : Nat} {D : Nat → OpV} (h : Fld W g n D) {i : Nat} (hi : i < n) (x : OpV) : Fld (W.setCells g (i * 26) (opL x)) g n (fun t => if t = i then x else D t) := by
  obtain ⟨cs, h1, h2, h3⟩ := h.ex
  obtain ⟨cs', h4, h5, h6⟩ := heap_setCells (opL x) (i * 26) h1
  have hl : (opL x).length = 26 := rfl
  rw [hl] at h6
  have hm := Nat.mul_le_mul_right 26 (show i + 1 ≤ n from hi)
  refine ⟨cs', h4, by rw [h5, h2], fun t ht j hj => ?_⟩
  have hm2 := Nat.mul_le_mul_right 26 (show t + 1 ≤ n from ht)
  rw [h6 _ (by rw [h2]; omega)]
  by_cases e : t = i
  · subst e
    rw [if_pos (by omega), if_pos rfl, show t * 26 + j - t * 26 = j by omega]
    unfold opL
    rw [Array.getElem?_toList]
  · rw [if_neg (by rcases Nat.lt_or_ge t i with h' | h'
                   · have := Nat.mul_le_mul_right 26 (show t + 1 ≤ i from h'); omega
                   · have := Nat.mul_le_mul_right 26 (show i + 1 ≤ t by omega); omega), if_neg e]
    exact h3 t ht j hj
section
variable {ops : Array Oper} {a : Act} {w : World} {K : Act → World → Prop} {Q : Exit → Act → World → Prop} {D : Prop} {d : Option Tmp} {ty : TypeId} {pos : String} {after : Array Edge}
theorem stepR_load {t : Tmp} {g off : Nat} {x : OpV} (ht : a.tmps.getD t undef = .pointer (some ⟨g, off, none⟩)) (hA : w.rangeAt g off (opL x)) (h : K (a.put d (.agg (OpC x))) w) :
    if Region.wanted { dst := d, op := .load 42 (.tmp t), type := ty, pos := pos, after := after, guard := none } (yielded ops a.tmps) = true then Oper.wp Tryz.prog { dst := d, op := .load 42 (.tmp t), type := ty, pos := pos, after := after, guard := none } a w K Q else D := by
  rw [if_pos (by rfl)]
  have hx' : a.eval (.tmp t) = .pointer (some ⟨g, off, none⟩) := ht
  unfold Oper.wp execOp
  simp only [hx', Instr.loadAt, Instr.sureAddr, Sem.run_bind, Sem.run_pure, Result.andThen_ok, run_loadOpMid hA]
  exact h
theorem stepR_store {p q : Tmp} {g off : Nat} {x : OpV} (hp : a.tmps.getD p undef = .pointer (some ⟨g, off, none⟩)) (hq : a.tmps.getD q undef = .agg (OpC x)) (ht : w.there g off 26) (h : ∀ W', w.setCells g off (opL x) = W' → K a W') :
    if Region.wanted { dst := none, op := .store 42 (.tmp p) (.tmp q), type := ty, pos := pos, after := after, guard := none } (yielded ops a.tmps) = true then Oper.wp Tryz.prog { dst := none, op := .store 42 (.tmp p) (.tmp q), type := ty, pos := pos, after := after, guard := none } a w K Q else D := by
  rw [if_pos (by rfl)]
  have hp' : a.eval (.tmp p) = .pointer (some ⟨g, off, none⟩) := hp
  have hq' : a.eval (.tmp q) = .agg (OpC x) := hq
  unfold Oper.wp execOp
  simp only [hp', hq', Instr.storeAt, Instr.sureAddr, Sem.run_bind, Sem.run_pure, Result.andThen_ok, run_storeVar_mid w g off 42 (OpC x) ht infoO (OpC_one x)]
  exact h _ rfl
end
end Go.Proofs.YthpgfnhecfgiaaaGreatDoor
