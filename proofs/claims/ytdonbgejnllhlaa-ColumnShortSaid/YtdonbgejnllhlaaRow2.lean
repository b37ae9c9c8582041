/-
  Two rows of the call's own, side by side: one grows by one element, the other stays.
-/
import Derived.Test.YtdonbgejnllhlaaRow
import Derived.Maps.AppendAt
namespace Go.Proofs.Ytdonbgejnllhlaa
open Go.RowKit Go.Sort

/-- They share no block. -/
def ApartRow (u v : Value) : Prop := ∀ k, u.ownBlock = some k → v.ownBlock ≠ some k
theorem ApartRow.symm {u v : Value} (h : ApartRow u v) : ApartRow v u := fun k hv hu => h k hu hv
theorem ApartRow.nil (u : Value) : ApartRow (.slice none 0 0) u := fun k h => by simp [Value.ownBlock] at h

theorem append_one2 {P : Program} {t e e2 : TypeId} {z : Value} {bytes : Nat} (E : Elem P t e z bytes) {w : World} {ops : Array Oper} {rest : List Oper} {o : Oper} {a : Act} {Q : Exit → Act → World → Prop} (hgd : o.guard = none) (sv sx : Operand)
    (ho : o.op = .call { callee := .builtin .append, args := #[sv, sx], argTypes := #[t, t] }) (base : Nat) {v u x : Value} {xs ys : List Value}
    (hs : a.eval sv = v) (hown : OwnRow w base e v xs) (hoth : OwnRow w base e2 u ys) (hap : ApartRow u v) (hx : a.eval sx = .slice (some ⟨w.heap.size, 0, none⟩) 1 1) (h1 : x.oneCell' = true) (hle : (xs.length + 1) * 8 ≤ 140737488355328) (hbase : base ≤ w.heap.size)
    (h : ∀ v' w', OwnRow w' base e v' (xs ++ [x]) → OwnRow w' base e2 u ys → ApartRow u v' → Below base w w' → wpList P ops Q rest (a.put o.dst v') w') : wpList P ops Q (o :: rest) a (w.alloc (.cells #[x] e)) := by
  obtain ⟨i0, hi0, hz0, hz1, hz2⟩ := info_parts E.hi
  have hb8 : (xs.length + 1) * bytes ≤ 140737488355328 := Nat.le_trans (Nat.mul_le_mul_left _ E.hb) hle
  have hbase' : base ≤ (w.alloc (.cells #[x] e)).heap.size := by simp; omega
  refine wpList_append_own_at (w.alloc (.cells #[x] e)) hgd sv sx t ho base e i0 z 1 bytes E.ht hi0 hz0 hz1 hz2 E.hz (by decide) v xs.length xs hs (hown.alloc _) ⟨w.heap.size, 0, none⟩ 1 1 [x] hx rfl ?_ (by simpa using h1) (by unfold maxLen; omega) hb8 hbase' ?_
  · intro j y hj
    have hi : j = 0 := by have := (List.getElem?_eq_some_iff.1 hj).1; simpa using this
    subst hi
    simp at hj
    subst hj
    rw [addr_at]
    go_simp
  · intro v' w' h2 h3 _ h5
    have hne : u.ownBlock = none ∨ u.ownBlock ≠ v.ownBlock := by
      cases hu : u.ownBlock with
      | none => exact .inl rfl
      | some k => exact .inr (fun he => hap k hu he.symm)
    refine h v' w' (by simpa [OwnRow] using h2) (World.ownsRow.kept (hoth.alloc _) h3 hne) ?_ (Below.trans ((Below.refl _ _).alloc hbase _) ((hown.alloc (.cells #[x] e)).grown h3 hbase'))
    intro k hk hv
    rcases h5 with h5 | h5
    · rw [h5] at hv; exact hap k hk hv
    · rw [h5] at hv
      injection hv with hv
      have := (World.ownsRow.lt hoth k hk).2
      simp at hv
      omega
end Go.Proofs.Ytdonbgejnllhlaa
