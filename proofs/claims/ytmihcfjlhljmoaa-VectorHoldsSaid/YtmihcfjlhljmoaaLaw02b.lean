/-
  VectorOrder and VectorLeast: each hands back true and leaves all that was there as it was.
-/
import Derived.Test.YtmihcfjlhljmoaaLaw02
import Derived.Deep.WholeRow
namespace Go.Proofs.Ytmihcfjlhljmoaa
open Go.RowKit Go.Sort

theorem wpList_load_vec {ops : Array Oper} {rest : List Oper} {o : Oper} {a : Act} {w : World} {Q : Exit → Act → World → Prop} {b : Nat} {f : Nat → Int} (x : Operand) (hw : Region.wanted o (yielded ops a.tmps) = true)
    (ho : o.op = .load 23 x) (hx : a.eval x = .pointer (some ⟨b, 0, none⟩)) (hv : VAt w b f)
    (h : wpList Try.prog ops Q rest (a.put o.dst (.agg (V f))) w) : wpList Try.prog ops Q (o :: rest) a w :=
  BigFrame.wpList_want hw fun _ hK => wp_load_row 23 x ho b hx _ _ _ _ hv Try.underlying23 rfl infoV (hK _ _ h)

/-- A vector goes into the variable that was made last. -/
theorem wpList_store_vec {ops : Array Oper} {rest : List Oper} {o : Oper} {a : Act} {w : World} {Q : Exit → Act → World → Prop} {f : Nat → Int} (x y : Operand) (hg : o.guard = none)
    (ho : o.op = .store 23 x y) (hx : a.eval x = .pointer (some ⟨w.heap.size, 0, none⟩)) (hy : a.eval y = .agg (V f))
    (h : wpList Try.prog ops Q rest (a.put o.dst undef) (w.alloc (.cells (V f) 23))) : wpList Try.prog ops Q (o :: rest) a (w.alloc (.cells #[.int .i64 0, .int .i64 0, .int .i64 0, .int .i64 0, .int .i64 0, .int .i64 0, .int .i64 0, .int .i64 0] 23)) := by
  refine wpList_store_row hg 23 x y ho w.heap.size (V f) hx hy 23 _ (Go.heap_alloc_new w _) infoV rfl (V_one _) ?_
  rw [World.setRow_alloc_new]
  exact h

theorem vvv_boxes (w : World) (f g h : Nat → Int) : ∃ W, ((w.alloc (.cells (V f) 23)).alloc (.cells (V g) 23)).alloc (.cells (V h) 23) = W ∧ Below w.heap.size w W ∧ VAt W w.heap.size f ∧ VAt W (w.heap.size + 1) g ∧ VAt W (w.heap.size + 1 + 1) h := by
  obtain ⟨W, hW, hb, hA, hB⟩ := vv_boxes w f g
  rw [hW]
  have e : W.heap.size = w.heap.size + 1 + 1 := by rw [← hW]; simp
  refine ⟨_, rfl, hb.alloc hb.size _, hA.alloc _, hB.alloc _, ?_⟩
  have := VAt.new W h
  rwa [e] at this

theorem order_ways (f g h : Nat → Int) :
    (covB f g = false ∧ eqV f g = false) ∨
    (covB f g = true ∧ covB g f = false ∧ eqV f g = false ∧ covB g h = false) ∨
    (covB f g = true ∧ covB g f = false ∧ eqV f g = false ∧ covB g h = true ∧ covB f h = true) ∨
    (covB f g = true ∧ covB g f = true ∧ eqV f g = true ∧ covB g h = false) ∨
    (covB f g = true ∧ covB g f = true ∧ eqV f g = true ∧ covB g h = true ∧ covB f h = true) := by
  have he : ∀ b, eqV f g = b ↔ (covB f g && covB g f) = b := by
    have : eqV f g = (covB f g && covB g f) := by
      rw [Bool.eq_iff_iff, Bool.and_eq_true, eqV_iff, covB_iff, covB_iff]
      exact ⟨fun h => ⟨fun i hi => by rw [h i hi]; omega, fun i hi => by rw [h i hi]; omega⟩, fun h i hi => by have := h.1 i hi; have := h.2 i hi; omega⟩
    intro b; rw [this]
  have ht : covB f g = true → covB g h = true → covB f h = true := by
    rw [covB_iff, covB_iff, covB_iff]
    exact fun a b i hi => by have := a i hi; have := b i hi; omega
  cases hx : covB f g
  · exact .inl ⟨rfl, (he _).2 (by rw [hx]; rfl)⟩
  · cases hy : covB g f
    · cases hz : covB g h
      · exact .inr (.inl ⟨rfl, rfl, (he _).2 (by rw [hx, hy]; rfl), rfl⟩)
      · exact .inr (.inr (.inl ⟨rfl, rfl, (he _).2 (by rw [hx, hy]; rfl), rfl, ht hx hz⟩))
    · cases hz : covB g h
      · exact .inr (.inr (.inr (.inl ⟨rfl, rfl, (he _).2 (by rw [hx, hy]; rfl), rfl⟩)))
      · exact .inr (.inr (.inr (.inr ⟨rfl, rfl, (he _).2 (by rw [hx, hy]; rfl), rfl, ht hx hz⟩)))

set_option maxHeartbeats 1000000 in
theorem vectorOrder_walk (f g h : Nat → Int) (w : World) :
    Calls Try.prog 6 #[.agg (V f), .agg (V g), .agg (V h)] w (Ret (.bool true) w) := by
  obtain ⟨W, hW, hb, hA, hB, hC⟩ := vvv_boxes w f g h
  have heq := fun (x y : Nat → Int) (w : World) => run_eqVec x y w
  have hself := covB_self
  rcases order_ways f g h with ⟨h1, h2⟩ | ⟨h1, h2, h3, h4⟩ | ⟨h1, h2, h3, h4, h5⟩ | ⟨h1, h2, h3, h4⟩ | ⟨h1, h2, h3, h4, h5⟩
  all_goals
    go_enter Try.func6, Try.ntmps6
    go_wp2_with (first
      | (refine wpList_load_vec _ rfl rfl rfl (by with_reducible first | exact hA | exact hB | exact hC) ?_)
      | (go_at_call 16; (first | with_reducible refine (covers_live _).mono ?_ | with_reducible refine (covers_any _ _ _).mono ?_); rintro e w' ⟨rfl, hb'⟩; replace hA := hA.after hb'; replace hB := hB.after hb'; replace hC := hC.after hb'; replace hb := then_call hb hb'; clear hb'))
    go_ret
    exact ⟨rfl, hb⟩

end Go.Proofs.Ytmihcfjlhljmoaa
