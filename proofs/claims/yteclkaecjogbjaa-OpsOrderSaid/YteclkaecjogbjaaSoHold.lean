/-
  A row of operations of the call's own: its elements are exchanged and read.
-/
import Derived.Test.YteclkaecjogbjaaOpStep
import Derived.Test.YteclkaecjogbjaaOpStamp
namespace Go.Proofs.Yteclkaecjogbjaa
open Go.RowKit Go.Sort

/-- The row's elements; they may be written. -/
structure Hold (W : World) (g n : Nat) (D : Nat → OpV) : Prop where
  el : ∀ i, i < n → W.rangeAt g (i * 26) (opL (D i))
  th : W.there g 0 (n * 26)
  lt : g < W.heap.size

/-- Two elements exchanged. -/
def swf {α : Type} (D : Nat → α) (i j : Nat) : Nat → α := fun t => if t = j then D i else if t = i then D j else D t

theorem opL_len (o : OpV) : (opL o).length = 26 := rfl
theorem Hold.block {W W' : World} {g n : Nat} {D : Nat → OpV} (h : Hold W g n D) (hb : W'.heap[g]? = W.heap[g]?) (hlt : g < W'.heap.size) : Hold W' g n D :=
  ⟨fun i hi j u hu => by rw [World.cell?_of_block (a := ⟨g, i * 26 + j, none⟩) hb]; exact h.el i hi j u hu,
   fun j hj => by rw [World.cell?_of_block (a := ⟨g, 0 + j, none⟩) hb, World.frozen?_of_block (a := ⟨g, 0 + j, none⟩) hb]; exact h.th j hj, hlt⟩
theorem Hold.below {B : Nat} {W W' : World} {g n : Nat} {D : Nat → OpV} (h : Hold W g n D) (hb : Below B W W') (hB : g < B) (hs : W.heap.size ≤ W'.heap.size) : Hold W' g n D := h.block (hb.block g hB) (Nat.lt_of_lt_of_le h.lt hs)
theorem Hold.after {W W' : World} {g n : Nat} {D : Nat → OpV} (h : Hold W g n D) (hb : Below W.heap.size W W') : Hold W' g n D := h.below hb h.lt hb.size
theorem Hold.drew {W : World} {g n : Nat} {D : Nat → OpV} (h : Hold W g n D) : Hold W.drew g n D := h.block rfl h.lt
theorem Hold.congr {W : World} {g n : Nat} {D D' : Nat → OpV} (h : Hold W g n D) (he : ∀ i, i < n → D' i = D i) : Hold W g n D' := ⟨fun i hi => by rw [he i hi]; exact h.el i hi, h.th, h.lt⟩

theorem Hold.thereAt {W : World} {g n : Nat} {D : Nat → OpV} (h : Hold W g n D) {i : Nat} (hi : i < n) : W.there g (i * 26) 26 := fun j hj => by
  have := h.th (i * 26 + j) (by have : i * 26 + 26 ≤ n * 26 := by have := Nat.mul_le_mul_right 26 (show i + 1 ≤ n from hi); omega
                                omega)
  rwa [Nat.zero_add] at this
theorem size_setCells' (W : World) (g : Nat) : ∀ (vs : List Value) (o : Nat), (W.setCells g o vs).heap.size = W.heap.size := by
  intro vs
  induction vs generalizing W with
  | nil => intro o; rfl
  | cons v r ih => intro o; rw [World.setCells, ih]; simp [World.setCell]
theorem Hold.put {W : World} {g n : Nat} {D : Nat → OpV} (h : Hold W g n D) {i : Nat} (hi : i < n) (x : OpV) : Hold (W.setCells g (i * 26) (opL x)) g n (fun t => if t = i then x else D t) := by
  refine ⟨fun t ht => ?_, World.there_setCells h.th _ _ _, by rw [size_setCells']; exact h.lt⟩
  by_cases e : t = i
  · subst e
    simp only [if_true]
    exact World.rangeAt_setCells_same W g (t * 26) (opL x) (h.thereAt hi)
  · simp only [if_neg e]
    refine World.rangeAt_setCells_apart (h.el t ht) g (i * 26) (opL x) (.inr ?_)
    rw [opL_len, opL_len]
    rcases Nat.lt_or_ge t i with hlt | hge
    · left; have := Nat.mul_le_mul_right 26 (show t + 1 ≤ i from hlt); omega
    · right; have := Nat.mul_le_mul_right 26 (show i + 1 ≤ t by omega); omega
theorem Hold.swap {W : World} {g n : Nat} {D : Nat → OpV} (h : Hold W g n D) {i j : Nat} (hi : i < n) (hj : j < n) : Hold ((W.setCells g (i * 26) (opL (D j))).setCells g (j * 26) (opL (D i))) g n (swf D i j) :=
  ((h.put hi (D j)).put hj (D i)).congr fun t _ => by unfold swf; split <;> rfl
theorem turns_setCells (W : World) (g : Nat) : ∀ (vs : List Value) (o : Nat), Turns [g] W (W.setCells g o vs) := by
  intro vs
  induction vs generalizing W with
  | nil => intro o; exact Turns.refl _ _
  | cons v r ih => intro o; exact (Turns.set W v (by simp)).trans' (ih _ _)

theorem Hold.index (n cap g i : Nat) (hi : i < n) (W : World) : (Instr.indexAt 34 (.slice (some ⟨g, 0, none⟩) n cap) (.int .i64 (i : Int))).run Try.prog W = .ok (.pointer (some ⟨g, i * 26, none⟩)) W := by
  have he : Try.prog.elem 34 = 31 := by simp [Program.elem, Try.underlying34]
  rw [run_indexAt_slice (P := Try.prog) W _ _ n cap .i64 (i : Int) (by rw [he]; exact Try.underlying34), if_pos (by omega), he, elemO.hs]
  simp [Result.andThen, addr_at]

set_option maxHeartbeats 1600000 in
/-- The comparison that ops.Sort hands in. -/
theorem cmpO_any (a b : OpV) (w : World) : Calls Try.prog 36 #[.agg (OpC a), .agg (OpC b)] w (Ret (.int .i64 (cmpS a.n a.r b.n b.r)) w) := by
  obtain ⟨W, hW, hb, hA, hB⟩ : ∃ W, (w.alloc (.cells (OpC a) 31)).alloc (.cells (OpC b) 31) = W ∧ Below w.heap.size w W ∧ OpAt W w.heap.size a ∧ OpAt W (w.heap.size + 1) b := by
    refine ⟨_, rfl, below_alloc2 _ _ _, (OpAt.new w a).alloc _, ?_⟩
    have h := OpAt.new (w.alloc (.cells (OpC a) 31)) b
    rw [show (w.alloc (.cells (OpC a) 31)).heap.size = w.heap.size + 1 from by simp] at h
    exact h
  have a0 := hA.c0
  have a1 := hA.c1
  have b0 := hB.c0
  have b1 := hB.c1
  go_enter Try.func36, Try.ntmps36
  go_wp2_with (go_at_call 13; refine (compare_any _ _ _ _ _).mono ?_; rintro e w' ⟨rfl, hb'⟩)
  go_ret
  exact ⟨rfl, then_call hb hb'⟩

/-- An element is read, in a region that only reads. -/
theorem quiet_load_el {w : World} {o : Oper} {a : Act} {K : Act → Prop} {g off : Nat} {f : OpV} (x : Operand) (ho : o.op = .load 31 x) (hx : a.eval x = .pointer (some ⟨g, off, none⟩)) (hg : g < w.heap.size) (hv : w.rangeAt g off (opL f))
    (h : K (a.put o.dst (.agg (OpC f)))) : o.quiet Try.prog a (fun w' => ∃ p : Regrown, w' = grow (redrawn w p.d) p.os) K := by
  refine ⟨_, fun w' hw' => ?_, h⟩
  obtain ⟨⟨d, os⟩, rfl⟩ := hw'
  unfold Oper.quietAt execOp
  simp only [ho, hx, Instr.loadAt, Instr.sureAddr, Sem.run_bind, Sem.run_pure, Result.andThen_ok, run_loadOpMid (range_after hv (below_regrown w d os) hg)]
  exact ⟨rfl, rfl⟩
end Go.Proofs.Yteclkaecjogbjaa
