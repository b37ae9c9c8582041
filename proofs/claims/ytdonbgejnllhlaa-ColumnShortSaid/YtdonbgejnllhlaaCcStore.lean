/-
  A store into a slice of the call's own; a slice that is made whole.
-/
import Derived.Test.YtdonbgejnllhlaaSl
import Derived.Test.YtdonbgejnllhlaaCcRuns
namespace Go.Proofs.Ytdonbgejnllhlaa
open Go.RowKit Go.Sort

section
variable {w : World} {base : Nat} {e : TypeId} {v : Value} {xs : List Value}

theorem heap_set_at {w : World} {g : Nat} {cs : Array Value} {t : TypeId} {fz : Nat × Nat} (h : w.heap[g]? = some (.cells cs t fz)) (k : Nat) (u : Value) :
    (w.setCell ⟨g, k, none⟩ u).heap[g]? = some (.cells (cs.set! k u) t fz) := by
  obtain ⟨hlt, hk⟩ := Array.getElem?_eq_some_iff.1 h
  show (w.heap.modify g _)[g]? = _
  rw [Array.getElem?_eq_getElem (by rw [Array.size_modify]; exact hlt), Array.getElem_modify_self, hk]
  rfl

theorem OwnRow.store (h : OwnRow w base e v xs) {P : Program} {t : TypeId} {z : Value} {bytes : Nat} (E : Elem P t e z bytes) {k : Nat} (hk : k < xs.length) :
    ∃ ad : Addr, (∀ W, (Instr.indexAt t v (.int .i64 (k : Int))).run P W = .ok (.pointer (some ad)) W) ∧ w.cell? ad = xs[k]? ∧ w.frozen? ad = false ∧ base ≤ ad.block ∧ ad.block < w.heap.size ∧
      ∀ u, OwnRow (w.setCell ad u) base e v (xs.set k u) ∧ Below base w (w.setCell ad u) := by
  have hr := h.row
  rcases h.2 with ⟨rfl, hl⟩ | ⟨g, cap, cur, rfl, hb, hg, hnc, hcm, hsz, htk⟩
  · omega
  · have hlt := (Array.getElem?_eq_some_iff.1 hg).1
    have he : P.elem t = e := by simp [Program.elem, E.ht]
    refine ⟨⟨g, k, none⟩, fun W => ?_, ?_, by simp [World.frozen?, hg], hb, hlt, fun u => ⟨?_, (Below.refl _ _).setCell (p := ⟨g, k, none⟩) hb u⟩⟩
    · rw [run_indexAt_slice (P := P) W t _ xs.length cap .i64 (k : Int) (by rw [he]; exact E.ht), if_pos (by omega), he, E.hs]
      simp [Result.andThen, addr_at]
    · obtain ⟨A, c, h1, _, _, h4, _⟩ := hr
      obtain ⟨b, off, h5, _, h6⟩ := h4 (by omega)
      rw [h5] at h1
      injection h1 with h1
      injection h1 with h1
      injection h1 with h1 h2
      subst h1 h2
      rw [List.getElem?_eq_getElem hk]
      have := h6 k _ (List.getElem?_eq_getElem hk)
      simpa using this
    · refine ⟨by simp, .inr ⟨g, cap, cur.set! k u, by rw [List.length_set], hb, heap_set_at hg k u, by rw [List.length_set]; exact hnc, hcm, by simpa using hsz, ?_⟩⟩
      rw [List.length_set, Array.set!_eq_setIfInBounds, Array.toList_setIfInBounds, List.take_set, htk]
end

/-- make([]int, n): n zeros. -/
theorem run_make_ints (w : World) (n : Nat) (hn : n ≤ 65536) : ∃ w', (Instr.makeSlice 22 (.int .i64 (n : Int)) (.int .i64 (n : Int))).run Try.prog w = .ok (.slice (some ⟨w.heap.size, 0, none⟩) n n) w' ∧
    OwnRow w' w.heap.size 3 (.slice (some ⟨w.heap.size, 0, none⟩) n n) (ints (List.replicate n 0)) ∧ Below w.heap.size w w' := by
  obtain ⟨i0, hi0, hz0, hz1, hz2⟩ := info_parts elemI.hi
  obtain ⟨w', h1, h2, h3⟩ := run_make_full (P := Try.prog) w w.heap.size 22 3 i0 (.int .i64 0) 1 elemI.ht hi0 hz0 hz1 .i64 .i64 n (by rw [hz2]; omega) (by unfold maxLen; omega) (Nat.le_refl _)
  refine ⟨w', h1, ?_, (Below.refl _ _).grown h3 (Nat.le_refl _) (fun k hk => by cases hk)⟩
  have he : (madeCells (Value.int .i64 0).cells (n * 1)).toList = ints (List.replicate n 0) := by
    simp only [madeCells, ints, Value.cells]
    apply List.ext_getElem
    · simp
    · intro i h1 h2
      simp [Nat.mod_one]
  rw [he] at h2
  rw [OwnRow, ints_len, List.length_replicate]
  exact h2
end Go.Proofs.Ytdonbgejnllhlaa
