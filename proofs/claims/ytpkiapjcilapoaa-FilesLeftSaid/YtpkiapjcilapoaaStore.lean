/-
  A store into a slice of the call's own.
-/
import Derived.Test.YtpkiapjcilapoaaRow
namespace Go.Proofs.Ytpkiapjcilapoaa
open Go.RowKit Go.Sort

section
variable {w : World} {base : Nat} {e : TypeId} {v : Value} {xs : List Value}

theorem heap_set_at {w : World} {g : Nat} {cs : Array Value} {t : TypeId} {fz : Nat × Nat} (h : w.heap[g]? = some (.cells cs t fz)) (k : Nat) (u : Value) :
    (w.setCell ⟨g, k, none⟩ u).heap[g]? = some (.cells (cs.set! k u) t fz) := by
  obtain ⟨hlt, hk⟩ := Array.getElem?_eq_some_iff.1 h
  show (w.heap.modify g _)[g]? = _
  rw [Array.getElem?_eq_getElem (by rw [Array.size_modify]; exact hlt), Array.getElem_modify_self, hk]
  rfl

theorem OwnRow.store (h : OwnRow w base e v xs) {P : Program} {t : TypeId} (ht : P.underlying t = some (.slice e)) (hs : ∀ W, (sizeOf e).run P W = .ok 1 W) {k : Nat} (hk : k < xs.length) :
    ∃ ad : Addr, (∀ W, (Instr.indexAt t v (.int .i64 (k : Int))).run P W = .ok (.pointer (some ad)) W) ∧ w.cell? ad = xs[k]? ∧ w.frozen? ad = false ∧ base ≤ ad.block ∧ ad.block < w.heap.size ∧
      ∀ u, OwnRow (w.setCell ad u) base e v (xs.set k u) ∧ Below base w (w.setCell ad u) := by
  have hr := h.row
  rcases h.2 with ⟨rfl, hl⟩ | ⟨g, cap, cur, rfl, hb, hg, hnc, hcm, hsz, htk⟩
  · omega
  · have hlt := (Array.getElem?_eq_some_iff.1 hg).1
    have he : P.elem t = e := by simp [Program.elem, ht]
    refine ⟨⟨g, k, none⟩, fun W => ?_, ?_, by simp [World.frozen?, hg], hb, hlt, fun u => ⟨?_, (Below.refl _ _).setCell (p := ⟨g, k, none⟩) hb u⟩⟩
    · rw [run_indexAt_slice (P := P) W t _ xs.length cap .i64 (k : Int) (by rw [he]; exact ht), if_pos (by omega), he, hs]
      simp [Result.andThen, addr_at]
    · obtain ⟨A, c, h1, _, _, h4, _⟩ := hr
      obtain ⟨b, off, h5, _, h6⟩ := h4 (by omega)
      rw [h5] at h1
      injection h1 with h1
      injection h1 with h1
      injection h1 with h1 h2
      subst h1 h2
      rw [List.getElem?_eq_getElem hk]
      have := h6 k _ (List.getElem?_eq_getElem hk)
      simpa using this
    · refine ⟨by simp, .inr ⟨g, cap, cur.set! k u, by rw [List.length_set], hb, heap_set_at hg k u, by rw [List.length_set]; exact hnc, hcm, by simpa using hsz, ?_⟩⟩
      rw [List.length_set, Array.set!_eq_setIfInBounds, Array.toList_setIfInBounds, List.take_set, htk]
end
end Go.Proofs.Ytpkiapjcilapoaa
