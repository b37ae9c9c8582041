/-
  Slices of integers and of truths that are handed in, opened.
-/
import Derived.Test.YtdonbgejnllhlaaSl
import Derived.Test.YtdonbgejnllhlaaCoNum
import Derived.Test.YtdonbgejnllhlaaVaOpen
import Derived.Deep.Grids
namespace Go.Proofs.Ytdonbgejnllhlaa
open Go.ChangeShapes Go.WideShapes Go.ChangeAt Go.RowKit Go.Joins

theorem info_int_size : Try.prog.cellsOf 3 = 1 := by kernel_rfl
theorem info_bool_size : Try.prog.cellsOf 4 = 1 := by kernel_rfl

theorem open_intsAt {H : Type} {enc : TypeId × Value → H} {W : World} {b0 : Nat} {v : Value} {d : DataW H} {p : List MemPlace}
    (hv : Value.okWide Try.prog W .any b0 22 v) (h : DataW.Trod enc Try.prog W 0 (fun _ => true) true 22 v d p) :
    ∃ l, IntsAt W v l ∧ ∀ x ∈ l, InR x := by
  obtain ⟨A, n, c, rfl⟩ := okWide_slice Try.underlying22 hv
  obtain ⟨fuel, hf⟩ := h
  rcases open_ints Try.underlying22 Try.underlying3 info_int_size hf with ⟨hcs, hx⟩ | ⟨a, len', cap', zs, hcs, _, hl, hm, hz, hx, hcell, hwz⟩
  · simp [Value.cells] at hcs
    obtain ⟨rfl, rfl, rfl⟩ := hcs
    exact ⟨[], ⟨none, 0, rfl, Nat.le_refl _, Nat.zero_le _, fun h => absurd h (by simp [ints]), fun _ => rfl⟩, by simp⟩
  · simp [Value.cells] at hcs
    obtain ⟨rfl, rfl, rfl⟩ := hcs
    simp only [Prod.mk.injEq] at hx
    obtain ⟨rfl, rfl⟩ := hx
    simp only [if_true] at hz
    have hlen : (ints (zs.take n)).length = n := by simp [ints]; omega
    refine ⟨zs.take n, ⟨some a, c, by rw [hlen], by rw [hlen]; exact hl, hm, fun hpos => ?_, fun h => by cases h⟩, fun x hx => wf_i64 (hwz x (List.mem_of_mem_take hx))⟩
    rw [hlen] at hpos
    obtain ⟨b, off, spot⟩ := a
    have hspot : spot = none := by simpa [Addr.add] using World.cell?_spot (hcell 0 (by omega))
    subst hspot
    have hblk : b < W.heap.size := by have := World.block_lt_of_cell? _ _ (hcell 0 (by omega)); simpa [addr_at] using this
    refine ⟨b, off, rfl, hblk, fun i x hx => ?_⟩
    have hi : i < n := by have := (List.getElem?_eq_some_iff.1 hx).1; omega
    have := hcell i (by omega)
    rw [addr_at] at this
    rw [this]
    simp only [ints, List.getElem?_map, List.getElem?_take, if_pos hi] at hx
    rw [List.getElem?_eq_getElem (show i < zs.length by omega)] at hx
    simp at hx
    simp [List.getD, List.getElem?_eq_getElem (show i < zs.length by omega), ← hx]

theorem open_truthsAt {H : Type} {enc : TypeId × Value → H} {W : World} {b0 : Nat} {v : Value} {d : DataW H} {p : List MemPlace}
    (hv : Value.okWide Try.prog W .any b0 23 v) (h : DataW.Trod enc Try.prog W 0 (fun _ => true) true 23 v d p) :
    ∃ l, TruthsAt W v l := by
  obtain ⟨A, n, c, rfl⟩ := okWide_slice Try.underlying23 hv
  obtain ⟨fuel, hf⟩ := h
  rcases Go.Deep.open_bools Try.underlying23 Try.underlying4 info_bool_size hf with ⟨hcs, hx⟩ | ⟨a, len', cap', B, hcs, _, hl, hm, hx, hcell⟩
  · simp [Value.cells] at hcs
    obtain ⟨rfl, rfl, rfl⟩ := hcs
    exact ⟨[], none, 0, rfl, Nat.le_refl _, Nat.zero_le _, fun h => absurd h (by simp [truths]), fun _ => rfl⟩
  · simp [Value.cells] at hcs
    obtain ⟨rfl, rfl, rfl⟩ := hcs
    have hlen : (truths ((List.range n).map B)).length = n := by simp [truths]
    refine ⟨(List.range n).map B, some a, c, by rw [hlen], by rw [hlen]; exact hl, hm, fun hpos => ?_, fun h => by cases h⟩
    rw [hlen] at hpos
    obtain ⟨b, off, spot⟩ := a
    have hspot : spot = none := by simpa [Addr.add] using World.cell?_spot (hcell 0 (by omega))
    subst hspot
    have hblk : b < W.heap.size := by have := World.block_lt_of_cell? _ _ (hcell 0 (by omega)); simpa [addr_at] using this
    refine ⟨b, off, rfl, hblk, fun i x hx => ?_⟩
    have hi : i < n := by have := (List.getElem?_eq_some_iff.1 hx).1; omega
    have := hcell i (by omega)
    rw [addr_at] at this
    rw [this]
    simp [truths, List.getElem?_range hi] at hx
    rw [← hx]
end Go.Proofs.Ytdonbgejnllhlaa
