/-
  A slice of bytes that is handed in, opened: which bytes it holds.
-/
import Derived.Test.YtpkiapjcilapoaaBy
import Derived.Lib.SmallJoins
import Derived.OpenShut
import Derived.SizedLaws
namespace Go.Proofs.Ytpkiapjcilapoaa
open Go.ChangeShapes Go.WideShapes Go.ChangeAt Go.RowKit Go.Joins

set_option maxRecDepth 20000 in
theorem open_bytes {H : Type} {enc : TypeId × Value → H} {W : World} {b0 : Nat} {v : Value} {d : DataW H} {p : List MemPlace}
    (hv : Value.okWide Try.prog W .any b0 30 v) (h : DataW.Trod enc Try.prog W 0 (fun _ => true) true 30 v d p) :
    ∃ A c l, v = .slice A l.length c ∧ BytesAt W (.slice A l.length c) l ∧ (∀ x ∈ l, x < 256) ∧ (l.length = 0 ∨ ∃ es sp, d = .slice es sp ∧ es.length = l.length) := by
  obtain ⟨A, n, c, rfl⟩ := okWide_slice Try.underlying30 hv
  obtain ⟨fuel, hf⟩ := h
  rcases open_ints Try.underlying30 Try.underlying5 info_u8_size hf with ⟨hcs, hx⟩ | ⟨a, len', cap', zs, hcs, _, hl, hm, hz, hx, hcell, hwz⟩
  · simp [Value.cells] at hcs
    obtain ⟨rfl, rfl, rfl⟩ := hcs
    exact ⟨none, 0, [], rfl, ⟨none, 0, rfl, Nat.le_refl _, Nat.zero_le _, by simp, fun h => absurd h (by simp), fun _ => rfl⟩, by simp, .inl rfl⟩
  · simp [Value.cells] at hcs
    obtain ⟨rfl, rfl, rfl⟩ := hcs
    simp only [Prod.mk.injEq] at hx
    obtain ⟨rfl, rfl⟩ := hx
    simp only [if_true] at hz
    have hlen : ((zs.take n).map Int.toNat).length = n := by simp; omega
    have hby : ∀ x ∈ (zs.take n).map Int.toNat, x < 256 := by
      intro x hx
      obtain ⟨z, hz', rfl⟩ := List.mem_map.1 hx
      have := wf_u8 (hwz z (List.mem_of_mem_take hz'))
      omega
    refine ⟨some a, c, (zs.take n).map Int.toNat, by rw [hlen], ?_, hby, .inr ⟨_, _, rfl, by rw [hlen]; simp [lits]; omega⟩⟩
    refine ⟨some a, c, rfl, by omega, hm, hby, fun hpos => ?_, fun h => by cases h⟩
    rw [hlen] at hpos
    obtain ⟨b, off, spot⟩ := a
    have hspot : spot = none := by simpa [Addr.add] using World.cell?_spot (hcell 0 (by omega))
    subst hspot
    have hblk : b < W.heap.size := by have := World.block_lt_of_cell? _ _ (hcell 0 (by omega)); simpa [add_at] using this
    refine ⟨b, off, rfl, hblk, fun i hi => ?_⟩
    rw [hlen] at hi
    have := hcell i (by omega)
    rw [add_at] at this
    rw [this]
    have hzi : i < zs.length := by omega
    have hwi := wf_u8 (hwz zs[i] (List.getElem_mem hzi))
    simp [List.getD, List.getElem?_eq_getElem hzi, hi]
    omega

theorem bytes_one : Try.prog.bytesOf 5 = 1 := by kernel_rfl

/-- The form's own reach. -/
theorem bytes_reach {H : Type} {ts : List TypeId} {ds : List (DataW H)} (h : (DataW.weightsEach Try.prog ts ds).all (· ≤ reachBytes) = true) {j : Nat} {d : DataW H} {l : List Nat} (ht : ts[j]? = some 30) (hd : ds[j]? = some d)
    (hl : l.length = 0 ∨ ∃ es sp, d = .slice es sp ∧ es.length = l.length) : l.length ≤ 140737488351232 := by
  rcases hl with h0 | ⟨es, sp, rfl, hl⟩
  · omega
  · have := sized_slice h ht hd Try.underlying30
    rw [bytes_one] at this
    simp only [reachBytes] at this
    omega
end Go.Proofs.Ytpkiapjcilapoaa
