/-
  A vector that is handed in, opened: it is eight integers.
-/
import Derived.Test.YtmihcfjlhljmoaaVec
import Derived.Lib.SmallJoins
import Derived.OpenShut
namespace Go.Proofs.Ytmihcfjlhljmoaa
open Go.ChangeShapes Go.WideShapes Go.ChangeAt Go.RowKit Go.Joins

theorem cellsV : Try.prog.cellsOf 23 = 8 := by kernel_rfl

theorem open_vec {H : Type} {enc : TypeId × Value → H} {w : World} {b0 base : Nat} {spare : Nat → Bool} {held : Bool} {v : Value} {d : DataW H} {p : List MemPlace}
    (hv : Value.okWide Try.prog w .any b0 23 v) (h : DataW.Trod enc Try.prog w base spare held 23 v d p) :
    ∃ f : Nat → Int, v = .agg (V f) ∧ ∀ i, i < 8 → (Lit.int .i64 (f i)).wf = true := by
  simp only [Value.okWide, Try.underlying23] at hv
  obtain ⟨cs, rfl, hsz, _⟩ := hv
  rw [cellsV] at hsz
  obtain ⟨fuel, hf⟩ := h
  obtain ⟨xs, m, _, _, _, hl, hx⟩ := DataW.trod_array Try.underlying23 hf
  have key : ∀ i, i < 8 → ∃ z : Int, cs[i]? = some (.int .i64 z) ∧ (Lit.int .i64 z).wf = true := by
    intro i hi
    have hxi := hx i hi
    rw [cells3, Nat.mul_one] at hxi
    have hc : (Value.agg cs).cells.toList = cs.toList := rfl
    have hg : cs[i]? = some cs[i] := by rw [Array.getElem?_eq_getElem (by omega)]
    have ht : (List.take 1 (List.drop i cs.toList)) = [cs[i]] := by
      rw [List.drop_eq_getElem_cons (by simpa using (by omega : i < cs.size))]
      simp
    have hxi' : DataW.trod enc Try.prog w base spare held m 3 [cs[i]] = some xs[i] := by
      have e : xs[i]? = some xs[i] := List.getElem?_eq_getElem (by omega)
      rw [← e, ← hxi]
      first | (rw [← ht]; rfl) | (simp only [Value.cells] at *; rw [← ht])
    obtain ⟨z, _, hz, hw⟩ := DataW.trod_int Try.underlying3 hxi'
    refine ⟨z, ?_, hw⟩
    rw [hg]
    first | (rw [hz]; done) | (simp only [List.cons.injEq, and_true] at hz; rw [hz]) | simp_all
  have key' : ∀ i, ∃ z : Int, i < 8 → cs[i]? = some (.int .i64 z) ∧ (Lit.int .i64 z).wf = true := fun i => by
    by_cases hi : i < 8
    · exact (key i hi).imp fun _ h _ => h
    · exact ⟨0, fun h => absurd h hi⟩
  obtain ⟨f, hf⟩ := Classical.axiomOfChoice key'
  refine ⟨f, ?_, fun i hi => (hf i hi).2⟩
  have hcs : cs = V f := by
    apply Array.ext_getElem?
    intro i
    by_cases hi : i < 8
    · rw [V_get _ i hi, (hf i hi).1]
    · rw [Array.getElem?_eq_none (by omega), Array.getElem?_eq_none (by rw [V_size]; omega)]
  rw [hcs]

end Go.Proofs.Ytmihcfjlhljmoaa
