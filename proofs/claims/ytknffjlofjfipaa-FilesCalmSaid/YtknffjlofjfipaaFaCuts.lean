/-
  A cut that is handed in, opened.
-/
import Derived.Test.YtknffjlofjfipaaFaOpen
import Derived.Test.YtknffjlofjfipaaFiLeft
import Derived.Deep.Grids
namespace Go.Proofs.Ytknffjlofjfipaa
open Go.ChangeShapes Go.WideShapes Go.ChangeAt Go.RowKit Go.Joins

theorem size_bool_info : Try.prog.cellsOf 4 = 1 := by kernel_rfl

structure CutD where
  at_ : Int
  names : Int
  kv : Value
  keep : List Bool
  torn : Int
structure CutD.Ok (c : CutD) (w : World) : Prop where
  at_ : -9223372036854775808 ≤ c.at_ ∧ c.at_ ≤ 9223372036854775807
  names : -9223372036854775808 ≤ c.names ∧ c.names ≤ 9223372036854775807
  keep : KeepAt w c.kv c.keep
  torn : -9223372036854775808 ≤ c.torn ∧ c.torn ≤ 9223372036854775807

section
variable {H : Type} {enc : TypeId × Value → H} {W : World}
theorem open_keep_cell {n : Nat} {v : Value} {y : DataW H × List MemPlace} (h : DataW.trod enc Try.prog W 0 (fun _ => true) true n 31 [v] = some y) : ∃ l, KeepAt W v l := by
  rcases Go.Deep.open_bools Try.underlying31 Try.underlying4 size_bool_info h with ⟨hcs, hx⟩ | ⟨a, len', cap', B, hcs, _, hl, hm, hx, hcell⟩
  · simp at hcs
    subst hcs
    exact ⟨[], none, 0, rfl, Nat.le_refl _, Nat.zero_le _, fun h => absurd h (by simp), fun _ => rfl⟩
  · simp at hcs
    subst hcs
    have hlen : (((List.range len').map B).map Value.bool).length = len' := by simp
    refine ⟨(List.range len').map B, some a, cap', by rw [hlen], by rw [hlen]; exact hl, hm, fun hpos => ?_, fun h => by cases h⟩
    rw [hlen] at hpos
    obtain ⟨b, off, spot⟩ := a
    have hspot : spot = none := by simpa [Addr.add] using World.cell?_spot (hcell 0 (by omega))
    subst hspot
    have hblk : b < W.heap.size := by have := World.block_lt_of_cell? _ _ (hcell 0 (by omega)); simpa [add_at] using this
    refine ⟨b, off, rfl, hblk, fun i x hx => ?_⟩
    have hi : i < len' := by have := (List.getElem?_eq_some_iff.1 hx).1; omega
    have := hcell i (by omega)
    rw [add_at] at this
    rw [this]
    simp [List.getElem?_range hi] at hx
    rw [← hx]

set_option maxRecDepth 20000 in
theorem open_cuts {b0 : Nat} {v : Value} {d : DataW H} {p : List MemPlace} (hv : Value.okWide Try.prog W .any b0 33 v) (h : DataW.Trod enc Try.prog W 0 (fun _ => true) true 33 v d p) :
    ∃ c : CutD, v = .agg #[.int .i64 c.at_, .int .i64 c.names, c.kv, .int .i64 c.torn] ∧ c.Ok W := by
  obtain ⟨cs, rfl, hsz⟩ := okWide_struct Try.underlying33 hv
  obtain ⟨fuel, hf⟩ := h
  simp only [Value.cells] at hf
  obtain ⟨xs, m, _, _, hl, hlen, hff⟩ := DataW.trod_struct Try.underlying33 hf
  rw [cellsOf_cuts] at hl
  cases cs with | mk l =>
  match l, hl with
  | [c0, c1, c2, c3], _ =>
    match xs, hlen with
    | [y0, y1, y2, y3], _ =>
      have g0 := hff 0 _ rfl
      have g1 := hff 1 _ rfl
      have g2 := hff 2 _ rfl
      have g3 := hff 3 _ rfl
      obtain ⟨a, rfl, ha⟩ := open_int_cell (v := c0) (y := y0) g0
      obtain ⟨nn, rfl, hn⟩ := open_int_cell (v := c1) (y := y1) g1
      obtain ⟨k, hk⟩ := open_keep_cell (v := c2) (y := y2) g2
      obtain ⟨t, rfl, ht⟩ := open_int_cell (v := c3) (y := y3) g3
      exact ⟨⟨a, nn, c2, k, t⟩, rfl, ⟨ha, hn, hk, ht⟩⟩
end
end Go.Proofs.Ytknffjlofjfipaa
