/-
  A cut that is handed in, opened.
-/
import Derived.Test.YtpkiapjcilapoaaFaOpen
import Derived.Test.YtpkiapjcilapoaaFiLeft
import Derived.Deep.Grids
namespace Go.Proofs.Ytpkiapjcilapoaa
open Go.ChangeShapes Go.WideShapes Go.ChangeAt Go.RowKit Go.Joins

structure CutD where
  at_ : Int
  names : Int
  kv : Value
  keep : List Bool
  torn : Int
structure CutD.Ok (c : CutD) (w : World) : Prop where
  at_ : -9223372036854775808 ≤ c.at_ ∧ c.at_ ≤ 9223372036854775807
  names : -9223372036854775808 ≤ c.names ∧ c.names ≤ 9223372036854775807
  keep : KeepAt w c.kv c.keep
  torn : -9223372036854775808 ≤ c.torn ∧ c.torn ≤ 9223372036854775807

section
variable {H : Type} {enc : TypeId × Value → H} {W : World}
set_option maxRecDepth 20000 in
theorem open_cuts {b0 : Nat} {v : Value} {d : DataW H} {p : List MemPlace} (hv : Value.okWide Try.prog W .any b0 33 v) (h : DataW.Trod enc Try.prog W 0 (fun _ => true) true 33 v d p) :
    ∃ c : CutD, v = .agg #[.int .i64 c.at_, .int .i64 c.names, c.kv, .int .i64 c.torn] ∧ c.Ok W := by
  obtain ⟨cs, rfl, hsz⟩ := okWide_struct Try.underlying33 hv
  obtain ⟨fuel, hf⟩ := h
  simp only [Value.cells] at hf
  obtain ⟨xs, m, _, _, hl, hlen, hff⟩ := DataW.trod_struct Try.underlying33 hf
  rw [cellsOf_cuts] at hl
  cases cs with | mk l =>
  match l, hl with
  | [c0, c1, c2, c3], _ =>
    match xs, hlen with
    | [y0, y1, y2, y3], _ =>
      have g0 := hff 0 _ rfl
      have g1 := hff 1 _ rfl
      have g2 := hff 2 _ rfl
      have g3 := hff 3 _ rfl
      obtain ⟨a, rfl, ha⟩ := open_int_cell (v := c0) (y := y0) g0
      obtain ⟨nn, rfl, hn⟩ := open_int_cell (v := c1) (y := y1) g1
      obtain ⟨k, hk⟩ := open_keep_cell (v := c2) (y := y2) g2
      obtain ⟨t, rfl, ht⟩ := open_int_cell (v := c3) (y := y3) g3
      exact ⟨⟨a, nn, c2, k, t⟩, rfl, ⟨ha, hn, hk, ht⟩⟩
end
end Go.Proofs.Ytpkiapjcilapoaa
