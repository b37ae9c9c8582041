/-
  An operation that is handed in, opened.
-/
import Derived.Test.YteclkaecjogbjaaOpLeaf
import Derived.Lib.SmallJoins
import Derived.OpenShut
import Derived.SizedLaws
namespace Go.Proofs.Yteclkaecjogbjaa
open Go.ChangeShapes Go.WideShapes Go.ChangeAt Go.RowKit Go.Joins

theorem cellsOfO : Try.prog.cellsOf 31 = 26 := by kernel_rfl
theorem cellsOfV : Try.prog.cellsOf 25 = 8 := by kernel_rfl
theorem cellsOfS : Try.prog.cellsOf 23 = 2 := by kernel_rfl
theorem cellsOfA : Try.prog.cellsOf 29 = 3 := by kernel_rfl

section
variable {H : Type} {enc : TypeId × Value → H} {W : World} {base : Nat} {spare : Nat → Bool} {held : Bool}

set_option maxRecDepth 20000 in
theorem oint_cell {t : TypeId} (ht : Try.prog.underlying t = some (.int .i64)) {n : Nat} {v : Value} {y : DataW H × List MemPlace} (h : DataW.trod enc Try.prog W base spare held n t [v] = some y) : ∃ k : Int, v = .int .i64 k ∧ (Lit.int .i64 k).wf = true := by
  obtain ⟨a, g, _, hw⟩ := DataW.trod_int ht h
  simp at g
  exact ⟨a, g, hw⟩
set_option maxRecDepth 20000 in
theorem ostring_cell {n : Nat} {v : Value} {y : DataW H × List MemPlace} (h : DataW.trod enc Try.prog W base spare held n 9 [v] = some y) : ∃ s : ByteArray, v = .string s ∧ s.size ≤ 9223372036854775807 := by
  obtain ⟨s, g, _, hw⟩ := DataW.trod_string Try.underlying9 h
  simp at g
  exact ⟨s, g, hw⟩
set_option maxRecDepth 20000 in
theorem obool_cell {n : Nat} {v : Value} {y : DataW H × List MemPlace} (h : DataW.trod enc Try.prog W base spare held n 4 [v] = some y) : ∃ s : Bool, v = .bool s := by
  obtain ⟨s, g, _⟩ := DataW.trod_bool Try.underlying4 h
  simp at g
  exact ⟨s, g⟩
set_option maxRecDepth 20000 in
theorem ostamp_cells {n : Nat} {v v' : Value} {y : DataW H × List MemPlace} (h : DataW.trod enc Try.prog W base spare held n 23 [v, v'] = some y) : ∃ a b : Int, v = .int .i64 a ∧ v' = .int .i64 b ∧ (Lit.int .i64 a).wf = true ∧ (Lit.int .i64 b).wf = true := by
  obtain ⟨xs, m, _, _, hl, hlen, hf⟩ := DataW.trod_struct Try.underlying23 h
  match xs, hlen with
  | [y0, y1], _ =>
    have g0 := hf 0 _ rfl
    have g1 := hf 1 _ rfl
    obtain ⟨a, rfl, ha⟩ := oint_cell Try.underlying3 (v := v) (y := y0) g0
    obtain ⟨b, rfl, hb⟩ := oint_cell Try.underlying3 (v := v') (y := y1) g1
    exact ⟨a, b, rfl, rfl, ha, hb⟩
set_option maxRecDepth 20000 in
theorem oanchor_cells {n : Nat} {v v' v'' : Value} {y : DataW H × List MemPlace} (h : DataW.trod enc Try.prog W base spare held n 29 [v, v', v''] = some y) : ∃ (a b : Int) (x : Bool), v = .int .i64 a ∧ v' = .int .i64 b ∧ v'' = .bool x ∧ (Lit.int .i64 a).wf = true ∧ (Lit.int .i64 b).wf = true := by
  obtain ⟨xs, m, _, _, hl, hlen, hf⟩ := DataW.trod_struct Try.underlying29 h
  match xs, hlen with
  | [y0, y1], _ =>
    have g0 := hf 0 _ rfl
    have g1 := hf 1 _ rfl
    obtain ⟨a, b, rfl, rfl, ha, hb⟩ := ostamp_cells (v := v) (v' := v') (y := y0) g0
    obtain ⟨x, rfl⟩ := obool_cell (v := v'') (y := y1) g1
    exact ⟨a, b, x, rfl, rfl, rfl, ha, hb⟩

theorem ovec_cells {n : Nat} {c : Fin 8 → Value} {y : DataW H × List MemPlace} (h : DataW.trod enc Try.prog W base spare held n 25 [c 0, c 1, c 2, c 3, c 4, c 5, c 6, c 7] = some y) : ∃ f : Nat → Int, (∀ i : Fin 8, c i = .int .i64 (f i.1) ∧ (Lit.int .i64 (f i.1)).wf = true) := by
  obtain ⟨xs, m, _, _, hl, hlen, hx⟩ := DataW.trod_array Try.underlying25 h
  rw [cells3] at hx
  have key : ∀ i : Fin 8, ∃ z : Int, c i = .int .i64 z ∧ (Lit.int .i64 z).wf = true := by
    intro i
    have hxi := hx i.1 i.2
    have e : xs[i.1]? = some xs[i.1] := List.getElem?_eq_getElem (by omega)
    rw [e] at hxi
    have hi : i = 0 ∨ i = 1 ∨ i = 2 ∨ i = 3 ∨ i = 4 ∨ i = 5 ∨ i = 6 ∨ i = 7 := by omega
    rcases hi with rfl | rfl | rfl | rfl | rfl | rfl | rfl | rfl <;> exact oint_cell Try.underlying3 hxi
  have key' : ∀ i : Nat, ∃ z : Int, ∀ h : i < 8, c ⟨i, h⟩ = .int .i64 z ∧ (Lit.int .i64 z).wf = true := fun i => by
    by_cases hi : i < 8
    · exact (key ⟨i, hi⟩).imp fun _ h _ => h
    · exact ⟨0, fun h => absurd h hi⟩
  obtain ⟨f, hf⟩ := Classical.axiomOfChoice key'
  exact ⟨f, fun i => hf i.1 i.2⟩

/-- What is known of the numbers of an operation that is handed in. -/
structure OpV.Wf (o : OpV) : Prop where
  n : (Lit.int .i64 o.n).wf = true
  r : (Lit.int .i64 o.r).wf = true
  deps : ∀ i, i < 8 → (Lit.int .i64 (o.deps i)).wf = true

set_option maxRecDepth 20000 in
theorem open_op_cells {n : Nat} {cs : List Value} {y : DataW H × List MemPlace} (h : DataW.trod enc Try.prog W base spare held n 31 cs = some y) : ∃ o : OpV, cs = (OpC o).toList ∧ o.Fits ∧ o.Wf := by
  obtain ⟨xs, m, _, _, hl, hlen, hf⟩ := DataW.trod_struct Try.underlying31 h
  rw [cellsOfO] at hl
  match cs, hl with
  | [c0, c1, c2, c3, c4, c5, c6, c7, c8, c9, c10, c11, c12, c13, c14, c15, c16, c17, c18, c19, c20, c21, c22, c23, c24, c25], _ =>
    match xs, hlen with
    | [y0, y1, y2, y3, y4, y5, y6, y7, y8, y9, y10, y11], _ =>
      have g0 := hf 0 _ rfl
      have g1 := hf 1 _ rfl
      have g2 := hf 2 _ rfl
      have g3 := hf 3 _ rfl
      have g4 := hf 4 _ rfl
      have g5 := hf 5 _ rfl
      have g6 := hf 6 _ rfl
      have g7 := hf 7 _ rfl
      have g8 := hf 8 _ rfl
      have g9 := hf 9 _ rfl
      have g10 := hf 10 _ rfl
      have g11 := hf 11 _ rfl
      obtain ⟨a0, b0, rfl, rfl, w0, w0'⟩ := ostamp_cells (v := c0) (v' := c1) (y := y0) g0
      obtain ⟨f, hv⟩ := ovec_cells (c := fun i => [c2, c3, c4, c5, c6, c7, c8, c9].get i) (y := y1) g1
      obtain ⟨rfl, v0⟩ := hv 0
      obtain ⟨rfl, v1⟩ := hv 1
      obtain ⟨rfl, v2⟩ := hv 2
      obtain ⟨rfl, v3⟩ := hv 3
      obtain ⟨rfl, v4⟩ := hv 4
      obtain ⟨rfl, v5⟩ := hv 5
      obtain ⟨rfl, v6⟩ := hv 6
      obtain ⟨rfl, v7⟩ := hv 7
      obtain ⟨k, rfl, _⟩ := oint_cell Try.underlying26 (v := c10) (y := y2) g2
      obtain ⟨a3, b3, rfl, rfl, _, _⟩ := ostamp_cells (v := c11) (v' := c12) (y := y3) g3
      obtain ⟨s, rfl, _⟩ := oint_cell Try.underlying27 (v := c13) (y := y4) g4
      obtain ⟨ch, rfl, _⟩ := oint_cell Try.underlying3 (v := c14) (y := y5) g5
      obtain ⟨a6, b6, rfl, rfl, _, _⟩ := ostamp_cells (v := c15) (v' := c16) (y := y6) g6
      obtain ⟨key, rfl, hk⟩ := ostring_cell (v := c17) (y := y7) g7
      obtain ⟨nm, rfl, hn⟩ := ostring_cell (v := c18) (y := y8) g8
      obtain ⟨vl, rfl, hl⟩ := ostring_cell (v := c19) (y := y9) g9
      obtain ⟨a10, b10, x10, rfl, rfl, rfl, _, _⟩ := oanchor_cells (v := c20) (v' := c21) (v'' := c22) (y := y10) g10
      obtain ⟨a11, b11, x11, rfl, rfl, rfl, _, _⟩ := oanchor_cells (v := c23) (v' := c24) (v'' := c25) (y := y11) g11
      refine ⟨⟨a0, b0, f, k, a3, b3, s, ch, a6, b6, key, nm, vl, a10, b10, x10, a11, b11, x11⟩, rfl, ⟨hk, hn, hl⟩, ⟨w0, w0', fun i hi => ?_⟩⟩
      exact (hv ⟨i, hi⟩).2

theorem open_opv {b0 : Nat} {v : Value} {d : DataW H} {p : List MemPlace} (hv : Value.okWide Try.prog W .any b0 31 v) (h : DataW.Trod enc Try.prog W base spare held 31 v d p) :
    ∃ o : OpV, v = .agg (OpC o) ∧ o.Fits ∧ o.Wf := by
  obtain ⟨cs, rfl, hsz⟩ := okWide_struct Try.underlying31 hv
  obtain ⟨fuel, hf⟩ := h
  obtain ⟨o, ho, hok⟩ := open_op_cells hf
  refine ⟨o, ?_, hok⟩
  simp only [Value.cells] at ho
  rw [Array.toList_inj.1 ho]


theorem str_reach {ts : List TypeId} {ds : List (DataW H)} (h : (DataW.weightsEach Try.prog ts ds).all (· ≤ reachBytes) = true) {j : Nat} {t : TypeId} {s : ByteArray} (ht : ts[j]? = some t) (hd : ds[j]? = some (.lit (.string s.data.toList))) : s.size ≤ 140737488351232 := by
  have := sized_string h ht hd
  simp only [reachBytes, Array.length_toList] at this
  exact this
end
end Go.Proofs.Yteclkaecjogbjaa
