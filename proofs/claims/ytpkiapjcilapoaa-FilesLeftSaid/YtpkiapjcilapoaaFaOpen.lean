/-
  An act that is handed in, and a script of acts, opened.
-/
import Derived.Test.YtpkiapjcilapoaaVaOpen
import Derived.Test.YtpkiapjcilapoaaFkOut
import Derived.Test.YtpkiapjcilapoaaFiLeft
import Derived.Deep.Grids
import Derived.Lib.SmallJoins
import Derived.Deep.Slices
import Derived.Deep.Fields
namespace Go.Proofs.Ytpkiapjcilapoaa
open Go.ChangeShapes Go.WideShapes Go.ChangeAt Go.RowKit Go.Joins

/-- A slice of truths, a letter (only that it is one is told here). -/
structure OpD where
  kind : Int
  nm : ByteArray
  s : ByteArray
  bv : Value
  b : List Nat
  at_ : Int
  names : Int
  kv : Value
  torn : Int
def OpD.cells (o : OpD) : List Value := [.int .i64 o.kind, .string o.nm, .string o.s, o.bv, .int .i64 o.at_, .int .i64 o.names, o.kv, .int .i64 o.torn]
/-- What is known of an act that is handed in. -/
structure OpD.Ok (o : OpD) (w : World) : Prop where
  kind : -9223372036854775808 ≤ o.kind ∧ o.kind ≤ 9223372036854775807
  nm : o.nm.size ≤ 9223372036854775807
  s : o.s.size ≤ 9223372036854775807
  b : BytesAt w o.bv o.b
  at_ : -9223372036854775808 ≤ o.at_ ∧ o.at_ ≤ 9223372036854775807
  names : -9223372036854775808 ≤ o.names ∧ o.names ≤ 9223372036854775807
  torn : -9223372036854775808 ≤ o.torn ∧ o.torn ≤ 9223372036854775807
  kv : ∃ keep, KeepAt w o.kv keep

theorem size_bool_info : Try.prog.cellsOf 4 = 1 := by kernel_rfl

theorem cellsOf_op : Try.prog.cellsOf 35 = 8 := by kernel_rfl
theorem cellsOf_cuts : Try.prog.cellsOf 33 = 4 := by kernel_rfl

section
variable {H : Type} {enc : TypeId × Value → H} {W : World}

set_option maxRecDepth 20000 in
/-- A slice of bytes in one cell, opened. -/
theorem open_bytes_cell {n : Nat} {v : Value} {y : DataW H × List MemPlace} (h : DataW.trod enc Try.prog W 0 (fun _ => true) true n 30 [v] = some y) : ∃ l, BytesAt W v l := by
  rcases open_ints Try.underlying30 Try.underlying5 info_u8_size h with ⟨hcs, _⟩ | ⟨a, len', cap', zs, hcs, _, hl, hm, hz, _, hcell, hwz⟩
  · simp at hcs
    subst hcs
    exact ⟨[], none, 0, rfl, Nat.le_refl _, Nat.zero_le _, by simp, fun h => absurd h (by simp), fun _ => rfl⟩
  · simp at hcs
    subst hcs
    simp only [if_true] at hz
    have hlen : ((zs.take len').map Int.toNat).length = len' := by simp; omega
    have hby : ∀ x ∈ (zs.take len').map Int.toNat, x < 256 := by
      intro x hx
      obtain ⟨z, hz', rfl⟩ := List.mem_map.1 hx
      have := wf_u8 (hwz z (List.mem_of_mem_take hz'))
      omega
    refine ⟨(zs.take len').map Int.toNat, some a, cap', by rw [hlen], by omega, hm, hby, fun hpos => ?_, fun h => by cases h⟩
    rw [hlen] at hpos
    obtain ⟨b, off, spot⟩ := a
    have hspot : spot = none := by simpa [Addr.add] using World.cell?_spot (hcell 0 (by omega))
    subst hspot
    have hblk : b < W.heap.size := by have := World.block_lt_of_cell? _ _ (hcell 0 (by omega)); simpa [add_at] using this
    refine ⟨b, off, rfl, hblk, fun i hi => ?_⟩
    rw [hlen] at hi
    have := hcell i (by omega)
    rw [add_at] at this
    rw [this]
    have hzi : i < zs.length := by omega
    have hwi := wf_u8 (hwz zs[i] (List.getElem_mem hzi))
    simp [List.getD, List.getElem?_eq_getElem hzi, hi]
    omega
set_option maxRecDepth 20000 in
theorem open_int_cell {n : Nat} {v : Value} {y : DataW H × List MemPlace} (h : DataW.trod enc Try.prog W 0 (fun _ => true) true n 3 [v] = some y) : ∃ k : Int, v = .int .i64 k ∧ -9223372036854775808 ≤ k ∧ k ≤ 9223372036854775807 := by
  obtain ⟨a, g, _, hw⟩ := DataW.trod_int Try.underlying3 h
  simp at g
  subst g
  exact ⟨a, rfl, wf_i64 hw⟩
set_option maxRecDepth 20000 in
theorem open_string_cell {n : Nat} {v : Value} {y : DataW H × List MemPlace} (h : DataW.trod enc Try.prog W 0 (fun _ => true) true n 9 [v] = some y) : ∃ s : ByteArray, v = .string s ∧ s.size ≤ 9223372036854775807 := by
  obtain ⟨s, g, _, hw⟩ := DataW.trod_string Try.underlying9 h
  simp at g
  exact ⟨s, g, hw⟩

set_option maxRecDepth 20000 in
/-- An act's eight cells. -/
theorem open_keep_cell {n : Nat} {v : Value} {y : DataW H × List MemPlace} (h : DataW.trod enc Try.prog W 0 (fun _ => true) true n 31 [v] = some y) : ∃ l, KeepAt W v l := by
  rcases Go.Deep.open_bools Try.underlying31 Try.underlying4 size_bool_info h with ⟨hcs, hx⟩ | ⟨a, len', cap', B, hcs, _, hl, hm, hx, hcell⟩
  · simp at hcs
    subst hcs
    exact ⟨[], none, 0, rfl, Nat.le_refl _, Nat.zero_le _, fun h => absurd h (by simp), fun _ => rfl⟩
  · simp at hcs
    subst hcs
    have hlen : (((List.range len').map B).map Value.bool).length = len' := by simp
    refine ⟨(List.range len').map B, some a, cap', by rw [hlen], by rw [hlen]; exact hl, hm, fun hpos => ?_, fun h => by cases h⟩
    rw [hlen] at hpos
    obtain ⟨b, off, spot⟩ := a
    have hspot : spot = none := by simpa [Addr.add] using World.cell?_spot (hcell 0 (by omega))
    subst hspot
    have hblk : b < W.heap.size := by have := World.block_lt_of_cell? _ _ (hcell 0 (by omega)); simpa [add_at] using this
    refine ⟨b, off, rfl, hblk, fun i x hx => ?_⟩
    have hi : i < len' := by have := (List.getElem?_eq_some_iff.1 hx).1; omega
    have := hcell i (by omega)
    rw [add_at] at this
    rw [this]
    simp [List.getElem?_range hi] at hx
    rw [← hx]

set_option maxRecDepth 20000 in
theorem open_op_cells {n : Nat} {cs : List Value} {y : DataW H × List MemPlace} (h : DataW.trod enc Try.prog W 0 (fun _ => true) true n 35 cs = some y) : ∃ o : OpD, cs = o.cells ∧ o.Ok W := by
  obtain ⟨xs, m, _, _, hl, hlen, hf⟩ := DataW.trod_struct Try.underlying35 h
  rw [cellsOf_op] at hl
  match cs, hl with
  | [c0, c1, c2, c3, c4, c5, c6, c7], _ =>
    match xs, hlen with
    | [y0, y1, y2, y3, y4], _ =>
      have g0 := hf 0 _ rfl
      have g1 := hf 1 _ rfl
      have g2 := hf 2 _ rfl
      have g3 := hf 3 _ rfl
      have g4 := hf 4 _ rfl
      obtain ⟨k, rfl, hk⟩ := open_int_cell (v := c0) (y := y0) g0
      obtain ⟨nm, rfl, hnm⟩ := open_string_cell (v := c1) (y := y1) g1
      obtain ⟨s, rfl, hs⟩ := open_string_cell (v := c2) (y := y2) g2
      obtain ⟨l, hl⟩ := open_bytes_cell (v := c3) (y := y3) g3
      have g4' : DataW.trod enc Try.prog W 0 (fun _ => true) true m 33 [c4, c5, c6, c7] = some y4 := g4
      obtain ⟨z0, z1, z2, z3, m', _, _, k0, k1, k2, k3⟩ := trod_struct4 Try.underlying33 g4'
      obtain ⟨a, rfl, ha⟩ := open_int_cell (v := c4) (y := z0) k0
      obtain ⟨nn, rfl, hn⟩ := open_int_cell (v := c5) (y := z1) k1
      obtain ⟨t, rfl, ht⟩ := open_int_cell (v := c7) (y := z3) k3
      exact ⟨⟨k, nm, s, c3, l, a, nn, c6, t⟩, rfl, ⟨hk, hnm, hs, hl, ha, hn, ht, open_keep_cell (v := c6) (y := z2) k2⟩⟩

set_option maxRecDepth 20000 in
theorem open_op {b0 : Nat} {v : Value} {d : DataW H} {p : List MemPlace} (hv : Value.okWide Try.prog W .any b0 35 v) (h : DataW.Trod enc Try.prog W 0 (fun _ => true) true 35 v d p) :
    ∃ o : OpD, v = .agg #[.int .i64 o.kind, .string o.nm, .string o.s, o.bv, .int .i64 o.at_, .int .i64 o.names, o.kv, .int .i64 o.torn] ∧ o.Ok W := by
  obtain ⟨cs, rfl, hsz⟩ := okWide_struct Try.underlying35 hv
  obtain ⟨fuel, hf⟩ := h
  obtain ⟨o, ho, hok⟩ := open_op_cells hf
  refine ⟨o, ?_, hok⟩
  simp only [Value.cells] at ho
  cases cs
  simp only at ho
  rw [ho]
  rfl

/-- A script. -/
def ScriptAt (w : World) (v : Value) (l : List OpD) : Prop := RowsAt 8 w v (l.map OpD.cells) ∧ ∀ o ∈ l, o.Ok w

set_option maxRecDepth 20000 in
theorem open_script {b0 : Nat} {v : Value} {d : DataW H} {p : List MemPlace} (hv : Value.okWide Try.prog W .any b0 22 v) (h : DataW.Trod enc Try.prog W 0 (fun _ => true) true 22 v d p) :
    ∃ l, ScriptAt W v l := by
  obtain ⟨A, n, c, rfl⟩ := okWide_slice Try.underlying22 hv
  obtain ⟨fuel, hf⟩ := h
  rcases Go.Deep.open_slice Try.underlying22 hf with ⟨hcs, _⟩ | ⟨a, len', cap', m, q, D, Pl, hcs, _, hl, hm, hmm, _, hi⟩
  · simp [Value.cells] at hcs
    obtain ⟨rfl, rfl, rfl⟩ := hcs
    exact ⟨[], ⟨none, 0, rfl, Nat.le_refl _, Nat.zero_le _, by simp, fun h => absurd h (by simp), fun _ => rfl⟩, by simp⟩
  · simp [Value.cells] at hcs
    obtain ⟨rfl, rfl, rfl⟩ := hcs
    simp only [if_true] at hmm
    subst hmm
    rw [cellsOf_op] at hi
    have hall : ∀ i, i < n → ∃ o : OpD, W.cells? 0 (a.add (i * 8)) 8 = some o.cells ∧ o.Ok W := fun i hin => by
      obtain ⟨cs', h1, h2⟩ := hi i (by omega)
      obtain ⟨o, rfl, ho⟩ := open_op_cells h2
      exact ⟨o, h1, ho⟩
    have hsome : Inhabited OpD := ⟨⟨0, ByteArray.empty, ByteArray.empty, .slice none 0 0, [], 0, 0, .slice none 0 0, 0⟩⟩
    obtain ⟨f, hf⟩ := Go.Deep.choose_lt hall
    refine ⟨(List.range n).map f, ⟨some a, _, by rw [List.length_map, List.length_map, List.length_range], by simpa using hl, hm, ?_, fun hpos => ?_, fun h => by cases h⟩, ?_⟩
    · intro x hx
      obtain ⟨o, _, rfl⟩ := List.mem_map.1 hx
      rfl
    · have hn : 0 < n := by simpa using hpos
      obtain ⟨h1, _⟩ := hf 0 hn
      obtain ⟨_, _, hc⟩ := World.cells?_some h1
      obtain ⟨b, off, spot⟩ := a
      have c0 := hc 0 (by simp)
      have hspot : spot = none := by simpa [Addr.add] using World.cell?_spot c0
      subst hspot
      have hblk : b < W.heap.size := by have := World.block_lt_of_cell? _ _ c0; simpa [add_at] using this
      refine ⟨b, off, rfl, hblk, fun i x hx j u hu => ?_⟩
      have hin : i < n := by have := (List.getElem?_eq_some_iff.1 hx).1; simpa using this
      have hxe : x = (f i).cells := by
        rw [List.getElem?_map, List.getElem?_map, List.getElem?_range hin] at hx
        simpa using hx.symm
      subst hxe
      obtain ⟨h1, _⟩ := hf i hin
      obtain ⟨_, _, hc⟩ := World.cells?_some h1
      have hj := (List.getElem?_eq_some_iff.1 hu).1
      have := hc j (by simpa [OpD.cells] using hj)
      rw [add_at, add_at] at this
      rw [this]
      exact hu
    · intro o ho
      obtain ⟨i, hin, rfl⟩ := List.mem_map.1 ho
      exact (hf i (by simpa using hin)).2
end
end Go.Proofs.Ytpkiapjcilapoaa
