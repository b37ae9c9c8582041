/-
  Kinds and bodies that are handed in, opened: a struct of four cells, a slice of such structs.
-/
import Derived.Test.YtmeofjoamcghhaaVaOpen
import Derived.Test.YtmeofjoamcghhaaFrStr
import Derived.Deep.Slices
import Derived.Deep.Fields
namespace Go.Proofs.Ytmeofjoamcghhaa
open Go.ChangeShapes Go.WideShapes Go.ChangeAt Go.RowKit Go.Joins

theorem cellsOf_framed : Try.prog.cellsOf 35 = 4 := by kernel_rfl
theorem cellsOf_changed : Try.prog.cellsOf 38 = 4 := by kernel_rfl

section
variable {H : Type} {enc : TypeId × Value → H} {W : World}

/-- A slice of bytes in one cell, opened. -/
theorem open_bytes_cell {n : Nat} {v : Value} {y : DataW H × List MemPlace} (h : DataW.trod enc Try.prog W 0 (fun _ => true) true n 22 [v] = some y) : ∃ l, BytesAt W v l := by
  rcases open_ints Try.underlying22 Try.underlying5 info_u8_size h with ⟨hcs, _⟩ | ⟨a, len', cap', zs, hcs, _, hl, hm, hz, _, hcell, hwz⟩
  · simp at hcs
    subst hcs
    exact ⟨[], none, 0, rfl, Nat.le_refl _, Nat.zero_le _, by simp, fun h => absurd h (by simp), fun _ => rfl⟩
  · simp at hcs
    subst hcs
    simp only [if_true] at hz
    have hlen : ((zs.take len').map Int.toNat).length = len' := by simp; omega
    have hby : ∀ x ∈ (zs.take len').map Int.toNat, x < 256 := by
      intro x hx
      obtain ⟨z, hz', rfl⟩ := List.mem_map.1 hx
      have := wf_u8 (hwz z (List.mem_of_mem_take hz'))
      omega
    refine ⟨(zs.take len').map Int.toNat, some a, cap', by rw [hlen], by omega, hm, hby, fun hpos => ?_, fun h => by cases h⟩
    rw [hlen] at hpos
    obtain ⟨b, off, spot⟩ := a
    have hspot : spot = none := by simpa [Addr.add] using World.cell?_spot (hcell 0 (by omega))
    subst hspot
    have hblk : b < W.heap.size := by have := World.block_lt_of_cell? _ _ (hcell 0 (by omega)); simpa [add_at] using this
    refine ⟨b, off, rfl, hblk, fun i hi => ?_⟩
    rw [hlen] at hi
    have := hcell i (by omega)
    rw [add_at] at this
    rw [this]
    have hzi : i < zs.length := by omega
    have hwi := wf_u8 (hwz zs[i] (List.getElem_mem hzi))
    simp [List.getD, List.getElem?_eq_getElem hzi, hi]
    omega

/-- A byte in one cell. -/
theorem open_byte_cell {n : Nat} {v : Value} {y : DataW H × List MemPlace} (h : DataW.trod enc Try.prog W 0 (fun _ => true) true n 5 [v] = some y) : ∃ k : Nat, v = .int .u8 k ∧ k < 256 := by
  obtain ⟨a, g, _, hw⟩ := DataW.trod_int Try.underlying5 h
  simp at g
  subst g
  have := wf_u8 hw
  exact ⟨a.toNat, by congr 1; omega, by omega⟩
theorem open_int_cell {n : Nat} {v : Value} {y : DataW H × List MemPlace} (h : DataW.trod enc Try.prog W 0 (fun _ => true) true n 3 [v] = some y) : ∃ k : Int, v = .int .i64 k ∧ -9223372036854775808 ≤ k ∧ k ≤ 9223372036854775807 := by
  obtain ⟨a, g, _, hw⟩ := DataW.trod_int Try.underlying3 h
  simp at g
  subst g
  exact ⟨a, rfl, wf_i64 hw⟩

theorem open_framed {b0 : Nat} {v : Value} {d : DataW H} {p : List MemPlace} (hv : Value.okWide Try.prog W .any b0 35 v) (h : DataW.Trod enc Try.prog W 0 (fun _ => true) true 35 v d p) :
    ∃ (k : Nat) (cut : Int) (bv mv : Value) (l m : List Nat), v = .agg #[.int .u8 k, bv, mv, .int .i64 cut] ∧ k < 256 ∧ (-9223372036854775808 ≤ cut ∧ cut ≤ 9223372036854775807) ∧ BytesAt W bv l ∧ BytesAt W mv m := by
  obtain ⟨c0, c1, c2, c3, y0, y1, y2, y3, n, rfl, _, _, g0, g1, g2, g3⟩ := open_agg4 Try.underlying35 (by kernel_rfl) cellsOf_framed hv h
  obtain ⟨k, rfl, hk⟩ := open_byte_cell g0
  obtain ⟨l, hl⟩ := open_bytes_cell g1
  obtain ⟨m, hm⟩ := open_bytes_cell g2
  obtain ⟨cut, rfl, hc⟩ := open_int_cell g3
  exact ⟨k, cut, c1, c2, l, m, rfl, hk, hc, hl, hm⟩

theorem open_changed {b0 : Nat} {v : Value} {d : DataW H} {p : List MemPlace} (hv : Value.okWide Try.prog W .any b0 38 v) (h : DataW.Trod enc Try.prog W 0 (fun _ => true) true 38 v d p) :
    ∃ (k y : Nat) (at' : Int) (bv : Value) (l : List Nat), v = .agg #[.int .u8 k, bv, .int .i64 at', .int .u8 y] ∧ k < 256 ∧ y < 256 ∧ (-9223372036854775808 ≤ at' ∧ at' ≤ 9223372036854775807) ∧ BytesAt W bv l := by
  obtain ⟨c0, c1, c2, c3, y0, y1, y2, y3, n, rfl, _, _, g0, g1, g2, g3⟩ := open_agg4 Try.underlying38 (by kernel_rfl) cellsOf_changed hv h
  obtain ⟨k, rfl, hk⟩ := open_byte_cell g0
  obtain ⟨l, hl⟩ := open_bytes_cell g1
  obtain ⟨at', rfl, hc⟩ := open_int_cell g2
  obtain ⟨y, rfl, hy⟩ := open_byte_cell g3
  exact ⟨k, y, at', c1, l, rfl, hk, hy, hc, hl⟩

theorem cells4 {w : World} {a : Addr} {cs : List Value} (h : w.cells? 0 a 4 = some cs) : ∃ c0 c1 c2 c3, cs = [c0, c1, c2, c3] ∧ w.cell? a = some c0 ∧ w.cell? (a.add 1) = some c1 := by
  obtain ⟨_, hl, hc⟩ := World.cells?_some h
  match cs, hl with
  | [c0, c1, c2, c3], _ => exact ⟨c0, c1, c2, c3, rfl, by have := hc 0 (by omega); simpa [Addr.add] using this, by simpa using hc 1 (by omega)⟩

theorem open_frames {b0 : Nat} {v : Value} {d : DataW H} {p : List MemPlace} (hv : Value.okWide Try.prog W .any b0 40 v) (h : DataW.Trod enc Try.prog W 0 (fun _ => true) true 40 v d p) :
    ∃ fs, FramesAt W v fs ∧ ∀ f ∈ fs, f.1 < 256 ∧ ∀ x ∈ f.2, x < 256 := by
  have he : Try.prog.elem 40 = 35 := by simp [Program.elem, Try.underlying40]
  have hs : ∀ W, (sizeOf 35).run Try.prog W = .ok 4 W := fun W => by kernel_rfl
  obtain ⟨A, n, c, rfl⟩ := okWide_slice Try.underlying40 hv
  obtain ⟨fuel, hf⟩ := h
  have hlenE : ∀ (W : World), (Builtin.len_ #[40] 3 #[.slice A n c]).run Try.prog W = .ok (.int .i64 (n : Nat)) W := fun W => run_len_slice (P := Try.prog) W 40 3 A n c (by rw [he]; exact Try.underlying40)
  rcases Go.Deep.open_slice Try.underlying40 hf with ⟨hcs, _⟩ | ⟨a, len', cap', m, q, D, Pl, hcs, _, hl, hm, hmm, _, hi⟩
  · simp [Value.cells] at hcs
    obtain ⟨rfl, rfl, rfl⟩ := hcs
    exact ⟨[], ⟨hlenE, by simp, fun i hi => by simp at hi⟩, by simp⟩
  · simp [Value.cells] at hcs
    obtain ⟨rfl, rfl, rfl⟩ := hcs
    simp only [if_true] at hmm
    subst hmm
    rw [cellsOf_framed] at hi
    -- each element's cells
    have hall : ∀ i, i < n → ∃ f : Nat × List Nat, ∃ bv, W.cell? (a.add (i * 4)) = some (.int .u8 (f.1 : Nat)) ∧ W.cell? ((a.add (i * 4)).add 1) = some bv ∧ BytesAt W bv f.2 ∧ f.1 < 256 := fun i hin => by
      obtain ⟨cs', h1, h2⟩ := hi i (by omega)
      obtain ⟨c0, c1, c2, c3, rfl, k0, k1⟩ := cells4 h1
      obtain ⟨y0, y1, y2, y3, n', _, _, g0, g1, _, _⟩ := trod_struct4 Try.underlying35 h2
      obtain ⟨k, rfl, hk⟩ := open_byte_cell (v := c0) (n := n') (y := y0) g0
      obtain ⟨l, hl⟩ := open_bytes_cell (v := c1) (n := n') (y := y1) g1
      exact ⟨(k, l), c1, k0, k1, hl, hk⟩
    obtain ⟨f, hf⟩ := Go.Deep.choose_lt hall
    refine ⟨(List.range n).map f, ⟨by simpa using hlenE, by unfold maxLen at hm; simp; omega, fun i hi => ?_⟩, fun g hg => ?_⟩
    · have hin : i < n := by simpa using hi
      obtain ⟨bv, h1, h2, h3, h4⟩ := hf i hin
      obtain ⟨bv0, h01, _⟩ := hf 0 (by omega)
      obtain ⟨b, off, spot⟩ := a
      have hspot : spot = none := by simpa [Addr.add] using World.cell?_spot h01
      subst hspot
      have hg : ((List.range n).map f).getD i (0, []) = f i := by simp [List.getD, hin]
      rw [hg]
      rw [addr_at] at h1 h2
      rw [addr_at] at h2
      refine ⟨b, off + i * 4, bv, fun W => ?_, World.block_lt_of_cell? _ _ h1, h1, h2, h3, h4⟩
      rw [run_indexAt_slice (P := Try.prog) W 40 _ n _ .i64 (i : Int) (by rw [he]; exact Try.underlying40), if_pos (by omega), he, hs]
      simp [Result.andThen, addr_at]
    · obtain ⟨i, hin, rfl⟩ := List.mem_map.1 hg
      obtain ⟨bv, _, _, h3, h4⟩ := hf i (by simpa using hin)
      exact ⟨h4, h3.byte⟩
end
end Go.Proofs.Ytmeofjoamcghhaa
