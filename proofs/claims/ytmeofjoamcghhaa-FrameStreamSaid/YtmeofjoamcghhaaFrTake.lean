/-
  Take, the document's own answer: where it is told from the first bytes.
-/
import Derived.Test.YtmeofjoamcghhaaFrWrap
import Derived.Test.YtmeofjoamcghhaaFrNum2
import Derived.Deep.QuietTactic
import Derived.BigQuiet
namespace Go.Proofs.Ytmeofjoamcghhaa
open Go.RowKit Go.Sort

/-- What a taker of frames hands back. -/
def GivesF (r : Nat × List Nat × Nat × Nat) (w : World) : Ending → World → Prop :=
  fun e' w' => ∃ v', e' = .returned (.tuple #[.int .u8 (r.1 : Nat), v', .int .i64 (r.2.2.1 : Nat), .int .i64 (r.2.2.2 : Nat)]) ∧ Own w' w.heap.size v' r.2.1 ∧ Below w.heap.size w w'

theorem GivesF.nil {w w' : World} {e : Nat} (hb : Below w.heap.size w w') : GivesF (0, [], 0, e) w (.returned (.tuple #[.int .u8 0, .slice none 0 0, .int .i64 0, .int .i64 (e : Nat)])) w' :=
  ⟨_, rfl, own_none _ _, hb⟩

theorem results_four {fn : Func} {t u v x : Tmp} (h : fn.results = #[.tmp t, .tmp u, .tmp v, .tmp x]) (tmps : Array Value) (P : Program) (w : World) :
    (results fn tmps).run P w = .ok (.tuple #[tmps.getD t undef, tmps.getD u undef, tmps.getD v undef, tmps.getD x undef]) w := by simp [results, h]

/-- A byte at a place. -/
theorem BytesAt.idx {w : World} {v : Value} {l : List Nat} (h : BytesAt w v l) {i : Nat} (hi : i < l.length) :
    ∃ ad : Addr, (∀ W, (Instr.indexAt 22 v (.int .i64 (i : Int))).run Try.prog W = .ok (.pointer (some ad)) W) ∧ w.cell? ad = some (.int .u8 (l.getD i 0 : Nat)) ∧ ad.block < w.heap.size := by
  obtain ⟨ad, h1, h2, h3⟩ := RowAt.index h.row elemY.ht elemY.hs (k := i) (by rw [bvals_length]; exact hi)
  refine ⟨ad, h1, ?_, h3⟩
  rw [h2]
  simp [bvals, bval, List.getD, List.getElem?_eq_getElem hi]

/-- The same at a place that is written out, the byte a letter. -/
theorem BytesAt.idxL {w : World} {v : Value} {l : List Nat} (h : BytesAt w v l) (i : Nat) {d : Nat} (hd : l.getD i 0 = d) (hi : i < l.length) :
    ∃ ad : Addr, (∀ W, (Instr.indexAt 22 v (.int .i64 (i : Int))).run Try.prog W = .ok (.pointer (some ad)) W) ∧ w.cell? ad = some (.int .u8 (d : Int)) ∧ ad.block < w.heap.size ∧ d < 256 := by
  obtain ⟨ad, h1, h2, h3⟩ := h.idx hi
  refine ⟨ad, h1, by rw [h2, hd], h3, ?_⟩
  rw [← hd]
  simp only [List.getD]
  rw [List.getElem?_eq_getElem hi]
  exact h.byte _ (List.getElem_mem hi)

set_option maxRecDepth 20000 in
set_option maxHeartbeats 1000000 in
theorem refTake_0 (v : Value) (l : List Nat) (w : World) (hv : BytesAt w v l) (hl : (l.length : Int) < 1) :
    Calls Try.prog 17 #[v] w (GivesF (0, [], 0, 52) w) := by
  have hlv := fun W => hv.len (ty := 3) W
  clear hv
  go_enter Try.func17, Try.ntmps17
  go_wp2
  refine bodyPost_ret (results_four rfl _ _ _) rfl ?_
  exact GivesF.nil (Below.refl _ _)

set_option maxRecDepth 20000 in
set_option maxHeartbeats 1000000 in
theorem refTake_no0 (v : Value) (l : List Nat) (w : World) (hv : BytesAt w v l) (hl : (0 : Int) < l.length) (d0 : Nat) (h0 : l.getD 0 0 = d0) (n0 : d0 ≠ 83) :
    Calls Try.prog 17 #[v] w (GivesF (0, [], 0, 51) w) := by
  have hlv := fun W => hv.len (ty := 3) W
  obtain ⟨ad0, ha0, hc0, _, hd0⟩ := hv.idxL 0 h0 (by omega)
  have ha0 : ∀ W, (Instr.indexAt 22 v (.int .i64 0)).run Try.prog W = .ok (.pointer (some ad0)) W := ha0
  have m0 : ((d0 : Int) != 83) = true := bne_iff_ne.2 (by omega)
  clear h0
  clear hv
  go_enter Try.func17, Try.ntmps17
  go_wp2
  refine bodyPost_ret (results_four rfl _ _ _) rfl ?_
  exact GivesF.nil (Below.refl _ _)

set_option maxRecDepth 20000 in
set_option maxHeartbeats 1000000 in
theorem refTake_1 (v : Value) (l : List Nat) (w : World) (hv : BytesAt w v l) (hl : (0 : Int) < l.length) (hl2 : (l.length : Int) < 2) (h0 : l.getD 0 0 = 83) :
    Calls Try.prog 17 #[v] w (GivesF (0, [], 0, 52) w) := by
  have hlv := fun W => hv.len (ty := 3) W
  obtain ⟨ad0, ha0, hc0, _, hd0⟩ := hv.idxL 0 h0 (by omega)
  have ha0 : ∀ W, (Instr.indexAt 22 v (.int .i64 0)).run Try.prog W = .ok (.pointer (some ad0)) W := ha0
  have hc0 : w.cell? ad0 = some (.int .u8 83) := hc0
  clear h0
  clear hv
  go_enter Try.func17, Try.ntmps17
  go_wp2
  refine bodyPost_ret (results_four rfl _ _ _) rfl ?_
  exact GivesF.nil (Below.refl _ _)

set_option maxRecDepth 20000 in
set_option maxHeartbeats 1000000 in
theorem refTake_no1 (v : Value) (l : List Nat) (w : World) (hv : BytesAt w v l) (hl : (1 : Int) < l.length) (h0 : l.getD 0 0 = 83) (d1 : Nat) (h1 : l.getD 1 0 = d1) (n1 : d1 ≠ 84) :
    Calls Try.prog 17 #[v] w (GivesF (0, [], 0, 51) w) := by
  have hlv := fun W => hv.len (ty := 3) W
  obtain ⟨ad0, ha0, hc0, _, hd0⟩ := hv.idxL 0 h0 (by omega)
  have ha0 : ∀ W, (Instr.indexAt 22 v (.int .i64 0)).run Try.prog W = .ok (.pointer (some ad0)) W := ha0
  have hc0 : w.cell? ad0 = some (.int .u8 83) := hc0
  clear h0
  obtain ⟨ad1, ha1, hc1, _, hd1⟩ := hv.idxL 1 h1 (by omega)
  have ha1 : ∀ W, (Instr.indexAt 22 v (.int .i64 1)).run Try.prog W = .ok (.pointer (some ad1)) W := ha1
  have m1 : ((d1 : Int) != 84) = true := bne_iff_ne.2 (by omega)
  clear h1
  clear hv
  go_enter Try.func17, Try.ntmps17
  go_wp2
  refine bodyPost_ret (results_four rfl _ _ _) rfl ?_
  exact GivesF.nil (Below.refl _ _)

set_option maxRecDepth 20000 in
set_option maxHeartbeats 1000000 in
theorem refTake_5 (v : Value) (l : List Nat) (w : World) (hv : BytesAt w v l) (hl : (1 : Int) < l.length) (hl2 : (l.length : Int) < 6) (h0 : l.getD 0 0 = 83) (h1 : l.getD 1 0 = 84) :
    Calls Try.prog 17 #[v] w (GivesF (0, [], 0, 52) w) := by
  have hlv := fun W => hv.len (ty := 3) W
  obtain ⟨ad0, ha0, hc0, _, hd0⟩ := hv.idxL 0 h0 (by omega)
  have ha0 : ∀ W, (Instr.indexAt 22 v (.int .i64 0)).run Try.prog W = .ok (.pointer (some ad0)) W := ha0
  have hc0 : w.cell? ad0 = some (.int .u8 83) := hc0
  clear h0
  obtain ⟨ad1, ha1, hc1, _, hd1⟩ := hv.idxL 1 h1 (by omega)
  have ha1 : ∀ W, (Instr.indexAt 22 v (.int .i64 1)).run Try.prog W = .ok (.pointer (some ad1)) W := ha1
  have hc1 : w.cell? ad1 = some (.int .u8 84) := hc1
  clear h1
  clear hv
  go_enter Try.func17, Try.ntmps17
  go_wp2
  refine bodyPost_ret (results_four rfl _ _ _) rfl ?_
  exact GivesF.nil (Below.refl _ _)

set_option maxRecDepth 20000 in
set_option maxHeartbeats 1000000 in
theorem refTake_6a (v : Value) (l : List Nat) (w : World) (hv : BytesAt w v l) (hl : (5 : Int) < l.length) (hl2 : (l.length : Int) < 7) (h0 : l.getD 0 0 = 83) (h1 : l.getD 1 0 = 84) (d5 : Nat) (h5 : l.getD 5 0 = d5) (n5 : 1 < d5) :
    Calls Try.prog 17 #[v] w (GivesF (0, [], 0, 51) w) := by
  have hlv := fun W => hv.len (ty := 3) W
  obtain ⟨ad0, ha0, hc0, _, hd0⟩ := hv.idxL 0 h0 (by omega)
  have ha0 : ∀ W, (Instr.indexAt 22 v (.int .i64 0)).run Try.prog W = .ok (.pointer (some ad0)) W := ha0
  have hc0 : w.cell? ad0 = some (.int .u8 83) := hc0
  clear h0
  obtain ⟨ad1, ha1, hc1, _, hd1⟩ := hv.idxL 1 h1 (by omega)
  have ha1 : ∀ W, (Instr.indexAt 22 v (.int .i64 1)).run Try.prog W = .ok (.pointer (some ad1)) W := ha1
  have hc1 : w.cell? ad1 = some (.int .u8 84) := hc1
  clear h1
  obtain ⟨ad5, ha5, hc5, _, hd5⟩ := hv.idxL 5 h5 (by omega)
  have ha5 : ∀ W, (Instr.indexAt 22 v (.int .i64 5)).run Try.prog W = .ok (.pointer (some ad5)) W := ha5
  clear h5
  clear hv
  go_enter Try.func17, Try.ntmps17
  go_wp2
  refine bodyPost_ret (results_four rfl _ _ _) rfl ?_
  exact GivesF.nil (Below.refl _ _)

set_option maxRecDepth 20000 in
set_option maxHeartbeats 1000000 in
theorem refTake_6b (v : Value) (l : List Nat) (w : World) (hv : BytesAt w v l) (hl : (5 : Int) < l.length) (hl2 : (l.length : Int) < 7) (h0 : l.getD 0 0 = 83) (h1 : l.getD 1 0 = 84) (h5 : l.getD 5 0 = 1) (d3 : Nat) (h3 : l.getD 3 0 = d3) (n3 : 0 < d3) :
    Calls Try.prog 17 #[v] w (GivesF (0, [], 0, 51) w) := by
  have hlv := fun W => hv.len (ty := 3) W
  obtain ⟨ad0, ha0, hc0, _, hd0⟩ := hv.idxL 0 h0 (by omega)
  have ha0 : ∀ W, (Instr.indexAt 22 v (.int .i64 0)).run Try.prog W = .ok (.pointer (some ad0)) W := ha0
  have hc0 : w.cell? ad0 = some (.int .u8 83) := hc0
  clear h0
  obtain ⟨ad1, ha1, hc1, _, hd1⟩ := hv.idxL 1 h1 (by omega)
  have ha1 : ∀ W, (Instr.indexAt 22 v (.int .i64 1)).run Try.prog W = .ok (.pointer (some ad1)) W := ha1
  have hc1 : w.cell? ad1 = some (.int .u8 84) := hc1
  clear h1
  obtain ⟨ad5, ha5, hc5, _, hd5⟩ := hv.idxL 5 h5 (by omega)
  have ha5 : ∀ W, (Instr.indexAt 22 v (.int .i64 5)).run Try.prog W = .ok (.pointer (some ad5)) W := ha5
  have hc5 : w.cell? ad5 = some (.int .u8 1) := hc5
  clear h5
  obtain ⟨ad3, ha3, hc3, _, hd3⟩ := hv.idxL 3 h3 (by omega)
  have ha3 : ∀ W, (Instr.indexAt 22 v (.int .i64 3)).run Try.prog W = .ok (.pointer (some ad3)) W := ha3
  clear h3
  clear hv
  go_enter Try.func17, Try.ntmps17
  go_wp2
  refine bodyPost_ret (results_four rfl _ _ _) rfl ?_
  exact GivesF.nil (Below.refl _ _)

set_option maxRecDepth 20000 in
set_option maxHeartbeats 1000000 in
theorem refTake_6c (v : Value) (l : List Nat) (w : World) (hv : BytesAt w v l) (hl : (5 : Int) < l.length) (hl2 : (l.length : Int) < 7) (h0 : l.getD 0 0 = 83) (h1 : l.getD 1 0 = 84) (h5 : l.getD 5 0 = 1) (h3 : l.getD 3 0 = 0) (d4 : Nat) (h4 : l.getD 4 0 = d4) (n4 : 0 < d4) :
    Calls Try.prog 17 #[v] w (GivesF (0, [], 0, 51) w) := by
  have hlv := fun W => hv.len (ty := 3) W
  obtain ⟨ad0, ha0, hc0, _, hd0⟩ := hv.idxL 0 h0 (by omega)
  have ha0 : ∀ W, (Instr.indexAt 22 v (.int .i64 0)).run Try.prog W = .ok (.pointer (some ad0)) W := ha0
  have hc0 : w.cell? ad0 = some (.int .u8 83) := hc0
  clear h0
  obtain ⟨ad1, ha1, hc1, _, hd1⟩ := hv.idxL 1 h1 (by omega)
  have ha1 : ∀ W, (Instr.indexAt 22 v (.int .i64 1)).run Try.prog W = .ok (.pointer (some ad1)) W := ha1
  have hc1 : w.cell? ad1 = some (.int .u8 84) := hc1
  clear h1
  obtain ⟨ad5, ha5, hc5, _, hd5⟩ := hv.idxL 5 h5 (by omega)
  have ha5 : ∀ W, (Instr.indexAt 22 v (.int .i64 5)).run Try.prog W = .ok (.pointer (some ad5)) W := ha5
  have hc5 : w.cell? ad5 = some (.int .u8 1) := hc5
  clear h5
  obtain ⟨ad3, ha3, hc3, _, hd3⟩ := hv.idxL 3 h3 (by omega)
  have ha3 : ∀ W, (Instr.indexAt 22 v (.int .i64 3)).run Try.prog W = .ok (.pointer (some ad3)) W := ha3
  have hc3 : w.cell? ad3 = some (.int .u8 0) := hc3
  clear h3
  obtain ⟨ad4, ha4, hc4, _, hd4⟩ := hv.idxL 4 h4 (by omega)
  have ha4 : ∀ W, (Instr.indexAt 22 v (.int .i64 4)).run Try.prog W = .ok (.pointer (some ad4)) W := ha4
  clear h4
  clear hv
  go_enter Try.func17, Try.ntmps17
  go_wp2
  refine bodyPost_ret (results_four rfl _ _ _) rfl ?_
  exact GivesF.nil (Below.refl _ _)

set_option maxRecDepth 20000 in
set_option maxHeartbeats 1000000 in
theorem refTake_6d (v : Value) (l : List Nat) (w : World) (hv : BytesAt w v l) (hl : (5 : Int) < l.length) (hl2 : (l.length : Int) < 7) (h0 : l.getD 0 0 = 83) (h1 : l.getD 1 0 = 84) (h5 : l.getD 5 0 = 1) (h3 : l.getD 3 0 = 0) (h4 : l.getD 4 0 = 0) :
    Calls Try.prog 17 #[v] w (GivesF (0, [], 0, 52) w) := by
  have hlv := fun W => hv.len (ty := 3) W
  obtain ⟨ad0, ha0, hc0, _, hd0⟩ := hv.idxL 0 h0 (by omega)
  have ha0 : ∀ W, (Instr.indexAt 22 v (.int .i64 0)).run Try.prog W = .ok (.pointer (some ad0)) W := ha0
  have hc0 : w.cell? ad0 = some (.int .u8 83) := hc0
  clear h0
  obtain ⟨ad1, ha1, hc1, _, hd1⟩ := hv.idxL 1 h1 (by omega)
  have ha1 : ∀ W, (Instr.indexAt 22 v (.int .i64 1)).run Try.prog W = .ok (.pointer (some ad1)) W := ha1
  have hc1 : w.cell? ad1 = some (.int .u8 84) := hc1
  clear h1
  obtain ⟨ad5, ha5, hc5, _, hd5⟩ := hv.idxL 5 h5 (by omega)
  have ha5 : ∀ W, (Instr.indexAt 22 v (.int .i64 5)).run Try.prog W = .ok (.pointer (some ad5)) W := ha5
  have hc5 : w.cell? ad5 = some (.int .u8 1) := hc5
  clear h5
  obtain ⟨ad3, ha3, hc3, _, hd3⟩ := hv.idxL 3 h3 (by omega)
  have ha3 : ∀ W, (Instr.indexAt 22 v (.int .i64 3)).run Try.prog W = .ok (.pointer (some ad3)) W := ha3
  have hc3 : w.cell? ad3 = some (.int .u8 0) := hc3
  clear h3
  obtain ⟨ad4, ha4, hc4, _, hd4⟩ := hv.idxL 4 h4 (by omega)
  have ha4 : ∀ W, (Instr.indexAt 22 v (.int .i64 4)).run Try.prog W = .ok (.pointer (some ad4)) W := ha4
  have hc4 : w.cell? ad4 = some (.int .u8 0) := hc4
  clear h4
  clear hv
  go_enter Try.func17, Try.ntmps17
  go_wp2
  refine bodyPost_ret (results_four rfl _ _ _) rfl ?_
  exact GivesF.nil (Below.refl _ _)

set_option maxRecDepth 20000 in
set_option maxHeartbeats 1000000 in
theorem refTake_6e (v : Value) (l : List Nat) (w : World) (hv : BytesAt w v l) (hl : (5 : Int) < l.length) (hl2 : (l.length : Int) < 7) (h0 : l.getD 0 0 = 83) (h1 : l.getD 1 0 = 84) (h5 : l.getD 5 0 = 0) :
    Calls Try.prog 17 #[v] w (GivesF (0, [], 0, 52) w) := by
  have hlv := fun W => hv.len (ty := 3) W
  obtain ⟨ad0, ha0, hc0, _, hd0⟩ := hv.idxL 0 h0 (by omega)
  have ha0 : ∀ W, (Instr.indexAt 22 v (.int .i64 0)).run Try.prog W = .ok (.pointer (some ad0)) W := ha0
  have hc0 : w.cell? ad0 = some (.int .u8 83) := hc0
  clear h0
  obtain ⟨ad1, ha1, hc1, _, hd1⟩ := hv.idxL 1 h1 (by omega)
  have ha1 : ∀ W, (Instr.indexAt 22 v (.int .i64 1)).run Try.prog W = .ok (.pointer (some ad1)) W := ha1
  have hc1 : w.cell? ad1 = some (.int .u8 84) := hc1
  clear h1
  obtain ⟨ad5, ha5, hc5, _, hd5⟩ := hv.idxL 5 h5 (by omega)
  have ha5 : ∀ W, (Instr.indexAt 22 v (.int .i64 5)).run Try.prog W = .ok (.pointer (some ad5)) W := ha5
  have hc5 : w.cell? ad5 = some (.int .u8 0) := hc5
  clear h5
  clear hv
  go_enter Try.func17, Try.ntmps17
  go_wp2
  refine bodyPost_ret (results_four rfl _ _ _) rfl ?_
  exact GivesF.nil (Below.refl _ _)
end Go.Proofs.Ytmeofjoamcghhaa
