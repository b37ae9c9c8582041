/-
  The code's own numbers of a frame: taken from at most four bytes, put over four; the sum of a frame.
-/
import Derived.Test.YtmeofjoamcghhaaFcSum
import Derived.Test.YtmeofjoamcghhaaFrTake
import Derived.Test.YtmeofjoamcghhaaStore
namespace Go.Proofs.Ytmeofjoamcghhaa
open Go.RowKit Go.Sort

/-- The elements from a place up to another. -/
theorem RowAt.between {w : World} {v : Value} {xs : List Value} (h : RowAt w v xs) {P : Program} {t e : TypeId} (ht : P.underlying t = some (.slice e)) (hs : ∀ W, (sizeOf e).run P W = .ok 1 W) {i j : Nat} (hij : i ≤ j) (hj : j ≤ xs.length) :
    ∃ v', (∀ W, (Instr.slice t v (some (.int .i64 (i : Int))) (some (.int .i64 (j : Int))) none).run P W = .ok v' W) ∧ RowAt w v' ((xs.take j).drop i) := by
  obtain ⟨A, c, rfl, h2, h3, h5, h6⟩ := h
  have he : P.elem t = e := by simp [Program.elem, ht]
  have hlen : ((xs.take j).drop i).length = j - i := by rw [List.length_drop, List.length_take, Nat.min_eq_left hj]
  refine ⟨sliced A i j c 1, fun W => ?_, ?_⟩
  · rw [run_slice_lh (P := P) W t A xs.length c (by rw [he]; exact ht) .i64 .i64 (i : Int) (j : Int) (by omega) (by omega) (by omega), he, hs]
    simp [Result.andThen]
  · refine ⟨if c = i then A else A.map (·.add (i * 1)), c - i, by rw [sliced, hlen], by rw [hlen]; omega, by unfold maxLen at *; omega, fun hl => ?_, fun hn => ?_⟩
    · rw [hlen] at hl
      obtain ⟨b, off, rfl, h8, h9⟩ := h5 (by omega)
      rw [if_neg (by omega)]
      refine ⟨b, off + i, by simp [addr_at], h8, fun k x hx => ?_⟩
      rw [List.getElem?_drop, List.getElem?_take] at hx
      split at hx
      · rw [Nat.add_assoc]
        exact h9 _ x hx
      · cases hx
    · split at hn
      · omega
      · have := h6 (by cases A <;> simp_all)
        omega

theorem BytesAt.between {w : World} {v : Value} {l : List Nat} (h : BytesAt w v l) {i j : Nat} (hij : i ≤ j) (hj : j ≤ l.length) :
    ∃ v', (∀ W, (Instr.slice 22 v (some (.int .i64 (i : Int))) (some (.int .i64 (j : Int))) none).run Try.prog W = .ok v' W) ∧ BytesAt w v' ((l.take j).drop i) := by
  obtain ⟨v', h1, h2⟩ := h.row.between elemY.ht elemY.hs (i := i) (j := j) hij (by rw [bvals_length]; exact hj)
  refine ⟨v', h1, RowAt.bytes ?_ (fun x hx => h.byte x (List.mem_of_mem_take (List.mem_of_mem_drop hx)))⟩
  rw [bvals, ← List.map_take, ← List.map_drop] at h2
  exact h2

/-- At most four bytes' number. -/
def numL : List Nat → Nat
  | [] => 0
  | b :: t => b + 256 * numL t

set_option maxRecDepth 20000 in
set_option maxHeartbeats 1000000 in
theorem number_0 (v : Value) (w : World) (hv : BytesAt w v []) :
    Calls Try.prog 23 #[v] w fun e w' => e = .returned (.int .u32 ((numL [] : Nat) : Int)) ∧ w = w' := by
  have hlv : ∀ W, (Builtin.len_ #[22] 3 #[v]).run Try.prog W = .ok (.int .i64 0) W := fun W => hv.len (ty := 3) W
  clear hv
  go_enter Try.func23, Try.ntmps23
  go_wp2
  refine wp_loop_rounds 1 ?_
  rw [rounds_succ]
  go_wp2
  go_ret
  exact ⟨ret_int (by simp [numL]), rfl⟩

set_option maxRecDepth 20000 in
set_option maxHeartbeats 1000000 in
theorem number_1 (v : Value) (a : Nat) (w : World) (hv : BytesAt w v [a]) :
    Calls Try.prog 23 #[v] w fun e w' => e = .returned (.int .u32 ((numL [a] : Nat) : Int)) ∧ w = w' := by
  have hlv : ∀ W, (Builtin.len_ #[22] 3 #[v]).run Try.prog W = .ok (.int .i64 1) W := fun W => hv.len (ty := 3) W
  obtain ⟨ad0, ha0, hc0, _, hd0⟩ := hv.idxL 0 (d := a) rfl (by simp)
  have ha0 : ∀ W, (Instr.indexAt 22 v (.int .i64 0)).run Try.prog W = .ok (.pointer (some ad0)) W := ha0
  clear hv
  go_enter Try.func23, Try.ntmps23
  go_wp2
  refine wp_loop_rounds 2 ?_
  rw [rounds_succ]
  go_wp2
  rw [rounds_succ]
  go_wp2
  go_ret
  exact ⟨ret_int (by simp [numL]), rfl⟩

set_option maxRecDepth 20000 in
set_option maxHeartbeats 1000000 in
theorem number_2 (v : Value) (a b : Nat) (w : World) (hv : BytesAt w v [a, b]) :
    Calls Try.prog 23 #[v] w fun e w' => e = .returned (.int .u32 ((numL [a, b] : Nat) : Int)) ∧ w = w' := by
  have hlv : ∀ W, (Builtin.len_ #[22] 3 #[v]).run Try.prog W = .ok (.int .i64 2) W := fun W => hv.len (ty := 3) W
  obtain ⟨ad0, ha0, hc0, _, hd0⟩ := hv.idxL 0 (d := a) rfl (by simp)
  have ha0 : ∀ W, (Instr.indexAt 22 v (.int .i64 0)).run Try.prog W = .ok (.pointer (some ad0)) W := ha0
  obtain ⟨ad1, ha1, hc1, _, hd1⟩ := hv.idxL 1 (d := b) rfl (by simp)
  have ha1 : ∀ W, (Instr.indexAt 22 v (.int .i64 1)).run Try.prog W = .ok (.pointer (some ad1)) W := ha1
  clear hv
  go_enter Try.func23, Try.ntmps23
  go_wp2
  refine wp_loop_rounds 3 ?_
  rw [rounds_succ]
  go_wp2
  rw [rounds_succ]
  go_wp2
  rw [rounds_succ]
  go_wp2
  go_ret
  exact ⟨ret_int (by simp [numL]; omega), rfl⟩

set_option maxRecDepth 20000 in
set_option maxHeartbeats 1000000 in
theorem number_3 (v : Value) (a b c : Nat) (w : World) (hv : BytesAt w v [a, b, c]) :
    Calls Try.prog 23 #[v] w fun e w' => e = .returned (.int .u32 ((numL [a, b, c] : Nat) : Int)) ∧ w = w' := by
  have hlv : ∀ W, (Builtin.len_ #[22] 3 #[v]).run Try.prog W = .ok (.int .i64 3) W := fun W => hv.len (ty := 3) W
  obtain ⟨ad0, ha0, hc0, _, hd0⟩ := hv.idxL 0 (d := a) rfl (by simp)
  have ha0 : ∀ W, (Instr.indexAt 22 v (.int .i64 0)).run Try.prog W = .ok (.pointer (some ad0)) W := ha0
  obtain ⟨ad1, ha1, hc1, _, hd1⟩ := hv.idxL 1 (d := b) rfl (by simp)
  have ha1 : ∀ W, (Instr.indexAt 22 v (.int .i64 1)).run Try.prog W = .ok (.pointer (some ad1)) W := ha1
  obtain ⟨ad2, ha2, hc2, _, hd2⟩ := hv.idxL 2 (d := c) rfl (by simp)
  have ha2 : ∀ W, (Instr.indexAt 22 v (.int .i64 2)).run Try.prog W = .ok (.pointer (some ad2)) W := ha2
  clear hv
  go_enter Try.func23, Try.ntmps23
  go_wp2
  refine wp_loop_rounds 4 ?_
  rw [rounds_succ]
  go_wp2
  rw [rounds_succ]
  go_wp2
  rw [rounds_succ]
  go_wp2
  rw [rounds_succ]
  go_wp2
  go_ret
  exact ⟨ret_int (by simp [numL]; omega), rfl⟩

set_option maxRecDepth 20000 in
set_option maxHeartbeats 1000000 in
theorem number_4 (v : Value) (a b c d : Nat) (w : World) (hv : BytesAt w v [a, b, c, d]) :
    Calls Try.prog 23 #[v] w fun e w' => e = .returned (.int .u32 ((numL [a, b, c, d] : Nat) : Int)) ∧ w = w' := by
  have hlv : ∀ W, (Builtin.len_ #[22] 3 #[v]).run Try.prog W = .ok (.int .i64 4) W := fun W => hv.len (ty := 3) W
  obtain ⟨ad0, ha0, hc0, _, hd0⟩ := hv.idxL 0 (d := a) rfl (by simp)
  have ha0 : ∀ W, (Instr.indexAt 22 v (.int .i64 0)).run Try.prog W = .ok (.pointer (some ad0)) W := ha0
  obtain ⟨ad1, ha1, hc1, _, hd1⟩ := hv.idxL 1 (d := b) rfl (by simp)
  have ha1 : ∀ W, (Instr.indexAt 22 v (.int .i64 1)).run Try.prog W = .ok (.pointer (some ad1)) W := ha1
  obtain ⟨ad2, ha2, hc2, _, hd2⟩ := hv.idxL 2 (d := c) rfl (by simp)
  have ha2 : ∀ W, (Instr.indexAt 22 v (.int .i64 2)).run Try.prog W = .ok (.pointer (some ad2)) W := ha2
  obtain ⟨ad3, ha3, hc3, _, hd3⟩ := hv.idxL 3 (d := d) rfl (by simp)
  have ha3 : ∀ W, (Instr.indexAt 22 v (.int .i64 3)).run Try.prog W = .ok (.pointer (some ad3)) W := ha3
  clear hv
  go_enter Try.func23, Try.ntmps23
  go_wp2
  refine wp_loop_rounds 5 ?_
  rw [rounds_succ]
  go_wp2
  rw [rounds_succ]
  go_wp2
  rw [rounds_succ]
  go_wp2
  rw [rounds_succ]
  go_wp2
  rw [rounds_succ]
  go_wp2
  go_ret
  exact ⟨ret_int (by simp [numL]; omega), rfl⟩

theorem number_any (v : Value) (l : List Nat) (w : World) (hl : l.length ≤ 4) (hv : BytesAt w v l) :
    Calls Try.prog 23 #[v] w fun e w' => e = .returned (.int .u32 ((numL l : Nat) : Int)) ∧ w = w' := by
  match l, hl, hv with
  | [], _, hv => exact number_0 v w hv
  | [a], _, hv => exact number_1 v a w hv
  | [a, b], _, hv => exact number_2 v a b w hv
  | [a, b, c], _, hv => exact number_3 v a b c w hv
  | [a, b, c, d], _, hv => exact number_4 v a b c d w hv

/-- A frame's sum, out of its bytes. -/
def sumF (l : List Nat) : Nat := sumN ((l.take 7).drop 2 ++ l.drop 11)

set_option maxRecDepth 20000 in
theorem frameSum_any (v : Value) (l : List Nat) (w : World) (hl : 11 ≤ l.length) (hv : BytesAt w v l) :
    Calls Try.prog 20 #[v] w (Ret (.int .u32 (sumF l : Nat)) w) := by
  obtain ⟨v1, h1, b1⟩ := hv.between (i := 2) (j := 7) (by omega) (by omega)
  obtain ⟨v2, h2, b2⟩ := hv.cut (k := 11) hl
  have h1 : ∀ W, (Instr.slice 22 v (some (.int .i64 2)) (some (.int .i64 7)) none).run Try.prog W = .ok v1 W := h1
  have h2 : ∀ W, (Instr.slice 22 v (some (.int .i64 11)) none none).run Try.prog W = .ok v2 W := h2
  have hs : crcL 4294967295 ((l.take 7).drop 2) < 4294967296 := crcL_lt _ (by decide) b1.byte
  have he : crcL (crcL 4294967295 ((l.take 7).drop 2)) (l.drop 11) ^^^ 4294967295 = sumF l := by rw [sumF, sumN, crcL_append]
  have b1 := Lib.hid b1
  have b2 := Lib.hid b2
  clear hv
  go_enter Try.func20, Try.ntmps20
  go_wp2_with (first
    | (go_at_call 18; refine (summing_any _).mono ?_; rintro e w1 ⟨rfl, hc, hb⟩; have hc := Lib.hid hc; have hb := Lib.hid hb)
    | (go_at_call 25; (first
        | ((with_reducible refine (further_any v1 _ w _ _ 4294967295 b1.out (Nat.le_refl _) hb.out (by omega) hc.out).mono ?_); rintro e w2 ⟨rfl, hc2, hb2⟩; have hc2 := Lib.hid hc2; have hb2 := Lib.hid hb2)
        | ((with_reducible refine (further_any v2 _ w _ _ _ b2.out (Nat.le_refl _) hb2.out hs hc2.out).mono ?_); rintro e w3 ⟨rfl, hc3, hb3⟩))))
  go_ret
  exact ⟨rfl, hb3⟩
end Go.Proofs.Ytmeofjoamcghhaa
