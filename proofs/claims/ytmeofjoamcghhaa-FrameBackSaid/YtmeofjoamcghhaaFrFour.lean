/-
  Four bytes of a number, the lowest first.
-/
import Derived.Test.YtmeofjoamcghhaaFrSum
namespace Go.Proofs.Ytmeofjoamcghhaa
open Go.RowKit Go.Sort

/-- A literal's row. -/
theorem own_lit (w : World) (l : List Nat) (cs : Array Value) (hcs : cs.toList = bvals l) (hm : l.length ≤ 100) : Own (w.alloc (.cells cs 5)) w.heap.size (.slice (some ⟨w.heap.size, 0, none⟩) l.length l.length) l := by
  have hl : cs.size = l.length := by rw [← Array.length_toList, hcs, bvals_length]
  refine ⟨by simp [bvals], .inr ⟨w.heap.size, l.length, cs, rfl, Nat.le_refl _, heap_alloc_new w _, Nat.le_refl _, by unfold maxLen; omega, by omega, ?_⟩⟩
  rw [hcs, Nat.mul_one, ← bvals_length l, List.take_length]

set_option maxRecDepth 20000 in
set_option maxHeartbeats 1000000 in
theorem refFour_any (n : Nat) (hn : n < 4294967296) (w : World) :
    Calls Try.prog 21 #[.int .u32 n] w fun e w' => ∃ v, e = .returned v ∧ Own w' w.heap.size v (fourL n) ∧ Below w.heap.size w w' := by
  go_enter Try.func21, Try.ntmps21
  go_wp2
  go_ret
  have h4 : n / 16777216 % 256 = n / 16777216 := by omega
  have hc : (#[Value.int .u8 ((n : Int) % 256), Value.int .u8 ((n : Int) / 256 % 256), Value.int .u8 ((n : Int) / 65536 % 256), Value.int .u8 ((n : Int) / 16777216)] : Array Value).toList = bvals (fourL n) := by
    simp [bvals, fourL, bval, h4]
  exact ⟨_, rfl, own_lit w (fourL n) _ hc (by simp [fourL]), below_box1 _ _⟩
end Go.Proofs.Ytmeofjoamcghhaa
