/-
  The document's put: a field of an operation is a number.
-/
import Derived.Test.YthpgfnhecfgiaaaGreatDoorBaREnc
import Derived.Test.YthpgfnhecfgiaaaGreatDoorBaTk
namespace Go.Proofs.YthpgfnhecfgiaaaGreatDoor
open Go.RowKit Go.Sort
set_option maxRecDepth 20000

set_option maxHeartbeats 8000000 in
theorem refPutF_any (o : OpV) {c : Nat} (hc : c < 21) (x : Int) (w : World) : Calls Tryz.prog 16 #[.agg (OpC o), .int .i64 (c : Int), .int .i64 x] w fun e w' => ∃ o', (OpC o).setIfInBounds (offN c) (.int .i64 x) = OpC o' ∧ e = .returned (.agg (OpC o')) ∧ Below w.heap.size w w' := by
  obtain ⟨W, hW, hb, hA⟩ := op_box w o
  obtain ⟨o', ho'⟩ := set_num o hc x
  rw [Array.set!_eq_setIfInBounds] at ho'
  have hl := hA.lt
  have fz := fun k => hA.frozen k
  have hS : ∀ k, Below w.heap.size w (W.setCell ⟨w.heap.size, k, none⟩ (.int .i64 x)) := fun k => hb.setCell (p := ⟨w.heap.size, k, none⟩) (Nat.le_refl _) _
  revert ho'
  refine below21 (p := fun c => (OpC o).setIfInBounds (offN c) (.int .i64 x) = OpC o' → Calls Tryz.prog 16 #[.agg (OpC o), .int .i64 (c : Int), .int .i64 x] w fun e w' => ∃ o', (OpC o).setIfInBounds (offN c) (.int .i64 x) = OpC o' ∧ e = .returned (.agg (OpC o')) ∧ Below w.heap.size w w') ⟨?_, ?_, ?_, ?_, ?_, ?_, ?_, ?_, ?_, ?_, ?_, ?_, ?_, ?_, ?_, ?_, ?_, ?_, ?_, ?_, ?_⟩ hc
  · intro ho'
    have hA2 : OpAt (W.setCell ⟨w.heap.size, 0, none⟩ (.int .i64 x)) w.heap.size o' := hA.set ho'
    have ck := hA.c0
    have hx := Lib.hid ho'
    obtain ⟨p8, W7, hp8, z8, hW7, hb7, x8⟩ := new_op (W.setCell ⟨w.heap.size, 0, none⟩ (.int .i64 x)) o'
    obtain rfl : W.heap.size = p8 := by rw [← hp8]; simp
    have hB := (hS 0).trans (hb7.mono (hS 0).size)
    clear ho' hS hb7
    go_enter Tryz.func16, Tryz.ntmps16
    go_wp2_with (first
      | (refine load_op hA2 ?_ ?_ ?_; rfl; rfl)
      | (refine load_op (hA2.alloc _) ?_ ?_ ?_; rfl; rfl)
      | ((with_reducible refine load_op x8 ?_ ?_ ?_); rfl; rfl)
      | ((with_reducible refine store_op (x := o') z8 ?_ ?_ ?_); rfl; rfl; rw [hW7]))
    refine bodyPost_ret (results_op rfl _ _ _ o' rfl x8) rfl ?_
    exact ⟨o', hx.out, rfl, hB⟩
  · intro ho'
    have hA2 : OpAt (W.setCell ⟨w.heap.size, 1, none⟩ (.int .i64 x)) w.heap.size o' := hA.set ho'
    have ck := hA.c1
    have hx := Lib.hid ho'
    obtain ⟨p8, W7, hp8, z8, hW7, hb7, x8⟩ := new_op (W.setCell ⟨w.heap.size, 1, none⟩ (.int .i64 x)) o'
    obtain rfl : W.heap.size = p8 := by rw [← hp8]; simp
    have hB := (hS 1).trans (hb7.mono (hS 1).size)
    clear ho' hS hb7
    go_enter Tryz.func16, Tryz.ntmps16
    go_wp2_with (first
      | (refine load_op hA2 ?_ ?_ ?_; rfl; rfl)
      | (refine load_op (hA2.alloc _) ?_ ?_ ?_; rfl; rfl)
      | ((with_reducible refine load_op x8 ?_ ?_ ?_); rfl; rfl)
      | ((with_reducible refine store_op (x := o') z8 ?_ ?_ ?_); rfl; rfl; rw [hW7]))
    refine bodyPost_ret (results_op rfl _ _ _ o' rfl x8) rfl ?_
    exact ⟨o', hx.out, rfl, hB⟩
  · intro ho'
    have hA2 : OpAt (W.setCell ⟨w.heap.size, 2, none⟩ (.int .i64 x)) w.heap.size o' := hA.set ho'
    have ck := hA.c2
    have hx := Lib.hid ho'
    obtain ⟨p8, W7, hp8, z8, hW7, hb7, x8⟩ := new_op (W.setCell ⟨w.heap.size, 2, none⟩ (.int .i64 x)) o'
    obtain rfl : W.heap.size = p8 := by rw [← hp8]; simp
    have hB := (hS 2).trans (hb7.mono (hS 2).size)
    clear ho' hS hb7
    go_enter Tryz.func16, Tryz.ntmps16
    go_wp2_with (first
      | (refine load_op hA2 ?_ ?_ ?_; rfl; rfl)
      | (refine load_op (hA2.alloc _) ?_ ?_ ?_; rfl; rfl)
      | ((with_reducible refine load_op x8 ?_ ?_ ?_); rfl; rfl)
      | ((with_reducible refine store_op (x := o') z8 ?_ ?_ ?_); rfl; rfl; rw [hW7]))
    refine bodyPost_ret (results_op rfl _ _ _ o' rfl x8) rfl ?_
    exact ⟨o', hx.out, rfl, hB⟩
  · intro ho'
    have hA2 : OpAt (W.setCell ⟨w.heap.size, 3, none⟩ (.int .i64 x)) w.heap.size o' := hA.set ho'
    have ck := hA.c3
    have hx := Lib.hid ho'
    obtain ⟨p8, W7, hp8, z8, hW7, hb7, x8⟩ := new_op (W.setCell ⟨w.heap.size, 3, none⟩ (.int .i64 x)) o'
    obtain rfl : W.heap.size = p8 := by rw [← hp8]; simp
    have hB := (hS 3).trans (hb7.mono (hS 3).size)
    clear ho' hS hb7
    go_enter Tryz.func16, Tryz.ntmps16
    go_wp2_with (first
      | (refine load_op hA2 ?_ ?_ ?_; rfl; rfl)
      | (refine load_op (hA2.alloc _) ?_ ?_ ?_; rfl; rfl)
      | ((with_reducible refine load_op x8 ?_ ?_ ?_); rfl; rfl)
      | ((with_reducible refine store_op (x := o') z8 ?_ ?_ ?_); rfl; rfl; rw [hW7]))
    refine bodyPost_ret (results_op rfl _ _ _ o' rfl x8) rfl ?_
    exact ⟨o', hx.out, rfl, hB⟩
  · intro ho'
    have hA2 : OpAt (W.setCell ⟨w.heap.size, 4, none⟩ (.int .i64 x)) w.heap.size o' := hA.set ho'
    have ck := hA.c4
    have hx := Lib.hid ho'
    obtain ⟨p8, W7, hp8, z8, hW7, hb7, x8⟩ := new_op (W.setCell ⟨w.heap.size, 4, none⟩ (.int .i64 x)) o'
    obtain rfl : W.heap.size = p8 := by rw [← hp8]; simp
    have hB := (hS 4).trans (hb7.mono (hS 4).size)
    clear ho' hS hb7
    go_enter Tryz.func16, Tryz.ntmps16
    go_wp2_with (first
      | (refine load_op hA2 ?_ ?_ ?_; rfl; rfl)
      | (refine load_op (hA2.alloc _) ?_ ?_ ?_; rfl; rfl)
      | ((with_reducible refine load_op x8 ?_ ?_ ?_); rfl; rfl)
      | ((with_reducible refine store_op (x := o') z8 ?_ ?_ ?_); rfl; rfl; rw [hW7]))
    refine bodyPost_ret (results_op rfl _ _ _ o' rfl x8) rfl ?_
    exact ⟨o', hx.out, rfl, hB⟩
  · intro ho'
    have hA2 : OpAt (W.setCell ⟨w.heap.size, 5, none⟩ (.int .i64 x)) w.heap.size o' := hA.set ho'
    have ck := hA.c5
    have hx := Lib.hid ho'
    obtain ⟨p8, W7, hp8, z8, hW7, hb7, x8⟩ := new_op (W.setCell ⟨w.heap.size, 5, none⟩ (.int .i64 x)) o'
    obtain rfl : W.heap.size = p8 := by rw [← hp8]; simp
    have hB := (hS 5).trans (hb7.mono (hS 5).size)
    clear ho' hS hb7
    go_enter Tryz.func16, Tryz.ntmps16
    go_wp2_with (first
      | (refine load_op hA2 ?_ ?_ ?_; rfl; rfl)
      | (refine load_op (hA2.alloc _) ?_ ?_ ?_; rfl; rfl)
      | ((with_reducible refine load_op x8 ?_ ?_ ?_); rfl; rfl)
      | ((with_reducible refine store_op (x := o') z8 ?_ ?_ ?_); rfl; rfl; rw [hW7]))
    refine bodyPost_ret (results_op rfl _ _ _ o' rfl x8) rfl ?_
    exact ⟨o', hx.out, rfl, hB⟩
  · intro ho'
    have hA2 : OpAt (W.setCell ⟨w.heap.size, 6, none⟩ (.int .i64 x)) w.heap.size o' := hA.set ho'
    have ck := hA.c6
    have hx := Lib.hid ho'
    obtain ⟨p8, W7, hp8, z8, hW7, hb7, x8⟩ := new_op (W.setCell ⟨w.heap.size, 6, none⟩ (.int .i64 x)) o'
    obtain rfl : W.heap.size = p8 := by rw [← hp8]; simp
    have hB := (hS 6).trans (hb7.mono (hS 6).size)
    clear ho' hS hb7
    go_enter Tryz.func16, Tryz.ntmps16
    go_wp2_with (first
      | (refine load_op hA2 ?_ ?_ ?_; rfl; rfl)
      | (refine load_op (hA2.alloc _) ?_ ?_ ?_; rfl; rfl)
      | ((with_reducible refine load_op x8 ?_ ?_ ?_); rfl; rfl)
      | ((with_reducible refine store_op (x := o') z8 ?_ ?_ ?_); rfl; rfl; rw [hW7]))
    refine bodyPost_ret (results_op rfl _ _ _ o' rfl x8) rfl ?_
    exact ⟨o', hx.out, rfl, hB⟩
  · intro ho'
    have hA2 : OpAt (W.setCell ⟨w.heap.size, 7, none⟩ (.int .i64 x)) w.heap.size o' := hA.set ho'
    have ck := hA.c7
    have hx := Lib.hid ho'
    obtain ⟨p8, W7, hp8, z8, hW7, hb7, x8⟩ := new_op (W.setCell ⟨w.heap.size, 7, none⟩ (.int .i64 x)) o'
    obtain rfl : W.heap.size = p8 := by rw [← hp8]; simp
    have hB := (hS 7).trans (hb7.mono (hS 7).size)
    clear ho' hS hb7
    go_enter Tryz.func16, Tryz.ntmps16
    go_wp2_with (first
      | (refine load_op hA2 ?_ ?_ ?_; rfl; rfl)
      | (refine load_op (hA2.alloc _) ?_ ?_ ?_; rfl; rfl)
      | ((with_reducible refine load_op x8 ?_ ?_ ?_); rfl; rfl)
      | ((with_reducible refine store_op (x := o') z8 ?_ ?_ ?_); rfl; rfl; rw [hW7]))
    refine bodyPost_ret (results_op rfl _ _ _ o' rfl x8) rfl ?_
    exact ⟨o', hx.out, rfl, hB⟩
  · intro ho'
    have hA2 : OpAt (W.setCell ⟨w.heap.size, 8, none⟩ (.int .i64 x)) w.heap.size o' := hA.set ho'
    have ck := hA.c8
    have hx := Lib.hid ho'
    obtain ⟨p8, W7, hp8, z8, hW7, hb7, x8⟩ := new_op (W.setCell ⟨w.heap.size, 8, none⟩ (.int .i64 x)) o'
    obtain rfl : W.heap.size = p8 := by rw [← hp8]; simp
    have hB := (hS 8).trans (hb7.mono (hS 8).size)
    clear ho' hS hb7
    go_enter Tryz.func16, Tryz.ntmps16
    go_wp2_with (first
      | (refine load_op hA2 ?_ ?_ ?_; rfl; rfl)
      | (refine load_op (hA2.alloc _) ?_ ?_ ?_; rfl; rfl)
      | ((with_reducible refine load_op x8 ?_ ?_ ?_); rfl; rfl)
      | ((with_reducible refine store_op (x := o') z8 ?_ ?_ ?_); rfl; rfl; rw [hW7]))
    refine bodyPost_ret (results_op rfl _ _ _ o' rfl x8) rfl ?_
    exact ⟨o', hx.out, rfl, hB⟩
  · intro ho'
    have hA2 : OpAt (W.setCell ⟨w.heap.size, 9, none⟩ (.int .i64 x)) w.heap.size o' := hA.set ho'
    have ck := hA.c9
    have hx := Lib.hid ho'
    obtain ⟨p8, W7, hp8, z8, hW7, hb7, x8⟩ := new_op (W.setCell ⟨w.heap.size, 9, none⟩ (.int .i64 x)) o'
    obtain rfl : W.heap.size = p8 := by rw [← hp8]; simp
    have hB := (hS 9).trans (hb7.mono (hS 9).size)
    clear ho' hS hb7
    go_enter Tryz.func16, Tryz.ntmps16
    go_wp2_with (first
      | (refine load_op hA2 ?_ ?_ ?_; rfl; rfl)
      | (refine load_op (hA2.alloc _) ?_ ?_ ?_; rfl; rfl)
      | ((with_reducible refine load_op x8 ?_ ?_ ?_); rfl; rfl)
      | ((with_reducible refine store_op (x := o') z8 ?_ ?_ ?_); rfl; rfl; rw [hW7]))
    refine bodyPost_ret (results_op rfl _ _ _ o' rfl x8) rfl ?_
    exact ⟨o', hx.out, rfl, hB⟩
  · intro ho'
    have hA2 : OpAt (W.setCell ⟨w.heap.size, 10, none⟩ (.int .i64 x)) w.heap.size o' := hA.set ho'
    have ck := hA.c10
    have hx := Lib.hid ho'
    obtain ⟨p8, W7, hp8, z8, hW7, hb7, x8⟩ := new_op (W.setCell ⟨w.heap.size, 10, none⟩ (.int .i64 x)) o'
    obtain rfl : W.heap.size = p8 := by rw [← hp8]; simp
    have hB := (hS 10).trans (hb7.mono (hS 10).size)
    clear ho' hS hb7
    go_enter Tryz.func16, Tryz.ntmps16
    go_wp2_with (first
      | (refine load_op hA2 ?_ ?_ ?_; rfl; rfl)
      | (refine load_op (hA2.alloc _) ?_ ?_ ?_; rfl; rfl)
      | ((with_reducible refine load_op x8 ?_ ?_ ?_); rfl; rfl)
      | ((with_reducible refine store_op (x := o') z8 ?_ ?_ ?_); rfl; rfl; rw [hW7]))
    refine bodyPost_ret (results_op rfl _ _ _ o' rfl x8) rfl ?_
    exact ⟨o', hx.out, rfl, hB⟩
  · intro ho'
    have hA2 : OpAt (W.setCell ⟨w.heap.size, 11, none⟩ (.int .i64 x)) w.heap.size o' := hA.set ho'
    have ck := hA.c11
    have hx := Lib.hid ho'
    obtain ⟨p8, W7, hp8, z8, hW7, hb7, x8⟩ := new_op (W.setCell ⟨w.heap.size, 11, none⟩ (.int .i64 x)) o'
    obtain rfl : W.heap.size = p8 := by rw [← hp8]; simp
    have hB := (hS 11).trans (hb7.mono (hS 11).size)
    clear ho' hS hb7
    go_enter Tryz.func16, Tryz.ntmps16
    go_wp2_with (first
      | (refine load_op hA2 ?_ ?_ ?_; rfl; rfl)
      | (refine load_op (hA2.alloc _) ?_ ?_ ?_; rfl; rfl)
      | ((with_reducible refine load_op x8 ?_ ?_ ?_); rfl; rfl)
      | ((with_reducible refine store_op (x := o') z8 ?_ ?_ ?_); rfl; rfl; rw [hW7]))
    refine bodyPost_ret (results_op rfl _ _ _ o' rfl x8) rfl ?_
    exact ⟨o', hx.out, rfl, hB⟩
  · intro ho'
    have hA2 : OpAt (W.setCell ⟨w.heap.size, 12, none⟩ (.int .i64 x)) w.heap.size o' := hA.set ho'
    have ck := hA.c12
    have hx := Lib.hid ho'
    obtain ⟨p8, W7, hp8, z8, hW7, hb7, x8⟩ := new_op (W.setCell ⟨w.heap.size, 12, none⟩ (.int .i64 x)) o'
    obtain rfl : W.heap.size = p8 := by rw [← hp8]; simp
    have hB := (hS 12).trans (hb7.mono (hS 12).size)
    clear ho' hS hb7
    go_enter Tryz.func16, Tryz.ntmps16
    go_wp2_with (first
      | (refine load_op hA2 ?_ ?_ ?_; rfl; rfl)
      | (refine load_op (hA2.alloc _) ?_ ?_ ?_; rfl; rfl)
      | ((with_reducible refine load_op x8 ?_ ?_ ?_); rfl; rfl)
      | ((with_reducible refine store_op (x := o') z8 ?_ ?_ ?_); rfl; rfl; rw [hW7]))
    refine bodyPost_ret (results_op rfl _ _ _ o' rfl x8) rfl ?_
    exact ⟨o', hx.out, rfl, hB⟩
  · intro ho'
    have hA2 : OpAt (W.setCell ⟨w.heap.size, 13, none⟩ (.int .i64 x)) w.heap.size o' := hA.set ho'
    have ck := hA.c13
    have hx := Lib.hid ho'
    obtain ⟨p8, W7, hp8, z8, hW7, hb7, x8⟩ := new_op (W.setCell ⟨w.heap.size, 13, none⟩ (.int .i64 x)) o'
    obtain rfl : W.heap.size = p8 := by rw [← hp8]; simp
    have hB := (hS 13).trans (hb7.mono (hS 13).size)
    clear ho' hS hb7
    go_enter Tryz.func16, Tryz.ntmps16
    go_wp2_with (first
      | (refine load_op hA2 ?_ ?_ ?_; rfl; rfl)
      | (refine load_op (hA2.alloc _) ?_ ?_ ?_; rfl; rfl)
      | ((with_reducible refine load_op x8 ?_ ?_ ?_); rfl; rfl)
      | ((with_reducible refine store_op (x := o') z8 ?_ ?_ ?_); rfl; rfl; rw [hW7]))
    refine bodyPost_ret (results_op rfl _ _ _ o' rfl x8) rfl ?_
    exact ⟨o', hx.out, rfl, hB⟩
  · intro ho'
    have hA2 : OpAt (W.setCell ⟨w.heap.size, 14, none⟩ (.int .i64 x)) w.heap.size o' := hA.set ho'
    have ck := hA.c14
    have hx := Lib.hid ho'
    obtain ⟨p8, W7, hp8, z8, hW7, hb7, x8⟩ := new_op (W.setCell ⟨w.heap.size, 14, none⟩ (.int .i64 x)) o'
    obtain rfl : W.heap.size = p8 := by rw [← hp8]; simp
    have hB := (hS 14).trans (hb7.mono (hS 14).size)
    clear ho' hS hb7
    go_enter Tryz.func16, Tryz.ntmps16
    go_wp2_with (first
      | (refine load_op hA2 ?_ ?_ ?_; rfl; rfl)
      | (refine load_op (hA2.alloc _) ?_ ?_ ?_; rfl; rfl)
      | ((with_reducible refine load_op x8 ?_ ?_ ?_); rfl; rfl)
      | ((with_reducible refine store_op (x := o') z8 ?_ ?_ ?_); rfl; rfl; rw [hW7]))
    refine bodyPost_ret (results_op rfl _ _ _ o' rfl x8) rfl ?_
    exact ⟨o', hx.out, rfl, hB⟩
  · intro ho'
    have hA2 : OpAt (W.setCell ⟨w.heap.size, 15, none⟩ (.int .i64 x)) w.heap.size o' := hA.set ho'
    have ck := hA.c15
    have hx := Lib.hid ho'
    obtain ⟨p8, W7, hp8, z8, hW7, hb7, x8⟩ := new_op (W.setCell ⟨w.heap.size, 15, none⟩ (.int .i64 x)) o'
    obtain rfl : W.heap.size = p8 := by rw [← hp8]; simp
    have hB := (hS 15).trans (hb7.mono (hS 15).size)
    clear ho' hS hb7
    go_enter Tryz.func16, Tryz.ntmps16
    go_wp2_with (first
      | (refine load_op hA2 ?_ ?_ ?_; rfl; rfl)
      | (refine load_op (hA2.alloc _) ?_ ?_ ?_; rfl; rfl)
      | ((with_reducible refine load_op x8 ?_ ?_ ?_); rfl; rfl)
      | ((with_reducible refine store_op (x := o') z8 ?_ ?_ ?_); rfl; rfl; rw [hW7]))
    refine bodyPost_ret (results_op rfl _ _ _ o' rfl x8) rfl ?_
    exact ⟨o', hx.out, rfl, hB⟩
  · intro ho'
    have hA2 : OpAt (W.setCell ⟨w.heap.size, 16, none⟩ (.int .i64 x)) w.heap.size o' := hA.set ho'
    have ck := hA.c16
    have hx := Lib.hid ho'
    obtain ⟨p8, W7, hp8, z8, hW7, hb7, x8⟩ := new_op (W.setCell ⟨w.heap.size, 16, none⟩ (.int .i64 x)) o'
    obtain rfl : W.heap.size = p8 := by rw [← hp8]; simp
    have hB := (hS 16).trans (hb7.mono (hS 16).size)
    clear ho' hS hb7
    go_enter Tryz.func16, Tryz.ntmps16
    go_wp2_with (first
      | (refine load_op hA2 ?_ ?_ ?_; rfl; rfl)
      | (refine load_op (hA2.alloc _) ?_ ?_ ?_; rfl; rfl)
      | ((with_reducible refine load_op x8 ?_ ?_ ?_); rfl; rfl)
      | ((with_reducible refine store_op (x := o') z8 ?_ ?_ ?_); rfl; rfl; rw [hW7]))
    refine bodyPost_ret (results_op rfl _ _ _ o' rfl x8) rfl ?_
    exact ⟨o', hx.out, rfl, hB⟩
  · intro ho'
    have hA2 : OpAt (W.setCell ⟨w.heap.size, 20, none⟩ (.int .i64 x)) w.heap.size o' := hA.set ho'
    have ck := hA.c20
    have hx := Lib.hid ho'
    obtain ⟨p8, W7, hp8, z8, hW7, hb7, x8⟩ := new_op (W.setCell ⟨w.heap.size, 20, none⟩ (.int .i64 x)) o'
    obtain rfl : W.heap.size = p8 := by rw [← hp8]; simp
    have hB := (hS 20).trans (hb7.mono (hS 20).size)
    clear ho' hS hb7
    go_enter Tryz.func16, Tryz.ntmps16
    go_wp2_with (first
      | (refine load_op hA2 ?_ ?_ ?_; rfl; rfl)
      | (refine load_op (hA2.alloc _) ?_ ?_ ?_; rfl; rfl)
      | ((with_reducible refine load_op x8 ?_ ?_ ?_); rfl; rfl)
      | ((with_reducible refine store_op (x := o') z8 ?_ ?_ ?_); rfl; rfl; rw [hW7]))
    refine bodyPost_ret (results_op rfl _ _ _ o' rfl x8) rfl ?_
    exact ⟨o', hx.out, rfl, hB⟩
  · intro ho'
    have hA2 : OpAt (W.setCell ⟨w.heap.size, 21, none⟩ (.int .i64 x)) w.heap.size o' := hA.set ho'
    have ck := hA.c21
    have hx := Lib.hid ho'
    obtain ⟨p8, W7, hp8, z8, hW7, hb7, x8⟩ := new_op (W.setCell ⟨w.heap.size, 21, none⟩ (.int .i64 x)) o'
    obtain rfl : W.heap.size = p8 := by rw [← hp8]; simp
    have hB := (hS 21).trans (hb7.mono (hS 21).size)
    clear ho' hS hb7
    go_enter Tryz.func16, Tryz.ntmps16
    go_wp2_with (first
      | (refine load_op hA2 ?_ ?_ ?_; rfl; rfl)
      | (refine load_op (hA2.alloc _) ?_ ?_ ?_; rfl; rfl)
      | ((with_reducible refine load_op x8 ?_ ?_ ?_); rfl; rfl)
      | ((with_reducible refine store_op (x := o') z8 ?_ ?_ ?_); rfl; rfl; rw [hW7]))
    refine bodyPost_ret (results_op rfl _ _ _ o' rfl x8) rfl ?_
    exact ⟨o', hx.out, rfl, hB⟩
  · intro ho'
    have hA2 : OpAt (W.setCell ⟨w.heap.size, 23, none⟩ (.int .i64 x)) w.heap.size o' := hA.set ho'
    have ck := hA.c23
    have hx := Lib.hid ho'
    obtain ⟨p8, W7, hp8, z8, hW7, hb7, x8⟩ := new_op (W.setCell ⟨w.heap.size, 23, none⟩ (.int .i64 x)) o'
    obtain rfl : W.heap.size = p8 := by rw [← hp8]; simp
    have hB := (hS 23).trans (hb7.mono (hS 23).size)
    clear ho' hS hb7
    go_enter Tryz.func16, Tryz.ntmps16
    go_wp2_with (first
      | (refine load_op hA2 ?_ ?_ ?_; rfl; rfl)
      | (refine load_op (hA2.alloc _) ?_ ?_ ?_; rfl; rfl)
      | ((with_reducible refine load_op x8 ?_ ?_ ?_); rfl; rfl)
      | ((with_reducible refine store_op (x := o') z8 ?_ ?_ ?_); rfl; rfl; rw [hW7]))
    refine bodyPost_ret (results_op rfl _ _ _ o' rfl x8) rfl ?_
    exact ⟨o', hx.out, rfl, hB⟩
  · intro ho'
    have hA2 : OpAt (W.setCell ⟨w.heap.size, 24, none⟩ (.int .i64 x)) w.heap.size o' := hA.set ho'
    have ck := hA.c24
    have hx := Lib.hid ho'
    obtain ⟨p8, W7, hp8, z8, hW7, hb7, x8⟩ := new_op (W.setCell ⟨w.heap.size, 24, none⟩ (.int .i64 x)) o'
    obtain rfl : W.heap.size = p8 := by rw [← hp8]; simp
    have hB := (hS 24).trans (hb7.mono (hS 24).size)
    clear ho' hS hb7
    go_enter Tryz.func16, Tryz.ntmps16
    go_wp2_with (first
      | (refine load_op hA2 ?_ ?_ ?_; rfl; rfl)
      | (refine load_op (hA2.alloc _) ?_ ?_ ?_; rfl; rfl)
      | ((with_reducible refine load_op x8 ?_ ?_ ?_); rfl; rfl)
      | ((with_reducible refine store_op (x := o') z8 ?_ ?_ ?_); rfl; rfl; rw [hW7]))
    refine bodyPost_ret (results_op rfl _ _ _ o' rfl x8) rfl ?_
    exact ⟨o', hx.out, rfl, hB⟩
end Go.Proofs.YthpgfnhecfgiaaaGreatDoor
