/-
  The document's own bytes of operations: a field, a text, a column's form.
-/
import Derived.Test.YthpgfnhecfgiaaaGreatDoorBaSame
import Derived.Test.YthpgfnhecfgiaaaGreatDoorOpRefRight
import Derived.Test.YthpgfnhecfgiaaaGreatDoorMCo
namespace Go.Proofs.YthpgfnhecfgiaaaGreatDoor
open Go.RowKit Go.Sort
set_option maxRecDepth 20000

set_option maxHeartbeats 8000000 in
theorem refField_any (o : OpV) {c : Nat} (hc : c < 21) (w : World) : Calls Tryz.prog 67 #[.agg (OpC o), .int .i64 (c : Int)] w (Ret (.int .i64 (fld o c)) w) := by
  obtain ⟨W, hW, hb, hA⟩ := op_box w o
  have c0 := hA.c0
  have c1 := hA.c1
  have c2 := hA.c2
  have c3 := hA.c3
  have c4 := hA.c4
  have c5 := hA.c5
  have c6 := hA.c6
  have c7 := hA.c7
  have c8 := hA.c8
  have c9 := hA.c9
  have c10 := hA.c10
  have c11 := hA.c11
  have c12 := hA.c12
  have c13 := hA.c13
  have c14 := hA.c14
  have c15 := hA.c15
  have c16 := hA.c16
  have c20 := hA.c20
  have c21 := hA.c21
  have c23 := hA.c23
  have c24 := hA.c24
  clear hA
  refine below21 (p := fun c => Calls Tryz.prog 67 #[.agg (OpC o), .int .i64 (c : Int)] w (Ret (.int .i64 (fld o c)) w)) ⟨?_, ?_, ?_, ?_, ?_, ?_, ?_, ?_, ?_, ?_, ?_, ?_, ?_, ?_, ?_, ?_, ?_, ?_, ?_, ?_, ?_⟩ hc
  all_goals
    go_enter Tryz.func67, Tryz.ntmps67
    go_wp2
    go_ret
    exact ⟨rfl, hb⟩

set_option maxHeartbeats 2000000 in
theorem refText_any (o : OpV) {c : Nat} (hc : c < 3) (w : World) : Calls Tryz.prog 69 #[.agg (OpC o), .int .i64 (c : Int)] w (Ret (.string (txt o c)) w) := by
  obtain ⟨W, hW, hb, hA⟩ := op_box w o
  have c17 := hA.c17
  have c18 := hA.c18
  have c19 := hA.c19
  clear hA
  rcases (by omega : c = 0 ∨ c = 1 ∨ c = 2) with rfl | rfl | rfl
  all_goals
    go_enter Tryz.func69, Tryz.ntmps69
    go_wp2
    go_ret
    exact ⟨rfl, hb⟩

set_option maxHeartbeats 8000000 in
theorem refForm_any {c : Nat} (hc : c < 21) (w : World) : Calls Tryz.prog 14 #[.int .i64 (c : Int)] w fun e w' => e = .returned (.bool (formN c == 1)) ∧ w' = w := by
  refine below21 (p := fun c => Calls Tryz.prog 14 #[.int .i64 (c : Int)] w fun e w' => e = .returned (.bool (formN c == 1)) ∧ w' = w) ⟨?_, ?_, ?_, ?_, ?_, ?_, ?_, ?_, ?_, ?_, ?_, ?_, ?_, ?_, ?_, ?_, ?_, ?_, ?_, ?_, ?_⟩ hc
  all_goals
    go_enter Tryz.func14, Tryz.ntmps14
    go_wp2
    go_ret
    exact ⟨rfl, rfl⟩
end Go.Proofs.YthpgfnhecfgiaaaGreatDoor
