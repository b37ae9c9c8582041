/-
  Bytes as operations: the program's Decode, whole.
-/
import Derived.Test.YthpgfnhecfgiaaaGreatDoorBaDec
namespace Go.Proofs.YthpgfnhecfgiaaaGreatDoor
open Go.RowKit Go.Sort
set_option maxRecDepth 20000

/-- What Decode hands back. -/
def DecPost (b : List Nat) (w : World) : Ending → World → Prop := fun e w' => Below w.heap.size w w' ∧
  ((∃ l v, IsBatch b l ∧ e = .returned (.tuple #[v, .int .i64 0]) ∧ OpsAt w' v l) ∨ ((∀ l, ¬ IsBatch b l) ∧ e = .returned (.tuple #[.slice none 0 0, .int .i64 81])))

set_option maxHeartbeats 4000000 in
theorem decode_any (bv : Value) (b : List Nat) (w : World) (hbv : BytesAt w bv b) (hE : ErrT w) : Calls Tryz.prog 5 #[bv] w (DecPost b w) := by
  have hbv := Lib.hid hbv
  have hE := Lib.hid hE
  go_enter Tryz.func5, Tryz.ntmps5
  go_wp2_with fail
  refine (take_batch bv b w hbv.out).mono ?_
  rintro e w1 ⟨hb1, h⟩
  have hE1 := hE.out.below hb1
  have hE2 := Lib.hid (hE1.below (below_box1 w1 (.cells #[.int .i64 0] 49)))
  rcases h with ⟨l, v, hl, rfl, ho⟩ | ⟨hno, k, rfl⟩
  · go_wp2_with (go_at_call 11; refine (as_nil _ _).mono ?_; rintro e w2 ⟨rfl, rfl⟩)
    refine bodyPost_ret (results_tmp2 rfl _ _ _) rfl ⟨then_box hb1 _, .inl ⟨l, v, hl, rfl, ho.below (below_box1 _ _)⟩⟩
  · have h0 := Go.heap_alloc_new w1 (.cells #[.int .i64 0] 49)
    go_wp2_with (go_at_call 11; refine (as_hit (tb := w1.heap.size) hE2.out h0).mono ?_; rintro e w2 ⟨rfl, hT⟩)
    refine bodyPost_ret (results_tmp2 rfl _ _ _) rfl ⟨(then_box hb1 _).trans (hT.below (by have := hb1.size; simp; omega) (fun x hx => by have := hb1.size; simp at hx; omega)), .inr ⟨hno, rfl⟩⟩
end Go.Proofs.YthpgfnhecfgiaaaGreatDoor
