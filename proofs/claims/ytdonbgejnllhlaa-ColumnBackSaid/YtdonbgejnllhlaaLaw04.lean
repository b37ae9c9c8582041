/-
  Stage 4's live question; ColumnTakes, walked.
-/
import Derived.Test.YtdonbgejnllhlaaCoCode
namespace Go.Proofs.Ytdonbgejnllhlaa
open Go.RowKit Go.Sort

/-- A literal's block. -/
theorem row_block (w : World) (e : TypeId) (cs : Array Value) (hm : cs.size ≤ maxLen) : RowAt (w.alloc (.cells cs e)) (.slice (some ⟨w.heap.size, 0, none⟩) cs.size cs.size) cs.toList := by
  refine ⟨some ⟨w.heap.size, 0, none⟩, cs.size, by simp, by simp, hm, fun _ => ⟨w.heap.size, 0, rfl, by simp, fun i x hx => ?_⟩, fun h => by cases h⟩
  have hb : (w.alloc (.cells cs e)).heap[w.heap.size]? = some (.cells cs e (0, 0)) := heap_alloc_new w _
  rw [cell_of_row _ w.heap.size (0 + i) cs e (0, 0) hb]
  simpa using hx

theorem bytesR_557 : bytesR [5, 5, 7] = [2, 10, 1, 14] := by
  simp [bytesR, runsL, encR, zigN, putL_lt]
theorem bytesB_ttf : bytesB [true, true, false] = [0, 2, 1] := by
  simp [bytesB, cntB, incB, encB, putL_lt]

theorem cRuns_557 (w : World) : Calls Try.prog 11 #[.slice (some ⟨w.heap.size, 0, none⟩) 3 3] (w.alloc (.cells #[.int .i64 5, .int .i64 5, .int .i64 7] 3)) fun e w' => ∃ g c : Nat, e = .returned (.slice (some ⟨g, 0, none⟩) 4 c) ∧ (4 : Int) ≤ c ∧ Below w.heap.size w w' ∧
    w'.cell? ⟨g, 0, none⟩ = some (.int .u8 2) ∧ w'.cell? ⟨g, 0 + 1, none⟩ = some (.int .u8 10) ∧ w'.cell? ⟨g, 0 + 3, none⟩ = some (.int .u8 14) ∧ g < w'.heap.size := by
  have h := cRuns_any _ [5, 5, 7] _ (row_block w 3 #[.int .i64 5, .int .i64 5, .int .i64 7] (by decide)) (by intro x hx; simp at hx; unfold InR; omega) (by simp)
  rw [bytesR_557] at h
  refine h.mono ?_
  rintro e w' ⟨v, rfl, ho, hb⟩
  obtain ⟨g, c, rfl, h2, _, _, hlt, hc⟩ := own_at ho (by simp)
  exact ⟨g, c, rfl, by simp at h2; omega, below_box hb, by simpa using hc 0 (by simp), by simpa using hc 1 (by simp), by simpa using hc 3 (by simp), hlt⟩

theorem cBools_ttf (w : World) : Calls Try.prog 15 #[.slice (some ⟨w.heap.size, 0, none⟩) 3 3] (w.alloc (.cells #[.bool true, .bool true, .bool false] 4)) fun e w' => ∃ g c : Nat, e = .returned (.slice (some ⟨g, 0, none⟩) 3 c) ∧ (3 : Int) ≤ c ∧ Below w.heap.size w w' ∧
    w'.cell? ⟨g, 0 + 1, none⟩ = some (.int .u8 2) := by
  have h := cBools_any _ [true, true, false] _ (row_block w 4 #[.bool true, .bool true, .bool false] (by decide)) (by simp)
  rw [bytesB_ttf] at h
  refine h.mono ?_
  rintro e w' ⟨v, rfl, ho, hb⟩
  obtain ⟨g, c, rfl, h2, _, _, _, hc⟩ := own_at ho (by simp)
  exact ⟨g, c, rfl, by simp at h2; omega, below_box hb, by simpa using hc 1 (by simp)⟩

set_option maxHeartbeats 1000000 in
theorem alive4_any (w : World) : Calls Try.prog 9 #[] w (Ret (.bool true) w) := by
  go_enter Try.func9, Try.ntmps9
  go_wp2_with (first
    | (go_at_call 11; refine (cRuns_557 _).mono ?_; rintro e w1 ⟨g, c, rfl, hcp, hb, hc0, hc1, hc3, hg⟩)
    | (go_at_call 15; refine (cBools_ttf _).mono ?_; rintro e w2 ⟨g2, c2, rfl, hcp2, hb2, hd1⟩; have hc0 := (hb2.cell (p := ⟨g, 0, none⟩) hg).trans hc0; have hc1 := (hb2.cell (p := ⟨g, 0 + 1, none⟩) hg).trans hc1; have hc3 := (hb2.cell (p := ⟨g, 0 + 3, none⟩) hg).trans hc3))
  go_ret
  exact ⟨rfl, then_call hb hb2⟩
end Go.Proofs.Ytdonbgejnllhlaa
