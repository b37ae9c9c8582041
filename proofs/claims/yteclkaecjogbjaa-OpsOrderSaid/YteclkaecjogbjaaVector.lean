/-
  What each function of package vector does.
-/
import Derived.Test.YteclkaecjogbjaaVec
namespace Go.Proofs.Yteclkaecjogbjaa
open Go.RowKit Go.Sort

def replB (r : Int) : Bool := decide (0 ≤ r ∧ r < 8)
theorem replB_lo {r : Int} (h : r < 0) : replB r = false := by simp only [replB]; exact decide_eq_false (by omega)
theorem replB_hi {r : Int} (h : 8 ≤ r) : replB r = false := by simp only [replB]; exact decide_eq_false (by omega)
theorem replB_in {r : Int} (h : 0 ≤ r) (h' : r < 8) : replB r = true := by simp only [replB]; exact decide_eq_true (by omega)

set_option maxHeartbeats 400000 in
theorem counts_any (r : Int) (w : World) :
    Calls Try.prog 39 #[.int .i64 r] w fun e w' => e = .returned (.bool (replB r)) ∧ w = w' := by
  have H : (r < 0 ∧ Hid (replB r = false)) ∨ (0 ≤ r ∧ decide (r < 8) = false ∧ Hid (replB r = false)) ∨ (0 ≤ r ∧ decide (r < 8) = true ∧ Hid (replB r = true)) := by
    by_cases h1 : r < 0
    · exact .inl ⟨h1, replB_lo h1⟩
    · by_cases h2 : r < 8
      · exact .inr (.inr ⟨by omega, decide_eq_true h2, replB_in (by omega) h2⟩)
      · exact .inr (.inl ⟨by omega, decide_eq_false h2, replB_hi (by omega)⟩)
  rcases H with ⟨h1, H⟩ | ⟨h1, h2, H⟩ | ⟨h1, h2, H⟩
  all_goals
    go_enter Try.func39, Try.ntmps39
    go_wp2
    go_ret
    exact ⟨ret_bool H.out.symm, rfl⟩

def hasB (f : Nat → Int) (n r : Int) : Bool := replB r && decide (n ≤ f r.toNat)

/-- A vector and a stamp, handed in by value: the world behind their boxes. -/
theorem vs_boxes (w : World) (f : Nat → Int) (n r : Int) : ∃ W, (w.alloc (.cells (V f) 25)).alloc (.cells #[.int .i64 n, .int .i64 r] 23) = W ∧ Below w.heap.size w W ∧ W.heap.size = w.heap.size + 2 ∧ W.heap[w.heap.size]? = some (.cells (V f) 25) ∧ (∀ k, k < 8 → W.cell? ⟨w.heap.size, k, none⟩ = some (.int .i64 (f k))) ∧ W.cell? ⟨w.heap.size + 1, 0, none⟩ = some (.int .i64 n) ∧ W.cell? ⟨w.heap.size + 1, 1, none⟩ = some (.int .i64 r) := by
  refine ⟨_, rfl, below_alloc2 _ _ _, by simp, heap_alloc2_old _ _ _, fun k hk => ?_, by go_simp, by go_simp⟩
  rw [cell_of_row _ _ _ _ _ _ (heap_alloc2_old _ _ _), V_get f k hk]

theorem hasB_out {f : Nat → Int} {n r : Int} (h : replB r = false) : hasB f n r = false := by unfold hasB; rw [h]; rfl
theorem hasB_in {f : Nat → Int} {n : Int} {k : Nat} (h : replB (k : Int) = true) : hasB f n k = decide (n ≤ f k) := by unfold hasB; rw [h, Int.toNat_natCast]; rfl
theorem replB_true {r : Int} (h : replB r = true) : ∃ k : Nat, k < 8 ∧ r = k := by
  have h2 : 0 ≤ r ∧ r < 8 := by simpa [replB] using h
  exact ⟨r.toNat, by omega, by omega⟩

set_option maxHeartbeats 400000 in
theorem has_any (f : Nat → Int) (n r : Int) (w : World) :
    Calls Try.prog 14 #[.agg (V f), .agg #[.int .i64 n, .int .i64 r]] w (Ret (.bool (hasB f n r)) w) := by
  cases h : replB r with
  | true =>
    obtain ⟨k, hk, rfl⟩ := replB_true h
    have Hv := Lib.hid (hasB_in (f := f) (n := n) h)
    go_enter Try.func14, Try.ntmps14
    go_wp2
    obtain ⟨W, hW, hb, -, -, hc, c0, c1⟩ := vs_boxes w f n k
    rw [hW]
    clear hW
    replace hc := hc k hk
    have hk0 : (0 : Int) ≤ (k : Int) := by omega
    have hk8 : (k : Int) < 8 := by omega
    go_quiet ((go_at_call 39; exact Calls.quiet_of_same (Calls.turn (counts_any _ _))))
    go_wp2
    go_ret
    exact ⟨by rw [Hv.out]; rfl, hb.trans (below_drewN (Below.refl _ _) _)⟩
  | false =>
    have Hv := Lib.hid (hasB_out (f := f) (n := n) h)
    go_enter Try.func14, Try.ntmps14
    go_wp2
    obtain ⟨W, hW, hb, -, -, hc, c0, c1⟩ := vs_boxes w f n r
    rw [hW]
    clear hW hc
    go_quiet ((go_at_call 39; exact Calls.quiet_of_same (Calls.turn (counts_any _ _))))
    go_wp2
    go_ret
    exact ⟨by rw [Hv.out]; rfl, hb.trans (below_drewN (Below.refl _ _) _)⟩

end Go.Proofs.Yteclkaecjogbjaa
