/-
  Stage 5's live question; FrameSums, FrameTakes, walked.
-/
import Derived.Test.YtmeofjoamcghhaaFrCode
import Derived.Lib.SlBytesConst
namespace Go.Proofs.Ytmeofjoamcghhaa
open Go.RowKit Go.Sort

theorem sum_digits : sumN [49, 50, 51, 52, 53, 54, 55, 56, 57] = 3808858755 := by decide +kernel

/-- A literal's block, whatever is frozen of it. -/
theorem bytes_lit (w : World) (l : List Nat) (cs : Array Value) (e : TypeId) (fr : Nat × Nat) (hcs : cs.toList = bvals l) (hl : ∀ x ∈ l, x < 256) (hm : l.length ≤ 100) : BytesAt (w.alloc (.cells cs e fr)) (.slice (some ⟨w.heap.size, 0, none⟩) l.length l.length) l := by
  refine ⟨_, _, rfl, Nat.le_refl _, by unfold maxLen; omega, hl, fun _ => ⟨w.heap.size, 0, rfl, by simp, fun i hi => ?_⟩, fun h => by cases h⟩
  have hb : (w.alloc (.cells cs e fr)).heap[w.heap.size]? = some (.cells cs e fr) := heap_alloc_new w _
  rw [cell_of_row _ w.heap.size (0 + i) cs e fr hb, Nat.zero_add, ← Array.getElem?_toList, hcs]
  simp [bvals, bval, List.getD, List.getElem?_eq_getElem hi]

theorem cSum_digits (w : World) : Calls Try.prog 11 #[.slice (some ⟨w.heap.size, 0, none⟩) 9 9] (w.alloc (.cells #[.int .u8 49, .int .u8 50, .int .u8 51, .int .u8 52, .int .u8 53, .int .u8 54, .int .u8 55, .int .u8 56, .int .u8 57] 5 (9, 10))) (Ret (.int .u32 3808858755) w) := by
  have h0 := bytes_lit w [49, 50, 51, 52, 53, 54, 55, 56, 57] #[.int .u8 49, .int .u8 50, .int .u8 51, .int .u8 52, .int .u8 53, .int .u8 54, .int .u8 55, .int .u8 56, .int .u8 57] 5 (9, 10) (by simp [bvals, bval]) (by intro x hx; simp at hx; omega) (by simp)
  have h := cSum_any _ _ _ h0
  rw [sum_digits] at h
  exact h.mono fun e w' ⟨h1, h2⟩ => ⟨h1, below_box h2⟩

set_option maxRecDepth 20000 in
set_option maxHeartbeats 1000000 in
theorem alive5_any (w : World) : Calls Try.prog 10 #[] w (Ret (.bool true) w) := by
  have kc := fun (w : World) (C : Array Value) (n c : Nat) => Lib.run_convert_bytes_const (P := Try.prog) w 22 5 C n c Try.underlying22 Try.underlying5
  go_enter Try.func10, Try.ntmps10
  go_wp2_with (go_at_call 11; refine (cSum_digits _).mono ?_; rintro e w1 ⟨rfl, hb⟩)
  go_ret
  exact ⟨rfl, hb⟩

/-- A row of the call's own with one byte behind, cut at that, and the cut undone. -/
theorem cutY_77 {w : World} {base : Nat} {v : Value} {l : List Nat} (hl : ∀ x ∈ l, x < 256) (h : Own w base v (l ++ [77])) :
    ∃ v', (∀ W, (Instr.slice 22 v none (some (.int .i64 (l.length : Int))) none).run Try.prog W = .ok v' W) ∧ BytesAt w v' l ∧ (∀ W, (Instr.slice 22 v' none (some (.int .i64 ((l.length : Int) + 1))) none).run Try.prog W = .ok v W) ∧ BytesAt w v (l ++ [77]) := by
  have hb := h.bytes (by
    intro x hx
    rcases List.mem_append.1 hx with hx | hx
    · exact hl x hx
    · simp at hx; omega)
  obtain ⟨v', h1, h2, h3⟩ := hb.row.back elemY.ht elemY.hs (k := l.length) (by simp [bvals]) (by simp [bvals])
  refine ⟨v', h1, ?_, ?_, hb⟩
  · refine RowAt.bytes ?_ hl
    rw [bvals_append, List.take_left' (bvals_length l)] at h2
    exact h2
  · have : ((bvals (l ++ [77])).length : Int) = (l.length : Int) + 1 := by simp [bvals]
    rw [this] at h3
    exact h3

theorem keepY {w w' : World} {v : Value} {l : List Nat} (h : Hid (BytesAt w v l)) (hb : Below w.heap.size w w') : Hid (BytesAt w' v l) := hide (h.out.below hb)

/-- The byte behind, in the end. -/
theorem last_77 {w : World} {v : Value} {l : List Nat} (h : BytesAt w v (l ++ [77])) :
    ∃ ad : Addr, (∀ W, (Instr.indexAt 22 v (.int .i64 (l.length : Int))).run Try.prog W = .ok (.pointer (some ad)) W) ∧ w.cell? ad = some (.int .u8 77) := by
  obtain ⟨ad, h1, h2, _⟩ := h.idx (i := l.length) (by simp)
  refine ⟨ad, h1, ?_⟩
  rw [h2]; simp [List.getD]

set_option maxRecDepth 20000 in
set_option maxHeartbeats 2000000 in
theorem frameSums_walk' (w : World) (v : Value) (l : List Nat) (hv : BytesAt w v l) :
    Calls Try.prog 3 #[v] w (Ret (.bool true) w) := by
  have hlv := fun W => hv.len (ty := 3) W
  have hby := hide hv.byte
  have hv := hide hv
  rcases Nat.lt_or_ge 5000 l.length with h | h
  · go_enter Try.func3, Try.ntmps3
    go_wp2_with (go_at_call 10; refine (alive5_any _).mono ?_; rintro e' w5 ⟨rfl, hb5⟩)
    go_ret
    exact ⟨rfl, hb5⟩
  · obtain ⟨S, hS⟩ : ∃ S, sumN l = S := ⟨_, rfl⟩
    have cS : Hid (∀ W v, BytesAt W v l → Calls Try.prog 11 #[v] W (Ret (.int .u32 (S : Nat)) W)) := hide (fun W v h => by rw [← hS]; exact cSum_any v l W h)
    have rS : Hid (∀ W v, BytesAt W v l → Calls Try.prog 13 #[v] W fun e w' => e = .returned (.int .u32 (S : Nat)) ∧ W = w') := hide (fun W v h => by rw [← hS]; exact refSum_any v l W h)
    clear hS
    go_enter Try.func3, Try.ntmps3
    go_wp2_with (first
      | (at_builtin; refine append_bytes rfl (.tmp 10) (.tmp 11) rfl w.heap.size rfl (own_made w _ rfl) rfl (hv.out.below (below_box1 _ _)) (by simp; omega) (by simp) ?_; intro v1 w1 o1 hb1; have k1 : Below w.heap.size w w1 := (below_box1 w _).trans hb1)
      | (at_builtin; refine append_bytes rfl (.tmp 12) (.tmp 13) rfl w.heap.size rfl (o1.alloc _) rfl (bytes_box w1 77 (by omega)) (by simp; omega) (by have := k1.size; simp; omega) ?_))
    intro v2 w2 o2 hb2
    have k2 : Below w.heap.size w w2 := (then_box k1 _).trans hb2
    obtain ⟨v3, hs3, b3, hs4, b2⟩ := cutY_77 hby.out o2
    have b2 := hide b2
    have b3 := hide b3
    have hv2 := keepY hv k2
    clear o1 o2 hb1 hb2 k1
    go_wp2_with (first
      | (go_at_call 11; refine (cS.out _ _ b3.out).mono ?_; rintro e' w3 ⟨rfl, hb⟩; have k3 := then_call k2 hb; have b2 := keepY b2 hb; have b3 := keepY b3 hb; have hv3 := keepY hv2 hb; clear hb)
      | (go_at_call 12; refine (same_true b3.out hv3.out).mono ?_; rintro e' w4 ⟨rfl, rfl⟩)
      | (go_at_call 10; refine (alive5_any _).mono ?_; rintro e' w5 ⟨rfl, hb⟩; have k5 := then_call k3 hb; have hv5 := keepY hv3 hb; have b2 := keepY b2 hb; clear hb; obtain ⟨ad, ha, hac⟩ := last_77 b2.out)
      | (go_at_call 13; refine (rS.out _ _ hv5.out).mono ?_; rintro e' w6 ⟨rfl, rfl⟩))
    go_ret
    exact ⟨rfl, k5⟩
end Go.Proofs.Ytmeofjoamcghhaa
