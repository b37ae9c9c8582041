/-
  ColumnPuts, walked.
-/
import Derived.Test.YtdonbgejnllhlaaLaw04a
namespace Go.Proofs.Ytdonbgejnllhlaa
open Go.RowKit Go.Sort

set_option maxRecDepth 20000 in
set_option maxHeartbeats 1000000 in
theorem columnPuts_long (w : World) (v u : Value) (l : List Int) (t : List Bool) (hv : IntsAt w v l) (hu : TruthsAt w u t) (h : 2000 < l.length ∨ (l.length ≤ 2000 ∧ 2000 < t.length)) :
    Calls Try.prog 3 #[v, u] w (Ret (.bool true) w) := by
  have hlv := fun W => hv.len (ty := 3) W
  have hlu := fun W => hu.len (ty := 3) W
  clear hv hu
  rcases h with h | ⟨h, h2⟩
  all_goals
    go_enter Try.func3, Try.ntmps3
    go_wp2_with (go_at_call 9; refine (alive4_any _).mono ?_; rintro e' w5 ⟨rfl, hb5⟩)
    go_ret
    exact ⟨rfl, hb5⟩

/-- A row of the call's own with one element behind, cut at that, and the cut undone. -/
theorem cut_77 {w : World} {base : Nat} {v : Value} {l : List Int} (h : OwnRow w base 3 v (ints l ++ [.int .i64 77])) :
    ∃ v', (∀ W, (Instr.slice 22 v none (some (.int .i64 (l.length : Int))) none).run Try.prog W = .ok v' W) ∧ IntsAt w v' l ∧ (∀ W, (Instr.slice 22 v' none (some (.int .i64 ((l.length : Int) + 1))) none).run Try.prog W = .ok v W) ∧ RowAt w v (ints l ++ [.int .i64 77]) := by
  obtain ⟨v', h1, h2, h3⟩ := h.row.back elemI.ht elemI.hs (k := l.length) (by simp [ints]) (by simp)
  refine ⟨v', h1, ?_, ?_, h.row⟩
  · rw [List.take_left' (ints_len l)] at h2
    exact h2
  · have : ((ints l ++ [Value.int .i64 77]).length : Int) = (l.length : Int) + 1 := by simp [ints]
    rw [this] at h3
    exact h3

set_option maxRecDepth 20000 in
set_option maxHeartbeats 2000000 in
theorem columnPuts_walk' (w : World) (v u : Value) (l : List Int) (t : List Bool) (hv : IntsAt w v l) (hu : TruthsAt w u t) (hr : ∀ x ∈ l, InR x) (hl : l.length ≤ 2000) (ht : t.length ≤ 2000) :
    Calls Try.prog 3 #[v, u] w (Ret (.bool true) w) := by
  have hlv := fun W => hv.len (ty := 3) W
  have hlu := fun W => hu.len (ty := 3) W
  have hv := hide (show RowAt w v (ints l) from hv)
  have hu := hide (show RowAt w u (truths t) from hu)
  have hr := hide hr
  have hl65 : l.length ≤ 65536 := by omega
  have ht65 : t.length ≤ 65536 := by omega
  have hil : (ints l).length ≤ 2000 := by rw [ints_len]; exact hl
  go_enter Try.func3, Try.ntmps3
  go_wp2_with (first
    | (at_builtin; refine append_row elemI rfl (.tmp 19) (.tmp 20) rfl w.heap.size rfl (own_made' w _) rfl (hv.out.below (below_box1 _ _)) (ints_one l) (by simp; omega) (by simp) ?_; intro v1 w1 ho1 hb1; have k1 : Below w.heap.size w w1 := (below_box1 w _).trans hb1)
    | (at_builtin; refine append_row elemI rfl (.tmp 21) (.tmp 22) rfl w.heap.size rfl (ho1.alloc _) rfl (row_box _ _ _) (by intro u hu; simp at hu; subst hu; rfl) (by simp; omega) (by have := k1.size; simp; omega) ?_))
  intro v2 w2 ho2 hb2
  have k2 : Below w.heap.size w w2 := (then_box k1 _).trans hb2
  obtain ⟨v3, hs3, hr3, hs4, hr2⟩ := cut_77 ho2
  have hv := keepR hv k2
  have hu := keepR hu k2
  have r2 := hide hr2
  have r3 := hide (show RowAt w2 v3 (ints l) from hr3)
  clear hr2 hr3 ho1 ho2 hb1 hb2 k1
  go_wp2_with (first
    | (go_at_call 11; refine (cRuns_any _ l _ r3.out hr.out hl65).mono ?_; rintro e' w3 ⟨a1, rfl, ho, hb⟩; have k3 := then_call k2 hb; have hv := keepR hv hb; have hu := keepR hu hb; have r2 := keepR r2 hb; have r3 := keepR r3 hb; have b1 := hide (ho.bytes (bytesR_byte l)); clear ho hb)
    | (go_at_call 12; refine (refRuns_any _ l _ hv.out hr.out hl65).mono ?_; rintro e' w4 ⟨a2, rfl, ho, hb⟩; have k4 := then_call k3 hb; have hv := keepR hv hb; have hu := keepR hu hb; have r2 := keepR r2 hb; have r3 := keepR r3 hb; have b1 := keepB b1 hb; have b2 := hide (ho.bytes (bytesR_byte l)); clear ho hb)
    | (go_at_call 13; refine (cDeltas_any _ l _ r3.out hr.out hl65).mono ?_; rintro e' w5 ⟨a3, rfl, ho, hb⟩; have k5 := then_call k4 hb; have hv := keepR hv hb; have hu := keepR hu hb; have r2 := keepR r2 hb; have r3 := keepR r3 hb; have b3 := hide (ho.bytes (bytesR_byte _)); clear ho hb)
    | (go_at_call 14; refine (refDeltas_any _ l _ hv.out hr.out hl65).mono ?_; rintro e' w6 ⟨a4, rfl, ho, hb⟩; have k6 := then_call k5 hb; have hv := keepR hv hb; have hu := keepR hu hb; have r2 := keepR r2 hb; have r3 := keepR r3 hb; have b3 := keepB b3 hb; have b4 := hide (ho.bytes (bytesR_byte _)); clear ho hb)
    | (go_at_call 15; refine (cBools_any _ t _ hu.out ht65).mono ?_; rintro e' w7 ⟨a5, rfl, ho, hb⟩; have k7 := then_call k6 hb; have hv := keepR hv hb; have hu := keepR hu hb; have r2 := keepR r2 hb; have r3 := keepR r3 hb; have b5 := hide (ho.bytes (bytesB_byte t)); clear ho hb)
    | (go_at_call 16; refine (refBools_any _ t _ hu.out ht65).mono ?_; rintro e' w8 ⟨a6, rfl, ho, hb⟩; have k8 := then_call k7 hb; have hv := keepR hv hb; have r2 := keepR r2 hb; have r3 := keepR r3 hb; have b5 := keepB b5 hb; have b6 := hide (ho.bytes (bytesB_byte t)); clear ho hb)
    | (go_at_call 10; (first
        | ((with_reducible refine (same_true (v := a1) (u := a2) b1.out b2.out).mono ?_); rintro e' w9 ⟨rfl, rfl⟩)
        | ((with_reducible refine (same_true (v := a3) (u := a4) b3.out b4.out).mono ?_); rintro e' w9 ⟨rfl, rfl⟩)
        | ((with_reducible refine (same_true (v := a5) (u := a6) b5.out b6.out).mono ?_); rintro e' w9 ⟨rfl, rfl⟩)))
    | (go_at_call 17; refine (sameI_true r3.out hv.out).mono ?_; rintro e' w9 ⟨rfl, hb⟩; have k9 := then_call k8 hb; have r2 := keepR r2 hb; clear hb)
    | (go_at_call 9; refine (alive4_any _).mono ?_; rintro e' w10 ⟨rfl, hb10⟩; obtain ⟨ad, ha, hac0, _⟩ := (r2.out.below hb10).index elemI.ht elemI.hs (k := l.length) (by simp [ints]); have hac : w10.cell? ad = some (.int .i64 77) := (by rw [hac0]; simp [ints]); clear hac0))
  go_ret
  exact ⟨rfl, then_call k9 hb10⟩

theorem columnPuts_walk (w : World) (v u : Value) (l : List Int) (t : List Bool) (hv : IntsAt w v l) (hr : ∀ x ∈ l, InR x) (hu : TruthsAt w u t) :
    Calls Try.prog 3 #[v, u] w (Ret (.bool true) w) := by
  by_cases h1 : l.length ≤ 2000
  · by_cases h2 : t.length ≤ 2000
    · exact columnPuts_walk' w v u l t hv hu hr h1 h2
    · exact columnPuts_long w v u l t hv hu (.inr ⟨h1, by omega⟩)
  · exact columnPuts_long w v u l t hv hu (.inl (by omega))
end Go.Proofs.Ytdonbgejnllhlaa
