/-
  VectorHolds: it hands back true and leaves all that was there as it was.
-/
import Derived.Test.YtmihcfjlhljmoaaLaw02b
namespace Go.Proofs.Ytmihcfjlhljmoaa
open Go.RowKit Go.Sort

theorem wpList_load_vec' {ops : Array Oper} {rest : List Oper} {d : Option Tmp} {t : Tmp} {ty : TypeId} {ps : String} {af : Array Edge} {gd : Option (Nat × Bool)} {a : Act} {w : World} {Q : Exit → Act → World → Prop} {b : Nat} {f : Nat → Int}
    (hw : Region.wanted { dst := d, op := .load 23 (.tmp t), type := ty, pos := ps, after := af, guard := gd } (yielded ops a.tmps) = true)
    (hx : a.eval (.tmp t) = .pointer (some ⟨b, 0, none⟩)) (hv : VAt w b f)
    (h : wpList Try.prog ops Q rest (a.put d (.agg (V f))) w) : wpList Try.prog ops Q ({ dst := d, op := .load 23 (.tmp t), type := ty, pos := ps, after := af, guard := gd } :: rest) a w :=
  wpList_load_vec _ hw rfl hx hv h
theorem wpList_store_vec' {ops : Array Oper} {rest : List Oper} {d : Option Tmp} {t u : Tmp} {ty : TypeId} {ps : String} {af : Array Edge} {a : Act} {w : World} {Q : Exit → Act → World → Prop} {f : Nat → Int} 
    (hx : a.eval (.tmp t) = .pointer (some ⟨w.heap.size, 0, none⟩)) (hy : a.eval (.tmp u) = .agg (V f))
    (h : wpList Try.prog ops Q rest (a.put d undef) (w.alloc (.cells (V f) 23))) : wpList Try.prog ops Q ({ dst := d, op := .store 23 (.tmp t) (.tmp u), type := ty, pos := ps, after := af, guard := none } :: rest) a (w.alloc (.cells #[.int .i64 0, .int .i64 0, .int .i64 0, .int .i64 0, .int .i64 0, .int .i64 0, .int .i64 0, .int .i64 0] 23)) :=
  wpList_store_vec _ _ rfl rfl hx hy h

theorem vsv_boxes (w : World) (f : Nat → Int) (n r : Int) (h : Nat → Int) : ∃ W, ((w.alloc (.cells (V f) 23)).alloc (.cells #[.int .i64 n, .int .i64 r] 25)).alloc (.cells (V h) 23) = W ∧ Below w.heap.size w W ∧ VAt W w.heap.size f ∧ VAt W (w.heap.size + 1 + 1) h ∧ W.cell? ⟨w.heap.size + 1, 0, none⟩ = some (.int .i64 n) ∧ W.cell? ⟨w.heap.size + 1, 1, none⟩ = some (.int .i64 r) := by
  obtain ⟨W, hW, hb, hs, hA, -, c0, c1⟩ := vs_boxes w f n r
  rw [hW]
  have e : W.heap.size = w.heap.size + 1 + 1 := by omega
  refine ⟨_, rfl, hb.alloc hb.size _, VAt.alloc hA _, ?_, cell_later (below_box1 W _) c0, cell_later (below_box1 W _) c1⟩
  have := VAt.new W h
  rwa [e] at this

theorem cov_with (f : Nat → Int) (n r : Int) : covB (withF f n r) f = true := by
  rw [covB_iff]
  intro i _
  unfold withF
  split
  · unfold upd
    split
    · subst_vars; omega
    · omega
  · omega
theorem has_with {f : Nat → Int} {n r : Int} (h : replB r = true) : hasB (withF f n r) n r = true := by
  unfold hasB withF upd
  rw [h, if_pos rfl, if_pos rfl, Bool.true_and]
  exact decide_eq_true (by omega)
theorem with_out {f : Nat → Int} {n r : Int} (h : replB r = false) : eqV (withF f n r) f = true := by
  unfold withF; rw [h]; exact eqV_self f
theorem with_had {f : Nat → Int} {n r : Int} (h : hasB f n r = true) : eqV (withF f n r) f = true := by
  rw [eqV_iff]
  intro i _
  unfold hasB at h
  rw [Bool.and_eq_true, decide_eq_true_eq] at h
  unfold withF upd
  rw [if_pos h.1]
  split
  · subst_vars; omega
  · rfl
theorem above_with {f h : Nat → Int} {n r : Int} (h1 : covB h f = true) (h2 : hasB h n r = true) : covB h (withF f n r) = true := by
  rw [covB_iff] at *
  intro i hi
  have := h1 i hi
  unfold hasB at h2
  rw [Bool.and_eq_true, decide_eq_true_eq] at h2
  unfold withF upd
  rw [if_pos h2.1]
  split
  · subst_vars; omega
  · omega

theorem holds_ways (f : Nat → Int) (n r : Int) (h : Nat → Int) :
    (covB h f = false) ∨ (covB h f = true ∧ hasB h n r = false) ∨ (covB h f = true ∧ hasB h n r = true ∧ covB h (withF f n r) = true) := by
  cases hx : covB h f
  · exact .inl rfl
  · cases hy : hasB h n r
    · exact .inr (.inl ⟨rfl, rfl⟩)
    · exact .inr (.inr ⟨rfl, rfl, above_with hx hy⟩)
theorem had_ways (f : Nat → Int) (n r : Int) : (hasB f n r = false) ∨ (hasB f n r = true ∧ eqV (withF f n r) f = true) := by
  cases hy : hasB f n r
  · exact .inl rfl
  · exact .inr ⟨rfl, with_had hy⟩

set_option maxHeartbeats 2000000 in
theorem vectorHolds_in1 (f : Nat → Int) (n r : Int) (h : Nat → Int) (r0 : 0 ≤ r) (r8 : decide (r < 8) = true) (g1 : hasB f n r = false) (w : World) :
    Calls Try.prog 7 #[.agg (V f), .agg #[.int .i64 n, .int .i64 r], .agg (V h)] w (Ret (.bool true) w) := by
  obtain ⟨W, hW, hb, hA, hC, c0, c1⟩ := vsv_boxes w f n r h
  have heq := fun (x y : Nat → Int) (w : World) => run_eqVec x y w
  have f1 := cov_with f n r
  have f2 : hasB (withF f n r) n r = true := has_with (replB_in r0 (of_decide_eq_true r8))
  rcases holds_ways f n r h with h1 | ⟨h1, h2⟩ | ⟨h1, h2, h3⟩
  all_goals
    go_enter Try.func7, Try.ntmps7
    go_wp2_with ((with_reducible apply wpList_load_vec'); rfl; rfl; (with_reducible first | exact hA | exact hC))
    refine (with_any _ _ _ _).mono ?_
    rintro e w1 ⟨rfl, hb1⟩
    replace hA := (hA.after hb1).alloc (.cells (V (withF f n r)) 23)
    replace hC := (hC.after hb1).alloc (.cells (V (withF f n r)) 23)
    replace c0 := cell_later (below_box1 w1 (.cells (V (withF f n r)) 23)) (cell_later hb1 c0)
    replace c1 := cell_later (below_box1 w1 (.cells (V (withF f n r)) 23)) (cell_later hb1 c1)
    replace hb := then_box (then_call hb hb1) (.cells (V (withF f n r)) 23)
    have hJ := VAt.new w1 (withF f n r)
    clear hW hb1
    go_wp2_with (first
      | ((with_reducible apply wpList_store_vec'); rfl; rfl)
      | ((with_reducible apply wpList_load_vec'); rfl; rfl; (with_reducible first | exact hA | exact hC | exact hJ))
      | (go_at_call 16; (with_reducible refine (covers_any _ _ _).mono ?_); rintro e w' ⟨rfl, hb'⟩; replace hA := hA.after hb'; replace hC := hC.after hb'; replace hJ := hJ.after hb'; replace c0 := cell_later hb' c0; replace c1 := cell_later hb' c1; replace hb := then_call hb hb'; clear hb')
      | (go_at_call 9; (with_reducible refine (has_any _ _ _ _).mono ?_); rintro e w' ⟨rfl, hb'⟩; replace hA := hA.after hb'; replace hC := hC.after hb'; replace hJ := hJ.after hb'; replace c0 := cell_later hb' c0; replace c1 := cell_later hb' c1; replace hb := then_call hb hb'; clear hb'))
    go_ret
    exact ⟨rfl, hb⟩

set_option maxHeartbeats 2000000 in
theorem vectorHolds_in2 (f : Nat → Int) (n r : Int) (h : Nat → Int) (r0 : 0 ≤ r) (r8 : decide (r < 8) = true) (g1 : hasB f n r = true) (g2 : eqV (withF f n r) f = true) (w : World) :
    Calls Try.prog 7 #[.agg (V f), .agg #[.int .i64 n, .int .i64 r], .agg (V h)] w (Ret (.bool true) w) := by
  obtain ⟨W, hW, hb, hA, hC, c0, c1⟩ := vsv_boxes w f n r h
  have heq := fun (x y : Nat → Int) (w : World) => run_eqVec x y w
  have f1 := cov_with f n r
  have f2 : hasB (withF f n r) n r = true := has_with (replB_in r0 (of_decide_eq_true r8))
  rcases holds_ways f n r h with h1 | ⟨h1, h2⟩ | ⟨h1, h2, h3⟩
  all_goals
    go_enter Try.func7, Try.ntmps7
    go_wp2_with ((with_reducible apply wpList_load_vec'); rfl; rfl; (with_reducible first | exact hA | exact hC))
    refine (with_any _ _ _ _).mono ?_
    rintro e w1 ⟨rfl, hb1⟩
    replace hA := (hA.after hb1).alloc (.cells (V (withF f n r)) 23)
    replace hC := (hC.after hb1).alloc (.cells (V (withF f n r)) 23)
    replace c0 := cell_later (below_box1 w1 (.cells (V (withF f n r)) 23)) (cell_later hb1 c0)
    replace c1 := cell_later (below_box1 w1 (.cells (V (withF f n r)) 23)) (cell_later hb1 c1)
    replace hb := then_box (then_call hb hb1) (.cells (V (withF f n r)) 23)
    have hJ := VAt.new w1 (withF f n r)
    clear hW hb1
    go_wp2_with (first
      | ((with_reducible apply wpList_store_vec'); rfl; rfl)
      | ((with_reducible apply wpList_load_vec'); rfl; rfl; (with_reducible first | exact hA | exact hC | exact hJ))
      | (go_at_call 16; (with_reducible refine (covers_any _ _ _).mono ?_); rintro e w' ⟨rfl, hb'⟩; replace hA := hA.after hb'; replace hC := hC.after hb'; replace hJ := hJ.after hb'; replace c0 := cell_later hb' c0; replace c1 := cell_later hb' c1; replace hb := then_call hb hb'; clear hb')
      | (go_at_call 9; (with_reducible refine (has_any _ _ _ _).mono ?_); rintro e w' ⟨rfl, hb'⟩; replace hA := hA.after hb'; replace hC := hC.after hb'; replace hJ := hJ.after hb'; replace c0 := cell_later hb' c0; replace c1 := cell_later hb' c1; replace hb := then_call hb hb'; clear hb'))
    go_ret
    exact ⟨rfl, hb⟩

set_option maxHeartbeats 2000000 in
theorem vectorHolds_lo (f : Nat → Int) (n r : Int) (h : Nat → Int) (r0 : r < 0) (hr : replB r = false) (w : World) :
    Calls Try.prog 7 #[.agg (V f), .agg #[.int .i64 n, .int .i64 r], .agg (V h)] w (Ret (.bool true) w) := by
  obtain ⟨W, hW, hb, hA, hC, c0, c1⟩ := vsv_boxes w f n r h
  have heq := fun (x y : Nat → Int) (w : World) => run_eqVec x y w
  have f1 := cov_with f n r
  have f2 : hasB (withF f n r) n r = false := hasB_out hr
  have f3 : eqV (withF f n r) f = true := with_out hr
  have g1 : hasB f n r = false := hasB_out hr
  have hh : hasB h n r = false := hasB_out hr
  clear hr
  rcases (show covB h f = false ∨ covB h f = true from by cases covB h f <;> simp) with h1 | h1
  all_goals
    go_enter Try.func7, Try.ntmps7
    go_wp2_with ((with_reducible apply wpList_load_vec'); rfl; rfl; (with_reducible first | exact hA | exact hC))
    refine (with_any _ _ _ _).mono ?_
    rintro e w1 ⟨rfl, hb1⟩
    replace hA := (hA.after hb1).alloc (.cells (V (withF f n r)) 23)
    replace hC := (hC.after hb1).alloc (.cells (V (withF f n r)) 23)
    replace c0 := cell_later (below_box1 w1 (.cells (V (withF f n r)) 23)) (cell_later hb1 c0)
    replace c1 := cell_later (below_box1 w1 (.cells (V (withF f n r)) 23)) (cell_later hb1 c1)
    replace hb := then_box (then_call hb hb1) (.cells (V (withF f n r)) 23)
    have hJ := VAt.new w1 (withF f n r)
    clear hW hb1
    go_wp2_with (first
      | ((with_reducible apply wpList_store_vec'); rfl; rfl)
      | ((with_reducible apply wpList_load_vec'); rfl; rfl; (with_reducible first | exact hA | exact hC | exact hJ))
      | (go_at_call 16; (with_reducible refine (covers_any _ _ _).mono ?_); rintro e w' ⟨rfl, hb'⟩; replace hA := hA.after hb'; replace hC := hC.after hb'; replace hJ := hJ.after hb'; replace c0 := cell_later hb' c0; replace c1 := cell_later hb' c1; replace hb := then_call hb hb'; clear hb')
      | (go_at_call 9; (with_reducible refine (has_any _ _ _ _).mono ?_); rintro e w' ⟨rfl, hb'⟩; replace hA := hA.after hb'; replace hC := hC.after hb'; replace hJ := hJ.after hb'; replace c0 := cell_later hb' c0; replace c1 := cell_later hb' c1; replace hb := then_call hb hb'; clear hb'))
    go_ret
    exact ⟨rfl, hb⟩

set_option maxHeartbeats 2000000 in
theorem vectorHolds_hi (f : Nat → Int) (n r : Int) (h : Nat → Int) (r0 : 0 ≤ r) (r8 : decide (r < 8) = false) (hr : replB r = false) (w : World) :
    Calls Try.prog 7 #[.agg (V f), .agg #[.int .i64 n, .int .i64 r], .agg (V h)] w (Ret (.bool true) w) := by
  obtain ⟨W, hW, hb, hA, hC, c0, c1⟩ := vsv_boxes w f n r h
  have heq := fun (x y : Nat → Int) (w : World) => run_eqVec x y w
  have f1 := cov_with f n r
  have f2 : hasB (withF f n r) n r = false := hasB_out hr
  have f3 : eqV (withF f n r) f = true := with_out hr
  have g1 : hasB f n r = false := hasB_out hr
  have hh : hasB h n r = false := hasB_out hr
  clear hr
  rcases (show covB h f = false ∨ covB h f = true from by cases covB h f <;> simp) with h1 | h1
  all_goals
    go_enter Try.func7, Try.ntmps7
    go_wp2_with ((with_reducible apply wpList_load_vec'); rfl; rfl; (with_reducible first | exact hA | exact hC))
    refine (with_any _ _ _ _).mono ?_
    rintro e w1 ⟨rfl, hb1⟩
    replace hA := (hA.after hb1).alloc (.cells (V (withF f n r)) 23)
    replace hC := (hC.after hb1).alloc (.cells (V (withF f n r)) 23)
    replace c0 := cell_later (below_box1 w1 (.cells (V (withF f n r)) 23)) (cell_later hb1 c0)
    replace c1 := cell_later (below_box1 w1 (.cells (V (withF f n r)) 23)) (cell_later hb1 c1)
    replace hb := then_box (then_call hb hb1) (.cells (V (withF f n r)) 23)
    have hJ := VAt.new w1 (withF f n r)
    clear hW hb1
    go_wp2_with (first
      | ((with_reducible apply wpList_store_vec'); rfl; rfl)
      | ((with_reducible apply wpList_load_vec'); rfl; rfl; (with_reducible first | exact hA | exact hC | exact hJ))
      | (go_at_call 16; (with_reducible refine (covers_any _ _ _).mono ?_); rintro e w' ⟨rfl, hb'⟩; replace hA := hA.after hb'; replace hC := hC.after hb'; replace hJ := hJ.after hb'; replace c0 := cell_later hb' c0; replace c1 := cell_later hb' c1; replace hb := then_call hb hb'; clear hb')
      | (go_at_call 9; (with_reducible refine (has_any _ _ _ _).mono ?_); rintro e w' ⟨rfl, hb'⟩; replace hA := hA.after hb'; replace hC := hC.after hb'; replace hJ := hJ.after hb'; replace c0 := cell_later hb' c0; replace c1 := cell_later hb' c1; replace hb := then_call hb hb'; clear hb'))
    go_ret
    exact ⟨rfl, hb⟩

theorem vectorHolds_walk (f : Nat → Int) (n r : Int) (h : Nat → Int) (w : World) :
    Calls Try.prog 7 #[.agg (V f), .agg #[.int .i64 n, .int .i64 r], .agg (V h)] w (Ret (.bool true) w) := by
  by_cases h1 : r < 0
  · exact vectorHolds_lo f n r h h1 (replB_lo h1) w
  · by_cases h2 : r < 8
    · rcases had_ways f n r with g1 | ⟨g1, g2⟩
      · exact vectorHolds_in1 f n r h (by omega) (decide_eq_true h2) g1 w
      · exact vectorHolds_in2 f n r h (by omega) (decide_eq_true h2) g1 g2 w
    · exact vectorHolds_hi f n r h (by omega) (decide_eq_false h2) (replB_hi (by omega)) w

end Go.Proofs.Ytmihcfjlhljmoaa
