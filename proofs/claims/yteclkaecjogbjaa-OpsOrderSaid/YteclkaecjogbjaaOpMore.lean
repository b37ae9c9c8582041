/-
  OpsMore's walk: whatever it is given, it hands back true.
-/
import Derived.Test.YteclkaecjogbjaaOpGrow
import Derived.Test.YteclkaecjogbjaaOpStep
namespace Go.Proofs.Yteclkaecjogbjaa
open Go.RowKit Go.Sort

/-- The ways on which OpsMore answers at once. -/
theorem more_ways (n : Nat) (r : Int) (c : Bool) : (decide ((n : Int) > 60) = true) ∨ (decide ((n : Int) > 60) = false ∧ decide (r < 0) = true) ∨ (decide ((n : Int) > 60) = false ∧ decide (r < 0) = false ∧ decide (r ≥ 8) = true) ∨ (decide ((n : Int) > 60) = false ∧ decide (r < 0) = false ∧ decide (r ≥ 8) = false ∧ c = false) ∨ (decide ((n : Int) > 60) = false ∧ decide (r < 0) = false ∧ decide (r ≥ 8) = false ∧ c = true) := by
  cases decide ((n : Int) > 60) <;> cases decide (r < 0) <;> cases decide (r ≥ 8) <;> cases c <;> simp

theorem wf_of {n : Int} (h : -9223372036854775808 ≤ n) (h' : n ≤ 9223372036854775807) : (Lit.int .i64 n).wf = true := by
  simp only [Lit.wf, Bool.and_eq_true, decide_eq_true_eq]
  exact ⟨h, h'⟩
/-- A vector in a block of its own. -/
theorem new_vec (W : World) (f : Nat → Int) : ∃ p W2, W.heap.size = p ∧ VAt (W.alloc (.cells #[.int .i64 0, .int .i64 0, .int .i64 0, .int .i64 0, .int .i64 0, .int .i64 0, .int .i64 0, .int .i64 0] 25)) p (fun _ => 0) ∧ (W.alloc (.cells #[.int .i64 0, .int .i64 0, .int .i64 0, .int .i64 0, .int .i64 0, .int .i64 0, .int .i64 0, .int .i64 0] 25)).setRow p (V f) = W2 ∧ Below W.heap.size W W2 ∧ VAt W2 p f :=
  ⟨_, _, rfl, VAt.new W (fun _ => 0), rfl, below_setRow (below_box1 _ _) (Nat.le_refl _) _, (VAt.new W (fun _ => 0)).row _⟩
theorem new_stamp (W : World) (n r : Int) : ∃ p W2, W.heap.size = p ∧ W.alloc (.cells #[.int .i64 n, .int .i64 r] 23) = W2 ∧ Below W.heap.size W W2 ∧ p < W2.heap.size ∧ W2.cell? ⟨p, 0, none⟩ = some (.int .i64 n) ∧ W2.cell? ⟨p, 1, none⟩ = some (.int .i64 r) :=
  ⟨_, _, rfl, rfl, below_box1 _ _, by simp, by go_simp, by go_simp⟩

set_option maxRecDepth 20000 in
set_option maxHeartbeats 6400000 in
theorem opsMore_any (w : World) (v : Value) (l : List OpV) (r : Int) (hv : OpsAt w v l) (hl : ∀ o ∈ l, o.Fits ∧ o.Wf) : Calls Try.prog 7 #[v, .int .i64 r] w (Ret (.bool true) w) := by
  have hll := fun W => hv.len 3 W
  have hle := hv.le
  by_cases h60 : (l.length : Int) > 60
  · go_enter Try.func7, Try.ntmps7
    go_wp2_with (go_at_call 8; refine (alive_any _).mono ?_; rintro e w2 ⟨rfl, hb2⟩)
    go_ret
    exact ⟨rfl, hb2⟩
  by_cases h0 : r < 0
  · have q1 : decide ((l.length : Int) > 60) = false := decide_eq_false h60
    go_enter Try.func7, Try.ntmps7
    go_wp2_with (go_at_call 8; refine (alive_any _).mono ?_; rintro e w2 ⟨rfl, hb2⟩)
    go_ret
    exact ⟨rfl, hb2⟩
  by_cases h8 : r ≥ 8
  · have q1 : decide ((l.length : Int) > 60) = false := decide_eq_false h60
    go_enter Try.func7, Try.ntmps7
    go_wp2_with (go_at_call 8; refine (alive_any _).mono ?_; rintro e w2 ⟨rfl, hb2⟩)
    go_ret
    exact ⟨rfl, hb2⟩
  have q1 : decide (60 < (l.length : Int)) = false := decide_eq_false h60
  have hlen : l.length ≤ 60 := by omega
  have q2 : decide (r < 0) = false := decide_eq_false h0
  have q3 : decide (8 ≤ r) = false := decide_eq_false h8
  have HC := closed_any l hl v w hv (by omega)
  cases hc : closedB l with
  | false =>
    rw [hc] at HC
    have HC := Lib.hid HC
    clear h60 h0 h8 hlen hc
    go_enter Try.func7, Try.ntmps7
    go_wp2_with (first
      | (go_at_call 11; refine HC.out.mono ?_; rintro e w1 ⟨rfl, hb1⟩)
      | (go_at_call 8; refine (alive_any _).mono ?_; rintro e w2 ⟨rfl, hb2⟩))
    go_ret
    exact ⟨rfl, then_call hb1 hb2⟩
  | true =>
    rw [hc] at HC
    have HC := Lib.hid HC
    have hs := mostL_spec l (closed_stamps hc)
    have hf : ∀ i, i < 8 → 0 ≤ mostL l i ∧ mostL l i ≤ 1048576 := fun i hi => (hs i hi).1
    obtain ⟨m0, m1, _⟩ := mostF_of hf
    have hrr : replB r = true := replB_in (by omega) (by omega)
    obtain ⟨f, hff⟩ : ∃ f, mostL l = f := ⟨_, rfl⟩
    have HM := fun W h => opsMost_any l v W h
    have HV := fun W => most_any f W
    have HN := fun W => next_any (mostF f) r (by rw [← hff]; omega) W
    rw [hff] at HM
    by_cases hfull : 1048576 ≤ mostF f
    · have hN := nextV_full hrr (s := mostF f) (by rw [← hff]; exact m0) hfull
      simp only [hN] at HN
      have HM := Lib.hid HM
      have HV := Lib.hid HV
      have HN := Lib.hid HN
      have hv := Lib.hid hv
      go_enter Try.func7, Try.ntmps7
      go_wp2_with (first
        | (go_at_call 11; refine HC.out.mono ?_; rintro e w1 ⟨rfl, hb1⟩; have hv1 := Lib.hid (hv.out.below hb1))
        | (go_at_call 17; refine (HM.out _ hv1.out).mono ?_; rintro e w2 ⟨rfl, hb2⟩; obtain ⟨p5, W3, hp5, z5, hW3, hb3, x5⟩ := new_vec w2 f; have hB3 := ((then_call hb1 hb2).trans (hb3.mono (then_call hb1 hb2).size)))
        | ((with_reducible refine store_vec (g := f) z5 ?_ ?_ ?_); rfl; rfl; rw [hW3])
        | ((with_reducible refine load_vec x5 ?_ ?_ ?_); rfl; rfl)
        | (go_at_call 20; refine (HV.out _).mono ?_; rintro e w4 ⟨rfl, hb4⟩)
        | (go_at_call 19; refine (HN.out _).mono ?_; rintro e w5 ⟨rfl, hb5⟩))
      go_ret
      exact ⟨rfl, then_box (then_call (then_call hB3 hb4) hb5) _⟩
    · have hN := nextV_in hrr (s := mostF f) (by rw [← hff]; exact m0) (by omega)
      simp only [hN] at HN
      have hcl2 : closedB (l ++ [nextO f r]) = true := by rw [← hff]; exact closed_grows hc (by rw [hff]; omega) ⟨by omega, by omega⟩
      have hop2 : opB (nextO f r) = true := nextO_right (by rw [← hff]; exact hf) (by omega) ⟨by omega, by omega⟩
      have hmo2 : mostL (l ++ [nextO f r]) = withF f (mostF f + 1) r := by rw [mostL_add, hff]; rfl
      have hwf2 : ∀ i, i < 8 → 0 ≤ f i ∧ f i ≤ 1048576 := by rw [← hff]; exact hf
      have hm02 : 0 ≤ mostF f := by rw [← hff]; exact m0
      have hfit : (nextO f r).Fits := ⟨by show 0 ≤ _; omega, by show 0 ≤ _; omega, by show 0 ≤ _; omega⟩
      have hwf : (nextO f r).Wf := ⟨wf_of (by show _ ≤ mostF f + 1; omega) (by show mostF f + 1 ≤ _; omega), wf_of (by show _ ≤ r; omega) (by show r ≤ _; omega), fun i hi => wf_of (by show _ ≤ f i; have := hwf2 i hi; omega) (by show f i ≤ _; have := hwf2 i hi; omega)⟩
      have hl2all : ∀ x ∈ l ++ [nextO f r], x.Fits ∧ x.Wf := fun x hx => by
        rcases List.mem_append.1 hx with hx | hx
        · exact hl x hx
        · obtain rfl : x = nextO f r := by simpa using hx
          exact ⟨hfit, hwf⟩
      have HR2 := fun W => opRight_any (nextO f r) hfit W
      rw [hop2] at HR2
      have HC2 := fun (m : Value) W h => closed_any (l ++ [nextO f r]) hl2all m W h (by simp; omega)
      rw [hcl2] at HC2
      have HM2 := fun (m : Value) W h => opsMost_any (l ++ [nextO f r]) m W h
      rw [hmo2] at HM2
      have HR2 := Lib.hid HR2
      have HC2 := Lib.hid HC2
      have HM2 := Lib.hid HM2
      have HM := Lib.hid HM
      have HV := Lib.hid HV
      have HN := Lib.hid HN
      have hv := Lib.hid hv
      go_enter Try.func7, Try.ntmps7
      go_wp2_with (first
        | (go_at_call 11; refine HC.out.mono ?_; rintro e w1 ⟨rfl, hb1⟩; have hv1 := Lib.hid (hv.out.below hb1))
        | (go_at_call 17; refine (HM.out _ hv1.out).mono ?_; rintro e w2 ⟨rfl, hb2⟩; obtain ⟨p5, W3, hp5, z5, hW3, hb3, x5⟩ := new_vec w2 f; have hB3 := ((then_call hb1 hb2).trans (hb3.mono (then_call hb1 hb2).size)))
        | ((with_reducible refine store_vec (g := f) z5 ?_ ?_ ?_); rfl; rfl; rw [hW3])
        | ((with_reducible refine load_vec x5 ?_ ?_ ?_); rfl; rfl)
        | (go_at_call 20; refine (HV.out _).mono ?_; rintro e w4 ⟨rfl, hb4⟩)
        | (go_at_call 19; refine (HN.out _).mono ?_; rintro e w5 ⟨rfl, hb5⟩; obtain ⟨p6, W6, hp6, hW6, hb6, hlt6, k0, k1⟩ := new_stamp w5 (mostF f + 1) r; have x5' := ((x5.after hb4).after hb5).after hb6; have hB6 := then_call (then_call (then_call hB3 hb4) hb5) hb6; obtain ⟨p8, W7, hp8, z8, hW7, hb7, x8⟩ := new_op W6 (nextO f r); have hB7 := then_call hB6 hb7; have x5'' := x5'.after hb7; have k0' := cell_later hb7 k0; have k1' := cell_later hb7 k1)
        | ((with_reducible refine load_vec x5' ?_ ?_ ?_); rfl; rfl)
        | ((with_reducible refine build_op (x := nextO f r) ?_ ?_); kernel_rfl)
        | ((with_reducible refine store_op (x := nextO f r) z8 ?_ ?_ ?_); rfl; rfl; rw [hW7]))
      obtain ⟨o, ho⟩ : ∃ o, nextO f r = o := ⟨_, rfl⟩
      rw [ho] at x8 ⊢
      have hv7 : OpsAt W7 v l := hv.out.below hB7
      have hl7 : w.heap.size ≤ W7.heap.size := hB7.size
      have hp8l := x8.lt
      have hl1 : ((([] : List (List Value)).length) + (l.map opL).length) * 4096 ≤ 140737488355328 := by simp; omega
      have hl2 : ((([] : List (List Value)) ++ l.map opL).length + [opL o].length) * 4096 ≤ 140737488355328 := by simp; omega
      have hone : ∀ y ∈ [opL o], ∀ u ∈ y, u.oneCell' = true := ops_one [o]
      refine wp_region_held_drew (S := fun X => OpAt X p8 o) (by kernel_rfl) x8 (fun hH => ?_)
      refine wpAnyH_take (i := 1) (oi := ⟨some 44, .move (.tmp 0), _, _, _, none⟩) (v := v) rfl (by decide +kernel) (by decide +kernel) (by decide +kernel) (fun _ _ _ h => h) (.inl ⟨rfl, fun w _ => rfl⟩) hH ?_
      simp only [Act.put, List.setIfInBounds_toArray, List.set_cons_succ, List.set_cons_zero]
      refine wpAnyH_take (i := 3) (oi := ⟨some 46, .load 31 (.tmp 8), _, _, _, none⟩) (v := .agg (OpC o)) rfl (by decide +kernel) (by decide +kernel) (by decide +kernel) (fun _ _ _ h => h) (.inl ⟨rfl, fun w hS => run_ld _ 8 o p8 rfl _ _ _ _ _ hS⟩) hH ?_
      simp only [Act.put, List.setIfInBounds_toArray, List.set_cons_succ, List.set_cons_zero]
      have hvd : RowsAt 26 W7.drew v (l.map opL) := hv7
      have hp6l : p6 < W7.heap.size := block_lt_of_cell k0'
      have hBB := Lib.hid hB7
      have xx5 := Lib.hid x5''
      have kk0 := Lib.hid k0'
      have kk1 := Lib.hid k1'
      rw [ho] at HR2 HC2 HM2
      have heq := fun (x y : Nat → Int) (w : World) => run_eqVec x y w
      have hself := fun x => (eqV_iff x x).2 fun _ _ => rfl
      clear HC HM HV HN hll hle h60 h0 h8 hc hs hf m0 m1 hrr hff hN q1 q2 q3 hb1 hv1 hb2 hp5 z5 hW3 hb3 x5 hB3 hb4 hb5 hp6 hW6 hb6 hlt6 k0 k1 x5' hB6 hp8 z8 hW7 hb7 hB7 x5'' k0' k1' x8 hv hcl2 hop2 hmo2 hwf2 hm02 hfit hwf hl2all hl ho hfull hlen
      refine wpAnyH_ready (rs := [0, 4]) (by decide +kernel) (by simp) (AllReadyH.cons (o := ⟨some 43, .buildSlice 34 0 #[], _, _, _, none⟩) rfl (fun K hK => ?_) (AllReadyH.cons (o := ⟨some 47, .buildSlice 34 1 #[(0, .tmp 46)], _, _, _, none⟩) rfl (fun K hK => ?_) AllReadyH.nil))
      · refine step_bs0 W7.heap.size (Nat.le_refl _) ?_
        intro X0 hO hs0 hb0
        replace hs0 : X0.heap.size = W7.heap.size + 1 := hs0
        refine hK.out _ _ (OpAt.later (w := W7.drew) hH hb0 hp8l) (fun hH0 => ?_)
        clear hK K
        simp only [Act.put, List.setIfInBounds_toArray, List.set_cons_succ, List.set_cons_zero]
        have hv0 : RowsAt 26 X0 v (l.map opL) := hvd.below hb0
        refine wpAnyH_ready (rs := [2, 4]) (by decide +kernel) (by simp) (AllReadyH.cons (o := ⟨some 45, .call { callee := .builtin .append, args := #[.tmp 43, .tmp 44], argTypes := #[34, 34] }, _, _, _, none⟩) rfl (fun K hK => ?_) (AllReadyH.cons (o := ⟨some 47, .buildSlice 34 1 #[(0, .tmp 46)], _, _, _, none⟩) rfl (fun K hK => ?_) AllReadyH.nil))
        · refine step_append_rows0 (base := W7.heap.size) elemO rfl (.tmp 43) (.tmp 44) rfl rfl hO rfl hv0 (ops_one l) hl1 (by omega) ?_
          intro A1 m1 c1 X1 hO1 ht1 hbl1
          have hs1 := hbl1.size
          refine hK.out _ _ (hH0.later hbl1 hp8l) (fun hH1 => ?_)
          clear hK K
          simp only [Act.put, List.setIfInBounds_toArray, List.set_cons_succ, List.set_cons_zero]
          refine wpAnyH_ready (rs := [4]) (by decide +kernel) (by simp) (AllReadyH.cons (o := ⟨some 47, .buildSlice 34 1 #[(0, .tmp 46)], _, _, _, none⟩) rfl (fun K hK => ?_) AllReadyH.nil)
          refine step_bs1 (o := o) rfl ?_
          intro X2 hQ hs2 hb2
          refine hK.out _ _ (hH1.after hb2) (fun hH2 => ?_)
          clear hK K
          simp only [Act.put, List.setIfInBounds_toArray, List.set_cons_succ, List.set_cons_zero]
          have hO2 := hO1.below hb2
          refine wpAnyH_ready (rs := [5]) (by decide +kernel) (by simp) (AllReadyH.cons (o := ⟨some 48, .call { callee := .builtin .append, args := #[.tmp 45, .tmp 47], argTypes := #[34, 34] }, _, _, _, none⟩) rfl (fun K hK => ?_) AllReadyH.nil)
          refine step_append_rows0 (base := W7.heap.size) elemO rfl (.tmp 45) (.tmp 47) rfl rfl hO2 rfl hQ hone hl2 (by omega) ?_
          intro A2 m2 c2 XF hOF ht3 hbl3
          refine hK.out _ _ (hH2.later hbl3 hp8l) (fun hHF => ?_)
          clear hK K
          simp only [Act.put, List.setIfInBounds_toArray, List.set_cons_succ, List.set_cons_zero]
          have hBF : Below W7.heap.size W7 XF := (((below_drew1 (Below.refl W7.heap.size W7)).trans hb0).trans hbl1).trans ((hb2.mono (by omega)).trans hbl3)
          clear hv0 hO hO1 hO2 ht1 ht3 hb0 hb2 hbl1 hbl3 hQ hH0 hH1 hH2 hvd hone hl1 hl2
          refine wpAnyH_take (i := 6) (oi := ⟨some 9, .assign (.tmp 48), _, _, _, none⟩) (v := .slice A2 m2 c2) rfl (by decide +kernel) (by decide +kernel) (by decide +kernel) (fun _ _ _ h => h) (.inl ⟨rfl, fun w _ => rfl⟩) hHF ?_
          simp only [Act.put, List.setIfInBounds_toArray, List.set_cons_succ, List.set_cons_zero]
          refine wpAnyH_done (by decide +kernel) ?_ _
          have hm : OpsAt XF (.slice A2 m2 c2) (l ++ [o]) := by
            have := hOF.rows
            rw [List.nil_append, ← List.map_singleton, ← List.map_append] at this
            exact this
          have hBF2 := Lib.hid (hBB.out.trans (hBF.mono hBB.out.size))
          have hm := Lib.hid hm
          have hx8 := Lib.hid hHF
          have hx5 := Lib.hid (xx5.out.later hBF xx5.out.lt)
          have g0 := cell_regrown ((hBF.cell (p := ⟨p6, 0, none⟩) hp6l).trans kk0.out)
          have g1 := cell_regrown ((hBF.cell (p := ⟨p6, 1, none⟩) hp6l).trans kk1.out)
          clear hOF hBF
          go_wp2_with fail
          refine wp_region_quiet_below (by kernel_rfl) (by kernel_rfl) ?_
          repeat (first
            | (go_big_quiet_want; refine quiet_load_op _ rfl rfl hx8.out ?_; simp only [Act.put, List.setIfInBounds_toArray, List.set_cons_succ, List.set_cons_zero]; go_big_quiet_on)
            | (go_big_quiet_want; refine quiet_load_vec _ rfl rfl hx5.out ?_; simp only [Act.put, List.setIfInBounds_toArray, List.set_cons_succ, List.set_cons_zero]; go_big_quiet_on)
            | go_big_quiet_step (first
              | (go_at_call 8; exact Calls.ret_regrown (alive_any _))
              | (go_at_call 9; exact Calls.ret_regrown (HR2.out _))
              | (go_at_call 11; exact Calls.ret_regrown (HC2.out _ _ (hm.out.below (below_regrown _ _ _))))
              | (go_at_call 17; exact Calls.ret_regrown (HM2.out _ _ (hm.out.below (below_regrown _ _ _))))
              | (go_at_call 21; exact Calls.ret_regrown (with_any _ _ _ _))))
          refine wpQuiet_nil ?_
          intro _ hw'
          obtain ⟨⟨dq, osq⟩, hw''⟩ := hw'
          subst hw''
          go_wp2
          go_ret
          exact ⟨rfl, hBF2.out.trans ((below_regrown XF dq osq).mono hBF2.out.size)⟩
        · refine step_bs1 (o := o) rfl ?_
          intro X1 hQ hs1 hb1
          refine hK.out _ _ (hH0.after hb1) (fun hH1 => ?_)
          clear hK K
          simp only [Act.put, List.setIfInBounds_toArray, List.set_cons_succ, List.set_cons_zero]
          have hO1 := hO.below hb1
          have hv1 : RowsAt 26 X1 v (l.map opL) := hv0.below hb1
          refine wpAnyH_ready (rs := [2]) (by decide +kernel) (by simp) (AllReadyH.cons (o := ⟨some 45, .call { callee := .builtin .append, args := #[.tmp 43, .tmp 44], argTypes := #[34, 34] }, _, _, _, none⟩) rfl (fun K hK => ?_) AllReadyH.nil)
          refine step_append_rows0 (base := W7.heap.size) elemO rfl (.tmp 43) (.tmp 44) rfl rfl hO1 rfl hv1 (ops_one l) hl1 (by omega) ?_
          intro A1 m1 c1 X2 hO2 ht2 hbl2
          have hs2 := hbl2.size
          refine hK.out _ _ (hH1.later hbl2 hp8l) (fun hH2 => ?_)
          clear hK K
          simp only [Act.put, List.setIfInBounds_toArray, List.set_cons_succ, List.set_cons_zero]
          have hQ2 := RowsAt.turns hQ ht2 (not_in_own (by show X0.heap.size ≠ W7.heap.size; omega) _ _ _ _)
          refine wpAnyH_ready (rs := [5]) (by decide +kernel) (by simp) (AllReadyH.cons (o := ⟨some 48, .call { callee := .builtin .append, args := #[.tmp 45, .tmp 47], argTypes := #[34, 34] }, _, _, _, none⟩) rfl (fun K hK => ?_) AllReadyH.nil)
          refine step_append_rows0 (base := W7.heap.size) elemO rfl (.tmp 45) (.tmp 47) rfl rfl hO2 rfl hQ2 hone hl2 (by omega) ?_
          intro A2 m2 c2 XF hOF ht3 hbl3
          refine hK.out _ _ (hH2.later hbl3 hp8l) (fun hHF => ?_)
          clear hK K
          simp only [Act.put, List.setIfInBounds_toArray, List.set_cons_succ, List.set_cons_zero]
          have hBF : Below W7.heap.size W7 XF := ((((below_drew1 (Below.refl W7.heap.size W7)).trans hb0).trans (hb1.mono (by omega))).trans hbl2).trans hbl3
          clear hv0 hv1 hO hO1 hO2 ht2 ht3 hb0 hb1 hbl2 hbl3 hQ hQ2 hH0 hH1 hH2 hvd hone hl1 hl2
          refine wpAnyH_take (i := 6) (oi := ⟨some 9, .assign (.tmp 48), _, _, _, none⟩) (v := .slice A2 m2 c2) rfl (by decide +kernel) (by decide +kernel) (by decide +kernel) (fun _ _ _ h => h) (.inl ⟨rfl, fun w _ => rfl⟩) hHF ?_
          simp only [Act.put, List.setIfInBounds_toArray, List.set_cons_succ, List.set_cons_zero]
          refine wpAnyH_done (by decide +kernel) ?_ _
          have hm : OpsAt XF (.slice A2 m2 c2) (l ++ [o]) := by
            have := hOF.rows
            rw [List.nil_append, ← List.map_singleton, ← List.map_append] at this
            exact this
          have hBF2 := Lib.hid (hBB.out.trans (hBF.mono hBB.out.size))
          have hm := Lib.hid hm
          have hx8 := Lib.hid hHF
          have hx5 := Lib.hid (xx5.out.later hBF xx5.out.lt)
          have g0 := cell_regrown ((hBF.cell (p := ⟨p6, 0, none⟩) hp6l).trans kk0.out)
          have g1 := cell_regrown ((hBF.cell (p := ⟨p6, 1, none⟩) hp6l).trans kk1.out)
          clear hOF hBF
          go_wp2_with fail
          refine wp_region_quiet_below (by kernel_rfl) (by kernel_rfl) ?_
          repeat (first
            | (go_big_quiet_want; refine quiet_load_op _ rfl rfl hx8.out ?_; simp only [Act.put, List.setIfInBounds_toArray, List.set_cons_succ, List.set_cons_zero]; go_big_quiet_on)
            | (go_big_quiet_want; refine quiet_load_vec _ rfl rfl hx5.out ?_; simp only [Act.put, List.setIfInBounds_toArray, List.set_cons_succ, List.set_cons_zero]; go_big_quiet_on)
            | go_big_quiet_step (first
              | (go_at_call 8; exact Calls.ret_regrown (alive_any _))
              | (go_at_call 9; exact Calls.ret_regrown (HR2.out _))
              | (go_at_call 11; exact Calls.ret_regrown (HC2.out _ _ (hm.out.below (below_regrown _ _ _))))
              | (go_at_call 17; exact Calls.ret_regrown (HM2.out _ _ (hm.out.below (below_regrown _ _ _))))
              | (go_at_call 21; exact Calls.ret_regrown (with_any _ _ _ _))))
          refine wpQuiet_nil ?_
          intro _ hw'
          obtain ⟨⟨dq, osq⟩, hw''⟩ := hw'
          subst hw''
          go_wp2
          go_ret
          exact ⟨rfl, hBF2.out.trans ((below_regrown XF dq osq).mono hBF2.out.size)⟩
      · refine step_bs1 (o := o) rfl ?_
        intro X0 hQ hs0 hb0
        replace hs0 : X0.heap.size = W7.heap.size + 1 := hs0
        refine hK.out _ _ (OpAt.later (w := W7.drew) hH hb0 hp8l) (fun hH0 => ?_)
        clear hK K
        simp only [Act.put, List.setIfInBounds_toArray, List.set_cons_succ, List.set_cons_zero]
        have hv0 : RowsAt 26 X0 v (l.map opL) := hvd.below hb0
        refine wpAnyH_ready (rs := [0]) (by decide +kernel) (by simp) (AllReadyH.cons (o := ⟨some 43, .buildSlice 34 0 #[], _, _, _, none⟩) rfl (fun K hK => ?_) AllReadyH.nil)
        refine step_bs0 W7.heap.size (by omega) ?_
        intro X1 hO hs1 hb1
        refine hK.out _ _ (hH0.after hb1) (fun hH1 => ?_)
        clear hK K
        simp only [Act.put, List.setIfInBounds_toArray, List.set_cons_succ, List.set_cons_zero]
        have hv1 : RowsAt 26 X1 v (l.map opL) := hv0.below hb1
        have hQ1 := hQ.below hb1
        refine wpAnyH_ready (rs := [2]) (by decide +kernel) (by simp) (AllReadyH.cons (o := ⟨some 45, .call { callee := .builtin .append, args := #[.tmp 43, .tmp 44], argTypes := #[34, 34] }, _, _, _, none⟩) rfl (fun K hK => ?_) AllReadyH.nil)
        refine step_append_rows0 (base := W7.heap.size) elemO rfl (.tmp 43) (.tmp 44) rfl rfl hO rfl hv1 (ops_one l) hl1 (by omega) ?_
        intro A1 m1 c1 X2 hO2 ht2 hbl2
        have hs2 := hbl2.size
        refine hK.out _ _ (hH1.later hbl2 hp8l) (fun hH2 => ?_)
        clear hK K
        simp only [Act.put, List.setIfInBounds_toArray, List.set_cons_succ, List.set_cons_zero]
        have hQ2 := RowsAt.turns hQ1 ht2 (not_in_own (by show W7.heap.size ≠ X0.heap.size; omega) _ _ _ _)
        refine wpAnyH_ready (rs := [5]) (by decide +kernel) (by simp) (AllReadyH.cons (o := ⟨some 48, .call { callee := .builtin .append, args := #[.tmp 45, .tmp 47], argTypes := #[34, 34] }, _, _, _, none⟩) rfl (fun K hK => ?_) AllReadyH.nil)
        refine step_append_rows0 (base := W7.heap.size) elemO rfl (.tmp 45) (.tmp 47) rfl rfl hO2 rfl hQ2 hone hl2 (by omega) ?_
        intro A2 m2 c2 XF hOF ht3 hbl3
        refine hK.out _ _ (hH2.later hbl3 hp8l) (fun hHF => ?_)
        clear hK K
        simp only [Act.put, List.setIfInBounds_toArray, List.set_cons_succ, List.set_cons_zero]
        have hBF : Below W7.heap.size W7 XF := ((((below_drew1 (Below.refl W7.heap.size W7)).trans hb0).trans (hb1.mono (by omega))).trans hbl2).trans hbl3
        clear hv0 hv1 hO hO2 ht2 ht3 hb0 hb1 hbl2 hbl3 hQ hQ1 hQ2 hH0 hH1 hH2 hvd hone hl1 hl2
        refine wpAnyH_take (i := 6) (oi := ⟨some 9, .assign (.tmp 48), _, _, _, none⟩) (v := .slice A2 m2 c2) rfl (by decide +kernel) (by decide +kernel) (by decide +kernel) (fun _ _ _ h => h) (.inl ⟨rfl, fun w _ => rfl⟩) hHF ?_
        simp only [Act.put, List.setIfInBounds_toArray, List.set_cons_succ, List.set_cons_zero]
        refine wpAnyH_done (by decide +kernel) ?_ _
        have hm : OpsAt XF (.slice A2 m2 c2) (l ++ [o]) := by
          have := hOF.rows
          rw [List.nil_append, ← List.map_singleton, ← List.map_append] at this
          exact this
        have hBF2 := Lib.hid (hBB.out.trans (hBF.mono hBB.out.size))
        have hm := Lib.hid hm
        have hx8 := Lib.hid hHF
        have hx5 := Lib.hid (xx5.out.later hBF xx5.out.lt)
        have g0 := cell_regrown ((hBF.cell (p := ⟨p6, 0, none⟩) hp6l).trans kk0.out)
        have g1 := cell_regrown ((hBF.cell (p := ⟨p6, 1, none⟩) hp6l).trans kk1.out)
        clear hOF hBF
        go_wp2_with fail
        refine wp_region_quiet_below (by kernel_rfl) (by kernel_rfl) ?_
        repeat (first
          | (go_big_quiet_want; refine quiet_load_op _ rfl rfl hx8.out ?_; simp only [Act.put, List.setIfInBounds_toArray, List.set_cons_succ, List.set_cons_zero]; go_big_quiet_on)
          | (go_big_quiet_want; refine quiet_load_vec _ rfl rfl hx5.out ?_; simp only [Act.put, List.setIfInBounds_toArray, List.set_cons_succ, List.set_cons_zero]; go_big_quiet_on)
          | go_big_quiet_step (first
            | (go_at_call 8; exact Calls.ret_regrown (alive_any _))
            | (go_at_call 9; exact Calls.ret_regrown (HR2.out _))
            | (go_at_call 11; exact Calls.ret_regrown (HC2.out _ _ (hm.out.below (below_regrown _ _ _))))
            | (go_at_call 17; exact Calls.ret_regrown (HM2.out _ _ (hm.out.below (below_regrown _ _ _))))
            | (go_at_call 21; exact Calls.ret_regrown (with_any _ _ _ _))))
        refine wpQuiet_nil ?_
        intro _ hw'
        obtain ⟨⟨dq, osq⟩, hw''⟩ := hw'
        subst hw''
        go_wp2
        go_ret
        exact ⟨rfl, hBF2.out.trans ((below_regrown XF dq osq).mono hBF2.out.size)⟩

theorem opsMore_walk (w : World) (v : Value) (r : Int) (l : List OpV) (h : OpsAt w v l ∧ ∀ o ∈ l, o.Fits ∧ o.Wf) : Calls Try.prog 7 #[v, .int .i64 r] w (Ret (.bool true) w) := opsMore_any w v l r h.1 h.2
end Go.Proofs.Yteclkaecjogbjaa
