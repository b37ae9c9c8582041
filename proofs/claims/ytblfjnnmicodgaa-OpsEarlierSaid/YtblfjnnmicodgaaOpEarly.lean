/-
  What it leans on is earlier: the law.
-/
import Derived.Test.YtblfjnnmicodgaaSoClosed
namespace Go.Proofs.Ytblfjnnmicodgaa
open Go.RowKit Go.Sort

theorem named_cells (W : World) (o : OpV) (k : Nat) (hk : k < 4) : (W.alloc (.cells #[.int .i64 o.rn, .int .i64 o.rr, .int .i64 o.un, .int .i64 o.ur, .int .i64 o.fn, .int .i64 o.fr, .int .i64 o.tn, .int .i64 o.tr] 23)).cell? ⟨W.heap.size, k * 2, none⟩ = some (.int .i64 (sn o k)) ∧ (W.alloc (.cells #[.int .i64 o.rn, .int .i64 o.rr, .int .i64 o.un, .int .i64 o.ur, .int .i64 o.fn, .int .i64 o.fr, .int .i64 o.tn, .int .i64 o.tr] 23)).cell? ⟨W.heap.size, k * 2 + 1, none⟩ = some (.int .i64 (sr o k)) := by
  have : k = 0 ∨ k = 1 ∨ k = 2 ∨ k = 3 := by omega
  rcases this with rfl | rfl | rfl | rfl <;> exact ⟨by go_simp <;> rfl, by go_simp <;> rfl⟩
theorem index_named (G m : Nat) (hm : m < 4) (W : World) : (Instr.indexAt 38 (.slice (some ⟨G, 0, none⟩) 4 4) (.int .i64 (m : Int))).run Try.prog W = .ok (.pointer (some ⟨G, m * 2, none⟩)) W := by
  have he : Try.prog.elem 38 = 23 := by simp [Program.elem, Try.underlying38]
  have hs : (sizeOf 23).run Try.prog W = .ok 2 W := by kernel_rfl
  rw [run_indexAt_slice (P := Try.prog) W _ _ 4 4 .i64 (m : Int) (by rw [he]; exact Try.underlying38), if_pos (by omega), he, hs]
  simp [Result.andThen, addr_at]

set_option maxRecDepth 20000 in
set_option maxHeartbeats 25600000 in
theorem opsEarlier_any (w : World) (v : Value) (l : List OpV) (hv : OpsAt w v l) (hl : ∀ o ∈ l, o.Fits ∧ o.Wf) : Calls Try.prog 4 #[v] w (Ret (.bool true) w) := by
  have hll := fun W => hv.len 3 W
  have hle := hv.le
  by_cases h60 : (l.length : Int) > 60
  · go_enter Try.func4, Try.ntmps4
    go_wp2_with (go_at_call 8; refine (alive_any _).mono ?_; rintro e w2 ⟨rfl, hb2⟩)
    go_ret
    exact ⟨rfl, hb2⟩
  have q1 : decide (60 < (l.length : Int)) = false := decide_eq_false h60
  have hlen : l.length ≤ 60 := by omega
  have HC := closed_any l hl v w hv (by omega)
  cases hc : closedB l with
  | false =>
    rw [hc] at HC
    have HC := Lib.hid HC
    clear h60 hlen hc
    go_enter Try.func4, Try.ntmps4
    go_wp2_with (first
      | (go_at_call 11; refine HC.out.mono ?_; rintro e w1 ⟨rfl, hb1⟩)
      | (go_at_call 8; refine (alive_any _).mono ?_; rintro e w2 ⟨rfl, hb2⟩))
    go_ret
    exact ⟨rfl, then_call hb1 hb2⟩
  | true =>
    rw [hc] at HC
    have HC := Lib.hid HC
    have HS := Lib.hid (fun W h => sort_any l hlen v W h)
    have hne : ((l.length : Int) != (l.length : Int)) = false := by simp
    have hv := Lib.hid hv
    replace hc := Lib.hid hc
    go_enter Try.func4, Try.ntmps4
    go_wp2_with (first
      | (go_at_call 11; refine HC.out.mono ?_; rintro e w1 ⟨rfl, hb1⟩)
      | (go_at_call 12; refine (HS.out _ (hv.out.below hb1)).mono ?_; rintro e w2 ⟨v2, l2, rfl, hv2, hso, hb2⟩; have hl2 := hso.length; have hll2 := fun W => hv2.len 3 W; rw [hl2] at hll2; have hB2 := Lib.hid (then_call hb1 hb2)))
    replace hv2 := Lib.hid hv2
    replace hl2 := Lib.hid hl2
    clear hb1 hb2
    go_loopw [4, 5, 6, 7, 8, 9] (fun i _ _ _ _ _ wr => ∃ k : Nat, i = .int .i64 k ∧ k ≤ l.length ∧ Below w2.heap.size w2 wr) (fun i _ _ _ _ _ _ => l.length - (intOf i).toNat)
    case atStart => exact ⟨0, rfl, Nat.zero_le _, Below.refl _ _⟩
    case round =>
      obtain ⟨k, rfl, hk, hb⟩ := hrel
      by_cases hlt : k < l.length
      · have hk4 : (k : Int) < (l.length : Int) := by omega
        have hvr := hv2.out.below hb
        obtain ⟨o, ho⟩ : ∃ o, lst l2 k = o := ⟨_, rfl⟩
        obtain ⟨bk, off, hix, hel, hbk⟩ := hvr.index (lst_at (l := l2) (t := k) (by rw [hl2.out]; exact hlt))
        rw [ho] at hel
        obtain ⟨p, W3, hp, h0, hW3, hb3, hX⟩ := new_op_of hb o
        have hB3 := hb.trans (hb3.mono hb.size)
        have HK : (¬ (0 : Int) < (k : Int)) ∨ ((0 : Int) < (k : Int) ∧ ∃ (q : OpV) (g f : Nat), (∀ W, (Instr.indexAt 34 v2 (.int .i64 ((k : Int) - 1))).run Try.prog W = .ok (.pointer (some ⟨g, f, none⟩)) W) ∧ W3.cell? ⟨g, f, none⟩ = some (.int .i64 q.n) ∧ W3.cell? ⟨g, f + 1, none⟩ = some (.int .i64 q.r) ∧ cmpS q.n q.r o.n o.r = -1) := by
          rcases Nat.eq_zero_or_pos k with h | h
          · left; omega
          · right
            have hk1 : k - 1 < l2.length := by rw [hl2.out]; omega
            obtain ⟨g, f, hi, he, hg⟩ := hvr.index (lst_at (l := l2) (t := k - 1) hk1)
            have he := range_after he hb3 hg
            refine ⟨by omega, lst l2 (k - 1), g, f, ?_, he 0 _ rfl, he 1 _ rfl, ?_⟩
            · rw [show (k : Int) - 1 = ((k - 1 : Nat) : Int) by omega]; exact hi
            · rw [← ho]; exact closed_rises hc.out hso (by omega) (by rw [hl2.out]; exact hlt)
        have hnam := Lib.hid (show namedB o = true by rw [← ho]; exact closed_named hc.out hso (by rw [hl2.out]; exact hlt))
        have x0 := cell_regrown hX.c0
        replace ho := Lib.hid ho
        have x1 := cell_regrown hX.c1
        have hX := Lib.hid hX
        have hB3 := Lib.hid hB3
        rcases HK with hk0 | ⟨hk0, q, g, f, hi, y0, y1, hcm⟩
        · have hdk : decide (0 < k) = false := decide_eq_false (by omega)
          go_wp2_with (first
            | ((with_reducible refine load_mid hel ?_ ?_ ?_); rfl; rfl)
            | ((with_reducible refine store_op (x := o) h0 ?_ ?_ ?_); rfl; rfl; rw [hW3]))
          refine wp_region_quiet_below (by kernel_rfl) (by kernel_rfl) ?_
          repeat (go_big_quiet_step (first | fail))
          refine wpQuiet_nil ?_
          intro W9 hw9
          have hB9 := (show Below _ _ W9 by obtain ⟨⟨dq, osq⟩, rfl⟩ := hw9; exact below_regrown _ dq osq)
          have hX9 := hX.out.after hB9
          have hB4 := Lib.hid (hB3.out.trans (hB9.mono hB3.out.size))
          clear hw9 hB9 x0 x1 hdk hk0 hix hel hvr hb
          have c11 := hX9.c11
          have c12 := hX9.c12
          have c15 := hX9.c15
          have c16 := hX9.c16
          have c20 := hX9.c20
          have c21 := hX9.c21
          have c23 := hX9.c23
          have c24 := hX9.c24
          have hX9 := Lib.hid hX9
          go_wp2
          clear c11 c12 c15 c16 c20 c21 c23 c24
          obtain ⟨WA, hWA⟩ : ∃ WA, W9.alloc (.cells #[.int .i64 o.rn, .int .i64 o.rr, .int .i64 o.un, .int .i64 o.ur, .int .i64 o.fn, .int .i64 o.fr, .int .i64 o.tn, .int .i64 o.tr] 23) = WA := ⟨_, rfl⟩
          rw [hWA]
          have hXA := hX9.out.alloc (.cells #[.int .i64 o.rn, .int .i64 o.rr, .int .i64 o.un, .int .i64 o.ur, .int .i64 o.fn, .int .i64 o.fr, .int .i64 o.tn, .int .i64 o.tr] 23)
          have hBA := below_box1 W9 (.cells #[.int .i64 o.rn, .int .i64 o.rr, .int .i64 o.un, .int .i64 o.ur, .int .i64 o.fn, .int .i64 o.fr, .int .i64 o.tn, .int .i64 o.tr] 23)
          have d0 := named_cells W9 o
          have hsz : WA.heap.size = W9.heap.size + 1 := by rw [← hWA]; simp
          rw [hWA] at hXA hBA d0
          obtain ⟨G, hG⟩ : ∃ G, W9.heap.size = G := ⟨_, rfl⟩
          rw [hG] at d0 hsz ⊢
          have hBA := Lib.hid (hB4.out.trans (hBA.mono hB4.out.size))
          have hXA := Lib.hid hXA
          have d0 := Lib.hid d0
          have hsz := Lib.hid hsz
          clear hX9 hB4 hWA hG
          go_loopw [7] (fun j wr => ∃ m : Nat, j = .int .i64 m ∧ m ≤ 4 ∧ Below WA.heap.size WA wr) (fun j _ => 4 - (intOf j).toNat)
          case atStart => exact ⟨0, rfl, by omega, Below.refl _ _⟩
          case round =>
            obtain ⟨m, rfl, hm4, hbm⟩ := hrel
            by_cases hm : m < 4
            · have hm5 : (m : Int) < 4 := by omega
              have hixn := index_named G m hm
              have hGl : G < WA.heap.size := by have := hsz.out; omega
              have e0 := cell_regrown ((hbm.cell (p := ⟨G, m * 2, none⟩) hGl).trans (d0.out m hm).1)
              have e1 := cell_regrown ((hbm.cell (p := ⟨G, m * 2 + 1, none⟩) hGl).trans (d0.out m hm).2)
              have heq := fun (a b a' b' : Int) (w : World) => run_eqS 9998 a b a' b' w
              have hXm := Lib.hid (hXA.out.after hbm)
              have hbm := Lib.hid hbm
              have hh := (namedB_iff o).1 hnam.out m hm
              have HH := fun W => has_any o.deps (sn o m) (sr o m) W
              rw [hh] at HH
              have HH := Lib.hid HH
              cases hB : eqS (sn o m) (sr o m) 0 0
              all_goals
                go_wp2_with fail
                refine wp_region_quiet_below (by kernel_rfl) (by kernel_rfl) ?_
                repeat (first | (go_big_quiet_want; refine quiet_load_deps _ rfl rfl hXm.out ?_; simp only [Act.put, List.setIfInBounds_toArray, List.set_cons_succ, List.set_cons_zero]; go_big_quiet_on) | go_big_quiet_step (first | (go_at_call 14; exact Calls.ret_regrown (HH.out _))))
                refine wpQuiet_nil ?_
                intro W8 hw8
                have hB8 := (show Below _ _ W8 by obtain ⟨⟨dq, osq⟩, rfl⟩ := hw8; exact below_regrown _ dq osq)
                have hB8 := hbm.out.trans (hB8.mono hbm.out.size)
                clear hw8 e0 e1
                go_wp2
                exact ⟨⟨m + 1, by go_num, by omega, hB8⟩, by simp [intOf]; omega⟩
            · have hm5 : ¬ (m : Int) < 4 := by omega
              obtain rfl : m = 4 := by omega
              have hbm := Lib.hid hbm
              go_wp2
              go_loopw [8, 9] (fun r _ wr => ∃ z : Nat, r = .int .i64 z ∧ z ≤ 8 ∧ Below WA.heap.size WA wr) (fun r _ _ => 8 - (intOf r).toNat)
              case atStart => exact ⟨0, rfl, by omega, hbm.out⟩
              case round =>
                obtain ⟨z, rfl, hz8, hbz⟩ := hrel
                by_cases hz : z < 8
                · have hz5 : (z : Int) < 8 := by omega
                  have hXz := hXA.out.after hbz
                  have cz := hXz.deps hz
                  have hzl := hXz.lt
                  have hF := Lib.hid (fun W h => find_any l2 v2 (o.deps z) z W h (by rw [hl2.out]; omega))
                  have hvz := Lib.hid ((hv2.out.below hBA.out).below hbz)
                  have hbz := Lib.hid hbz
                  have hah : Hid (∀ at' : Int, FindIs l2 (o.deps z) z at' → o.deps z ≠ 0 → 0 ≤ at' ∧ at' < k) := Lib.hid (fun at' h g => by
                    have e := ho.out
                    subst e
                    exact closed_ahead hc.out hso (by rw [hl2.out]; exact hlt) hz g h)
                  have hmo : ∀ {W : World} {e' : Nat} {W' : World}, p < W.heap.size → W.cell? ⟨p, 2 + z, none⟩ = some (.int .i64 (o.deps z)) → Below W.heap.size W W' → e' = 0 → W'.cell? ⟨p, 2 + z, none⟩ = some (.int .i64 (o.deps z)) := fun h1 h2 h3 _ => (h3.cell (p := ⟨p, 2 + z, none⟩) h1).trans h2
                  by_cases hdz : o.deps z = 0
                  · have hdq : (o.deps z != 0) = false := by rw [hdz]; rfl
                    replace hdz := Lib.hid hdz
                    go_wp2_with (go_at_call 15; refine (hF.out _ hvz.out).mono ?_; rintro e w5 ⟨at', rfl, hfi, hb5⟩; have cz5 := hmo hzl cz hb5 (e' := 0) rfl)
                    exact ⟨⟨z + 1, by go_num, by omega, hbz.out.trans (hb5.mono hbz.out.size)⟩, by simp [intOf]; omega⟩
                  · have hdq : (o.deps z != 0) = true := by simp [hdz]
                    replace hdz := Lib.hid hdz
                    go_wp2_with (go_at_call 15; refine (hF.out _ hvz.out).mono ?_; rintro e w5 ⟨at', rfl, hfi, hb5⟩; have cz5 := hmo hzl cz hb5 (e' := 0) rfl; obtain ⟨a1, a2⟩ := hah.out _ hfi hdz.out; have a3 : decide (at' < 0) = false := decide_eq_false (by omega); have a4 : decide ((k : Int) ≤ at') = false := decide_eq_false (by omega))
                    exact ⟨⟨z + 1, by go_num, by omega, hbz.out.trans (hb5.mono hbz.out.size)⟩, by simp [intOf]; omega⟩
                · have hz5 : ¬ (z : Int) < 8 := by omega
                  obtain rfl : z = 8 := by omega
                  have hbz := Lib.hid (hBA.out.trans (hbz.mono hBA.out.size))
                  go_wp2
                  exact ⟨⟨k + 1, by go_num, by omega, hbz.out⟩, by simp [intOf]; omega⟩
        · have y0 := cell_regrown y0
          have y1 := cell_regrown y1
          have HCM := fun W => compare_any q.n q.r o.n o.r W
          rw [hcm] at HCM
          have HCM := Lib.hid HCM
          have hdk : decide (0 < k) = true := decide_eq_true (by omega)
          go_wp2_with (first
            | ((with_reducible refine load_mid hel ?_ ?_ ?_); rfl; rfl)
            | ((with_reducible refine store_op (x := o) h0 ?_ ?_ ?_); rfl; rfl; rw [hW3]))
          refine wp_region_quiet_below (by kernel_rfl) (by kernel_rfl) ?_
          repeat (go_big_quiet_step (first | (go_at_call 13; exact Calls.ret_regrown (HCM.out _))))
          refine wpQuiet_nil ?_
          intro W9 hw9
          have hB9 := (show Below _ _ W9 by obtain ⟨⟨dq, osq⟩, rfl⟩ := hw9; exact below_regrown _ dq osq)
          have hX9 := hX.out.after hB9
          have hB4 := Lib.hid (hB3.out.trans (hB9.mono hB3.out.size))
          clear hw9 hB9 x0 x1 y0 y1 hi hcm HCM hdk hk0 hix hel hvr hb
          have c11 := hX9.c11
          have c12 := hX9.c12
          have c15 := hX9.c15
          have c16 := hX9.c16
          have c20 := hX9.c20
          have c21 := hX9.c21
          have c23 := hX9.c23
          have c24 := hX9.c24
          have hX9 := Lib.hid hX9
          go_wp2
          clear c11 c12 c15 c16 c20 c21 c23 c24
          obtain ⟨WA, hWA⟩ : ∃ WA, W9.alloc (.cells #[.int .i64 o.rn, .int .i64 o.rr, .int .i64 o.un, .int .i64 o.ur, .int .i64 o.fn, .int .i64 o.fr, .int .i64 o.tn, .int .i64 o.tr] 23) = WA := ⟨_, rfl⟩
          rw [hWA]
          have hXA := hX9.out.alloc (.cells #[.int .i64 o.rn, .int .i64 o.rr, .int .i64 o.un, .int .i64 o.ur, .int .i64 o.fn, .int .i64 o.fr, .int .i64 o.tn, .int .i64 o.tr] 23)
          have hBA := below_box1 W9 (.cells #[.int .i64 o.rn, .int .i64 o.rr, .int .i64 o.un, .int .i64 o.ur, .int .i64 o.fn, .int .i64 o.fr, .int .i64 o.tn, .int .i64 o.tr] 23)
          have d0 := named_cells W9 o
          have hsz : WA.heap.size = W9.heap.size + 1 := by rw [← hWA]; simp
          rw [hWA] at hXA hBA d0
          obtain ⟨G, hG⟩ : ∃ G, W9.heap.size = G := ⟨_, rfl⟩
          rw [hG] at d0 hsz ⊢
          have hBA := Lib.hid (hB4.out.trans (hBA.mono hB4.out.size))
          have hXA := Lib.hid hXA
          have d0 := Lib.hid d0
          have hsz := Lib.hid hsz
          clear hX9 hB4 hWA hG
          go_loopw [7] (fun j wr => ∃ m : Nat, j = .int .i64 m ∧ m ≤ 4 ∧ Below WA.heap.size WA wr) (fun j _ => 4 - (intOf j).toNat)
          case atStart => exact ⟨0, rfl, by omega, Below.refl _ _⟩
          case round =>
            obtain ⟨m, rfl, hm4, hbm⟩ := hrel
            by_cases hm : m < 4
            · have hm5 : (m : Int) < 4 := by omega
              have hixn := index_named G m hm
              have hGl : G < WA.heap.size := by have := hsz.out; omega
              have e0 := cell_regrown ((hbm.cell (p := ⟨G, m * 2, none⟩) hGl).trans (d0.out m hm).1)
              have e1 := cell_regrown ((hbm.cell (p := ⟨G, m * 2 + 1, none⟩) hGl).trans (d0.out m hm).2)
              have heq := fun (a b a' b' : Int) (w : World) => run_eqS 9998 a b a' b' w
              have hXm := Lib.hid (hXA.out.after hbm)
              have hbm := Lib.hid hbm
              have hh := (namedB_iff o).1 hnam.out m hm
              have HH := fun W => has_any o.deps (sn o m) (sr o m) W
              rw [hh] at HH
              have HH := Lib.hid HH
              cases hB : eqS (sn o m) (sr o m) 0 0
              all_goals
                go_wp2_with fail
                refine wp_region_quiet_below (by kernel_rfl) (by kernel_rfl) ?_
                repeat (first | (go_big_quiet_want; refine quiet_load_deps _ rfl rfl hXm.out ?_; simp only [Act.put, List.setIfInBounds_toArray, List.set_cons_succ, List.set_cons_zero]; go_big_quiet_on) | go_big_quiet_step (first | (go_at_call 14; exact Calls.ret_regrown (HH.out _))))
                refine wpQuiet_nil ?_
                intro W8 hw8
                have hB8 := (show Below _ _ W8 by obtain ⟨⟨dq, osq⟩, rfl⟩ := hw8; exact below_regrown _ dq osq)
                have hB8 := hbm.out.trans (hB8.mono hbm.out.size)
                clear hw8 e0 e1
                go_wp2
                exact ⟨⟨m + 1, by go_num, by omega, hB8⟩, by simp [intOf]; omega⟩
            · have hm5 : ¬ (m : Int) < 4 := by omega
              obtain rfl : m = 4 := by omega
              have hbm := Lib.hid hbm
              go_wp2
              go_loopw [8, 9] (fun r _ wr => ∃ z : Nat, r = .int .i64 z ∧ z ≤ 8 ∧ Below WA.heap.size WA wr) (fun r _ _ => 8 - (intOf r).toNat)
              case atStart => exact ⟨0, rfl, by omega, hbm.out⟩
              case round =>
                obtain ⟨z, rfl, hz8, hbz⟩ := hrel
                by_cases hz : z < 8
                · have hz5 : (z : Int) < 8 := by omega
                  have hXz := hXA.out.after hbz
                  have cz := hXz.deps hz
                  have hzl := hXz.lt
                  have hF := Lib.hid (fun W h => find_any l2 v2 (o.deps z) z W h (by rw [hl2.out]; omega))
                  have hvz := Lib.hid ((hv2.out.below hBA.out).below hbz)
                  have hbz := Lib.hid hbz
                  have hah : Hid (∀ at' : Int, FindIs l2 (o.deps z) z at' → o.deps z ≠ 0 → 0 ≤ at' ∧ at' < k) := Lib.hid (fun at' h g => by
                    have e := ho.out
                    subst e
                    exact closed_ahead hc.out hso (by rw [hl2.out]; exact hlt) hz g h)
                  have hmo : ∀ {W : World} {e' : Nat} {W' : World}, p < W.heap.size → W.cell? ⟨p, 2 + z, none⟩ = some (.int .i64 (o.deps z)) → Below W.heap.size W W' → e' = 0 → W'.cell? ⟨p, 2 + z, none⟩ = some (.int .i64 (o.deps z)) := fun h1 h2 h3 _ => (h3.cell (p := ⟨p, 2 + z, none⟩) h1).trans h2
                  by_cases hdz : o.deps z = 0
                  · have hdq : (o.deps z != 0) = false := by rw [hdz]; rfl
                    replace hdz := Lib.hid hdz
                    go_wp2_with (go_at_call 15; refine (hF.out _ hvz.out).mono ?_; rintro e w5 ⟨at', rfl, hfi, hb5⟩; have cz5 := hmo hzl cz hb5 (e' := 0) rfl)
                    exact ⟨⟨z + 1, by go_num, by omega, hbz.out.trans (hb5.mono hbz.out.size)⟩, by simp [intOf]; omega⟩
                  · have hdq : (o.deps z != 0) = true := by simp [hdz]
                    replace hdz := Lib.hid hdz
                    go_wp2_with (go_at_call 15; refine (hF.out _ hvz.out).mono ?_; rintro e w5 ⟨at', rfl, hfi, hb5⟩; have cz5 := hmo hzl cz hb5 (e' := 0) rfl; obtain ⟨a1, a2⟩ := hah.out _ hfi hdz.out; have a3 : decide (at' < 0) = false := decide_eq_false (by omega); have a4 : decide ((k : Int) ≤ at') = false := decide_eq_false (by omega))
                    exact ⟨⟨z + 1, by go_num, by omega, hbz.out.trans (hb5.mono hbz.out.size)⟩, by simp [intOf]; omega⟩
                · have hz5 : ¬ (z : Int) < 8 := by omega
                  obtain rfl : z = 8 := by omega
                  have hbz := Lib.hid (hBA.out.trans (hbz.mono hBA.out.size))
                  go_wp2
                  exact ⟨⟨k + 1, by go_num, by omega, hbz.out⟩, by simp [intOf]; omega⟩
      · have hk4 : ¬ (k : Int) < (l.length : Int) := by omega
        go_wp2_with (go_at_call 8; refine (alive_any _).mono ?_; rintro e w4 ⟨rfl, hb4⟩)
        go_ret
        exact ⟨rfl, then_call (hB2.out.trans (hb.mono hB2.out.size)) hb4⟩
theorem opsEarlier_walk (w : World) (v : Value) (l : List OpV) (h : OpsAt w v l ∧ ∀ o ∈ l, o.Fits ∧ o.Wf) : Calls Try.prog 4 #[v] w (Ret (.bool true) w) := opsEarlier_any w v l h.1 h.2
end Go.Proofs.Ytblfjnnmicodgaa
