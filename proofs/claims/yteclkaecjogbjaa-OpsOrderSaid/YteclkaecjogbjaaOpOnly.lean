/-
  An operation without the fields that its kind does not use: the program.
-/
import Derived.Test.YteclkaecjogbjaaOpLaws
namespace Go.Proofs.Yteclkaecjogbjaa
open Go.RowKit Go.Sort

set_option maxHeartbeats 4000000 in
theorem onlyOwn_1 (o : OpV) (w : World) (hk : o.kind = 1) (hq : Hid ((o.kind == 1) = true)) : Calls Try.prog 25 #[.agg (OpC o)] w (Ret (.agg (OpC (ownO o))) w) := by
  obtain ⟨W, hW, hb, hs, hA, hR⟩ := own_boxes w o
  have c0 := hA.c0
  have c1 := hA.c1
  have c10 := hA.c10
  have hown := Lib.hid (ownO_1 hk)
  obtain q1 := hq.out
  clear hq hk
  obtain ⟨h0, W2, hW2, hb2, hA2, hR2, hB2⟩ := own_third w W o hb hs hA hR
  have d10 := hA2.c10
  have d11 := hA2.c11
  have d12 := hA2.c12
  have d13 := hA2.c13
  have d14 := hA2.c14
  have t11 := hB2.c11
  have t12 := hB2.c12
  have t13 := hB2.c13
  have t14 := hB2.c14
  have fz := fun k => hB2.frozen k
  have e0 := hB2.set (x := { baseO o with rn := o.rn }) (k := 11) (v := .int .i64 o.rn) rfl
  have e1 := e0.set (x := { { baseO o with rn := o.rn } with rr := o.rr }) (k := 12) (v := .int .i64 o.rr) rfl
  have e2 := e1.set (x := { { { baseO o with rn := o.rn } with rr := o.rr } with side := o.side }) (k := 13) (v := .int .i64 o.side) rfl
  have e3 := e2.set (x := { { { { baseO o with rn := o.rn } with rr := o.rr } with side := o.side } with ch := o.ch }) (k := 14) (v := .int .i64 o.ch) rfl
  have e4 := e3.drew
  have eR := ((((hR2.setOther (a := ⟨w.heap.size + 2, 11, none⟩) (by simp) (.int .i64 o.rn)).setOther (a := ⟨w.heap.size + 2, 12, none⟩) (by simp) (.int .i64 o.rr)).setOther (a := ⟨w.heap.size + 2, 13, none⟩) (by simp) (.int .i64 o.side)).setOther (a := ⟨w.heap.size + 2, 14, none⟩) (by simp) (.int .i64 o.ch)).drew
  have eB := (below_drew1 ((((hb2.setCell (p := ⟨w.heap.size + 2, 11, none⟩) (by simp) (.int .i64 o.rn)).setCell (p := ⟨w.heap.size + 2, 12, none⟩) (by simp) (.int .i64 o.rr)).setCell (p := ⟨w.heap.size + 2, 13, none⟩) (by simp) (.int .i64 o.side)).setCell (p := ⟨w.heap.size + 2, 14, none⟩) (by simp) (.int .i64 o.ch)))
  rw [← hown.out] at e4
  go_enter Try.func25, Try.ntmps25
  go_wp2_with (first
    | ((with_reducible refine load_deps hA ?_ ?_ ?_); rfl; rfl)
    | ((with_reducible refine store_op (x := baseO o) h0 ?_ ?_ ?_); rfl; rfl; rw [hW2])
    | ((with_reducible refine build_base_op o ?_ ?_ ?_ ?_); rfl; rfl; rfl)
    )
  go_region
  clear d10 d11 d12 d13 d14 t11 t12 t13 t14 fz e0 e1 e2 e3
  obtain ⟨W3, hW3⟩ : ∃ W3, ((((W2.setCell ⟨w.heap.size + 2, 11, none⟩ (.int .i64 o.rn)).setCell ⟨w.heap.size + 2, 12, none⟩ (.int .i64 o.rr)).setCell ⟨w.heap.size + 2, 13, none⟩ (.int .i64 o.side)).setCell ⟨w.heap.size + 2, 14, none⟩ (.int .i64 o.ch)).drew = W3 := ⟨_, rfl⟩
  rw [hW3] at e4 eR eB ⊢
  go_wp2_with (first
    | ((with_reducible refine load_op e4 ?_ ?_ ?_); rfl; rfl)
    | ((with_reducible refine store_op (x := ownO o) eR ?_ ?_ ?_); rfl; rfl)
    )
  refine bodyPost_ret (results_op rfl _ _ _ _ rfl (eR.row _)) rfl ⟨rfl, below_setRow eB (by omega) _⟩

set_option maxHeartbeats 4000000 in
theorem onlyOwn_3 (o : OpV) (w : World) (hk : o.kind = 3) (hq : Hid ((o.kind == 1) = false ∧ (o.kind == 3) = true)) : Calls Try.prog 25 #[.agg (OpC o)] w (Ret (.agg (OpC (ownO o))) w) := by
  obtain ⟨W, hW, hb, hs, hA, hR⟩ := own_boxes w o
  have c0 := hA.c0
  have c1 := hA.c1
  have c10 := hA.c10
  have hown := Lib.hid (ownO_3 hk)
  obtain ⟨q1, q3⟩ := hq.out
  clear hq hk
  obtain ⟨h0, W2, hW2, hb2, hA2, hR2, hB2⟩ := own_third w W o hb hs hA hR
  have d10 := hA2.c10
  have d15 := hA2.c15
  have d16 := hA2.c16
  have d17 := hA2.c17
  have t15 := hB2.c15
  have t16 := hB2.c16
  have t17 := hB2.c17
  have fz := fun k => hB2.frozen k
  have e0 := hB2.set (x := { baseO o with un := o.un }) (k := 15) (v := .int .i64 o.un) rfl
  have e1 := e0.set (x := { { baseO o with un := o.un } with ur := o.ur }) (k := 16) (v := .int .i64 o.ur) rfl
  have e2 := e1.set (x := { { { baseO o with un := o.un } with ur := o.ur } with key := o.key }) (k := 17) (v := .string o.key) rfl
  have e3 := e2.drew
  have a3 := (((hA2.setOther (a := ⟨w.heap.size + 2, 15, none⟩) (by simp) (.int .i64 o.un)).setOther (a := ⟨w.heap.size + 2, 16, none⟩) (by simp) (.int .i64 o.ur)).setOther (a := ⟨w.heap.size + 2, 17, none⟩) (by simp) (.string o.key)).drew
  have r3 := (((hR2.setOther (a := ⟨w.heap.size + 2, 15, none⟩) (by simp) (.int .i64 o.un)).setOther (a := ⟨w.heap.size + 2, 16, none⟩) (by simp) (.int .i64 o.ur)).setOther (a := ⟨w.heap.size + 2, 17, none⟩) (by simp) (.string o.key)).drew
  have b3 := (below_drew1 (((hb2.setCell (p := ⟨w.heap.size + 2, 15, none⟩) (by simp) (.int .i64 o.un)).setCell (p := ⟨w.heap.size + 2, 16, none⟩) (by simp) (.int .i64 o.ur)).setCell (p := ⟨w.heap.size + 2, 17, none⟩) (by simp) (.string o.key)))
  go_enter Try.func25, Try.ntmps25
  go_wp2_with (first
    | ((with_reducible refine load_deps hA ?_ ?_ ?_); rfl; rfl)
    | ((with_reducible refine store_op (x := baseO o) h0 ?_ ?_ ?_); rfl; rfl; rw [hW2])
    | ((with_reducible refine build_base_op o ?_ ?_ ?_ ?_); rfl; rfl; rfl)
    )
  go_region
  clear d10 d15 d16 d17 t15 t16 t17 fz e0 e1 e2
  obtain ⟨W3, hW3⟩ : ∃ W3, (((W2.setCell ⟨w.heap.size + 2, 15, none⟩ (.int .i64 o.un)).setCell ⟨w.heap.size + 2, 16, none⟩ (.int .i64 o.ur)).setCell ⟨w.heap.size + 2, 17, none⟩ (.string o.key)).drew = W3 := ⟨_, rfl⟩
  rw [hW3] at e3 a3 r3 b3 ⊢
  have d11 := a3.c11
  have d12 := a3.c12
  have t11 := e3.c11
  have t12 := e3.c12
  have fz := fun k => e3.frozen k
  have e4 := e3.set (x := { { { { baseO o with un := o.un } with ur := o.ur } with key := o.key } with rn := o.rn }) (k := 11) (v := .int .i64 o.rn) rfl
  have e5 := e4.set (x := { { { { { baseO o with un := o.un } with ur := o.ur } with key := o.key } with rn := o.rn } with rr := o.rr }) (k := 12) (v := .int .i64 o.rr) rfl
  have eR := (r3.setOther (a := ⟨w.heap.size + 2, 11, none⟩) (by simp) (.int .i64 o.rn)).setOther (a := ⟨w.heap.size + 2, 12, none⟩) (by simp) (.int .i64 o.rr)
  have eB := (b3.setCell (p := ⟨w.heap.size + 2, 11, none⟩) (by simp) (.int .i64 o.rn)).setCell (p := ⟨w.heap.size + 2, 12, none⟩) (by simp) (.int .i64 o.rr)
  rw [← hown.out] at e5
  clear hW3
  go_wp2_with (first
    | ((with_reducible refine load_op e5 ?_ ?_ ?_); rfl; rfl)
    | ((with_reducible refine store_op (x := ownO o) eR ?_ ?_ ?_); rfl; rfl)
    )
  refine bodyPost_ret (results_op rfl _ _ _ _ rfl (eR.row _)) rfl ⟨rfl, below_setRow eB (by omega) _⟩

set_option maxHeartbeats 4000000 in
theorem onlyOwn_2 (o : OpV) (w : World) (hk : o.kind = 2) (hq : Hid ((o.kind == 1) = false ∧ (o.kind == 3) = false ∧ (o.kind == 2) = true)) : Calls Try.prog 25 #[.agg (OpC o)] w (Ret (.agg (OpC (ownO o))) w) := by
  obtain ⟨W, hW, hb, hs, hA, hR⟩ := own_boxes w o
  have c0 := hA.c0
  have c1 := hA.c1
  have c10 := hA.c10
  have hown := Lib.hid (ownO_2 hk)
  obtain ⟨q1, q3, q2⟩ := hq.out
  clear hq hk
  obtain ⟨h0, W2, hW2, hb2, hA2, hR2, hB2⟩ := own_third w W o hb hs hA hR
  have d10 := hA2.c10
  have d11 := hA2.c11
  have d12 := hA2.c12
  have t11 := hB2.c11
  have t12 := hB2.c12
  have fz := fun k => hB2.frozen k
  have e0 := hB2.set (x := { baseO o with rn := o.rn }) (k := 11) (v := .int .i64 o.rn) rfl
  have e1 := e0.set (x := { { baseO o with rn := o.rn } with rr := o.rr }) (k := 12) (v := .int .i64 o.rr) rfl
  have eR := ((hR2.setOther (a := ⟨w.heap.size + 2, 11, none⟩) (by simp) (.int .i64 o.rn)).setOther (a := ⟨w.heap.size + 2, 12, none⟩) (by simp) (.int .i64 o.rr))
  have eB := ((hb2.setCell (p := ⟨w.heap.size + 2, 11, none⟩) (by simp) (.int .i64 o.rn)).setCell (p := ⟨w.heap.size + 2, 12, none⟩) (by simp) (.int .i64 o.rr))
  rw [← hown.out] at e1
  go_enter Try.func25, Try.ntmps25
  go_wp2_with (first
    | ((with_reducible refine load_deps hA ?_ ?_ ?_); rfl; rfl)
    | ((with_reducible refine store_op (x := baseO o) h0 ?_ ?_ ?_); rfl; rfl; rw [hW2])
    | ((with_reducible refine build_base_op o ?_ ?_ ?_ ?_); rfl; rfl; rfl)
    | ((with_reducible refine load_op e1 ?_ ?_ ?_); rfl; rfl)
    | ((with_reducible refine store_op (x := ownO o) eR ?_ ?_ ?_); rfl; rfl)
    )
  refine bodyPost_ret (results_op rfl _ _ _ _ rfl (eR.row _)) rfl ⟨rfl, below_setRow eB (by omega) _⟩

set_option maxHeartbeats 4000000 in
theorem onlyOwn_4 (o : OpV) (w : World) (hk : o.kind = 4) (hq : Hid ((o.kind == 1) = false ∧ (o.kind == 3) = false ∧ (o.kind == 2) = false ∧ (o.kind == 4) = true)) : Calls Try.prog 25 #[.agg (OpC o)] w (Ret (.agg (OpC (ownO o))) w) := by
  obtain ⟨W, hW, hb, hs, hA, hR⟩ := own_boxes w o
  have c0 := hA.c0
  have c1 := hA.c1
  have c10 := hA.c10
  have hown := Lib.hid (ownO_4 hk)
  obtain ⟨q1, q3, q2, q4⟩ := hq.out
  clear hq hk
  obtain ⟨h0, W2, hW2, hb2, hA2, hR2, hB2⟩ := own_third w W o hb hs hA hR
  have d10 := hA2.c10
  have d11 := hA2.c11
  have d12 := hA2.c12
  have d18 := hA2.c18
  have d19 := hA2.c19
  have t11 := hB2.c11
  have t12 := hB2.c12
  have t18 := hB2.c18
  have t19 := hB2.c19
  have fz := fun k => hB2.frozen k
  have e0 := hB2.set (x := { baseO o with rn := o.rn }) (k := 11) (v := .int .i64 o.rn) rfl
  have e1 := e0.set (x := { { baseO o with rn := o.rn } with rr := o.rr }) (k := 12) (v := .int .i64 o.rr) rfl
  have e2 := e1.set (x := { { { baseO o with rn := o.rn } with rr := o.rr } with name := o.name }) (k := 18) (v := .string o.name) rfl
  have e3 := e2.set (x := { { { { baseO o with rn := o.rn } with rr := o.rr } with name := o.name } with value := o.value }) (k := 19) (v := .string o.value) rfl
  have e4 := e3.drew
  have eR := ((((hR2.setOther (a := ⟨w.heap.size + 2, 11, none⟩) (by simp) (.int .i64 o.rn)).setOther (a := ⟨w.heap.size + 2, 12, none⟩) (by simp) (.int .i64 o.rr)).setOther (a := ⟨w.heap.size + 2, 18, none⟩) (by simp) (.string o.name)).setOther (a := ⟨w.heap.size + 2, 19, none⟩) (by simp) (.string o.value)).drew
  have eB := (below_drew1 ((((hb2.setCell (p := ⟨w.heap.size + 2, 11, none⟩) (by simp) (.int .i64 o.rn)).setCell (p := ⟨w.heap.size + 2, 12, none⟩) (by simp) (.int .i64 o.rr)).setCell (p := ⟨w.heap.size + 2, 18, none⟩) (by simp) (.string o.name)).setCell (p := ⟨w.heap.size + 2, 19, none⟩) (by simp) (.string o.value)))
  rw [← hown.out] at e4
  go_enter Try.func25, Try.ntmps25
  go_wp2_with (first
    | ((with_reducible refine load_deps hA ?_ ?_ ?_); rfl; rfl)
    | ((with_reducible refine store_op (x := baseO o) h0 ?_ ?_ ?_); rfl; rfl; rw [hW2])
    | ((with_reducible refine build_base_op o ?_ ?_ ?_ ?_); rfl; rfl; rfl)
    )
  go_region
  clear d10 d11 d12 d18 d19 t11 t12 t18 t19 fz e0 e1 e2 e3
  obtain ⟨W3, hW3⟩ : ∃ W3, ((((W2.setCell ⟨w.heap.size + 2, 11, none⟩ (.int .i64 o.rn)).setCell ⟨w.heap.size + 2, 12, none⟩ (.int .i64 o.rr)).setCell ⟨w.heap.size + 2, 18, none⟩ (.string o.name)).setCell ⟨w.heap.size + 2, 19, none⟩ (.string o.value)).drew = W3 := ⟨_, rfl⟩
  rw [hW3] at e4 eR eB ⊢
  go_wp2_with (first
    | ((with_reducible refine load_op e4 ?_ ?_ ?_); rfl; rfl)
    | ((with_reducible refine store_op (x := ownO o) eR ?_ ?_ ?_); rfl; rfl)
    )
  refine bodyPost_ret (results_op rfl _ _ _ _ rfl (eR.row _)) rfl ⟨rfl, below_setRow eB (by omega) _⟩

set_option maxHeartbeats 4000000 in
theorem onlyOwn_5 (o : OpV) (w : World) (hk : o.kind = 5) (hq : Hid ((o.kind == 1) = false ∧ (o.kind == 3) = false ∧ (o.kind == 2) = false ∧ (o.kind == 4) = false ∧ (o.kind == 5) = true)) : Calls Try.prog 25 #[.agg (OpC o)] w (Ret (.agg (OpC (ownO o))) w) := by
  obtain ⟨W, hW, hb, hs, hA, hR⟩ := own_boxes w o
  have c0 := hA.c0
  have c1 := hA.c1
  have c10 := hA.c10
  have hown := Lib.hid (ownO_5 hk)
  obtain ⟨q1, q3, q2, q4, q5⟩ := hq.out
  clear hq hk
  obtain ⟨h0, W2, hW2, hb2, hA2, hR2, hB2⟩ := own_third w W o hb hs hA hR
  have d10 := hA2.c10
  have d18 := hA2.c18
  have d19 := hA2.c19
  have d20 := hA2.c20
  have d21 := hA2.c21
  have d22 := hA2.c22
  have d23 := hA2.c23
  have d24 := hA2.c24
  have d25 := hA2.c25
  have t18 := hB2.c18
  have t19 := hB2.c19
  have t20 := hB2.c20
  have t21 := hB2.c21
  have t22 := hB2.c22
  have t23 := hB2.c23
  have t24 := hB2.c24
  have t25 := hB2.c25
  have fz := fun k => hB2.frozen k
  have e0 := hB2.set (x := { baseO o with fn := o.fn }) (k := 20) (v := .int .i64 o.fn) rfl
  have e1 := e0.set (x := { { baseO o with fn := o.fn } with fr := o.fr }) (k := 21) (v := .int .i64 o.fr) rfl
  have e2 := e1.set (x := { { { baseO o with fn := o.fn } with fr := o.fr } with fa := o.fa }) (k := 22) (v := .bool o.fa) rfl
  have e3 := e2.set (x := { { { { baseO o with fn := o.fn } with fr := o.fr } with fa := o.fa } with tn := o.tn }) (k := 23) (v := .int .i64 o.tn) rfl
  have e4 := e3.set (x := { { { { { baseO o with fn := o.fn } with fr := o.fr } with fa := o.fa } with tn := o.tn } with tr := o.tr }) (k := 24) (v := .int .i64 o.tr) rfl
  have e5 := e4.set (x := { { { { { { baseO o with fn := o.fn } with fr := o.fr } with fa := o.fa } with tn := o.tn } with tr := o.tr } with ta := o.ta }) (k := 25) (v := .bool o.ta) rfl
  have e6 := e5.set (x := { { { { { { { baseO o with fn := o.fn } with fr := o.fr } with fa := o.fa } with tn := o.tn } with tr := o.tr } with ta := o.ta } with name := o.name }) (k := 18) (v := .string o.name) rfl
  have e7 := e6.set (x := { { { { { { { { baseO o with fn := o.fn } with fr := o.fr } with fa := o.fa } with tn := o.tn } with tr := o.tr } with ta := o.ta } with name := o.name } with value := o.value }) (k := 19) (v := .string o.value) rfl
  have e8 := e7.drew
  have eR := ((((((((hR2.setOther (a := ⟨w.heap.size + 2, 20, none⟩) (by simp) (.int .i64 o.fn)).setOther (a := ⟨w.heap.size + 2, 21, none⟩) (by simp) (.int .i64 o.fr)).setOther (a := ⟨w.heap.size + 2, 22, none⟩) (by simp) (.bool o.fa)).setOther (a := ⟨w.heap.size + 2, 23, none⟩) (by simp) (.int .i64 o.tn)).setOther (a := ⟨w.heap.size + 2, 24, none⟩) (by simp) (.int .i64 o.tr)).setOther (a := ⟨w.heap.size + 2, 25, none⟩) (by simp) (.bool o.ta)).setOther (a := ⟨w.heap.size + 2, 18, none⟩) (by simp) (.string o.name)).setOther (a := ⟨w.heap.size + 2, 19, none⟩) (by simp) (.string o.value)).drew
  have eB := (below_drew1 ((((((((hb2.setCell (p := ⟨w.heap.size + 2, 20, none⟩) (by simp) (.int .i64 o.fn)).setCell (p := ⟨w.heap.size + 2, 21, none⟩) (by simp) (.int .i64 o.fr)).setCell (p := ⟨w.heap.size + 2, 22, none⟩) (by simp) (.bool o.fa)).setCell (p := ⟨w.heap.size + 2, 23, none⟩) (by simp) (.int .i64 o.tn)).setCell (p := ⟨w.heap.size + 2, 24, none⟩) (by simp) (.int .i64 o.tr)).setCell (p := ⟨w.heap.size + 2, 25, none⟩) (by simp) (.bool o.ta)).setCell (p := ⟨w.heap.size + 2, 18, none⟩) (by simp) (.string o.name)).setCell (p := ⟨w.heap.size + 2, 19, none⟩) (by simp) (.string o.value)))
  rw [← hown.out] at e8
  go_enter Try.func25, Try.ntmps25
  go_wp2_with (first
    | ((with_reducible refine load_deps hA ?_ ?_ ?_); rfl; rfl)
    | ((with_reducible refine store_op (x := baseO o) h0 ?_ ?_ ?_); rfl; rfl; rw [hW2])
    | ((with_reducible refine build_base_op o ?_ ?_ ?_ ?_); rfl; rfl; rfl)
    )
  go_region
  clear d10 d18 d19 d20 d21 d22 d23 d24 d25 t18 t19 t20 t21 t22 t23 t24 t25 fz e0 e1 e2 e3 e4 e5 e6 e7
  obtain ⟨W3, hW3⟩ : ∃ W3, ((((((((W2.setCell ⟨w.heap.size + 2, 20, none⟩ (.int .i64 o.fn)).setCell ⟨w.heap.size + 2, 21, none⟩ (.int .i64 o.fr)).setCell ⟨w.heap.size + 2, 22, none⟩ (.bool o.fa)).setCell ⟨w.heap.size + 2, 23, none⟩ (.int .i64 o.tn)).setCell ⟨w.heap.size + 2, 24, none⟩ (.int .i64 o.tr)).setCell ⟨w.heap.size + 2, 25, none⟩ (.bool o.ta)).setCell ⟨w.heap.size + 2, 18, none⟩ (.string o.name)).setCell ⟨w.heap.size + 2, 19, none⟩ (.string o.value)).drew = W3 := ⟨_, rfl⟩
  rw [hW3] at e8 eR eB ⊢
  go_wp2_with (first
    | ((with_reducible refine load_op e8 ?_ ?_ ?_); rfl; rfl)
    | ((with_reducible refine store_op (x := ownO o) eR ?_ ?_ ?_); rfl; rfl)
    )
  refine bodyPost_ret (results_op rfl _ _ _ _ rfl (eR.row _)) rfl ⟨rfl, below_setRow eB (by omega) _⟩

set_option maxHeartbeats 4000000 in
theorem onlyOwn_0 (o : OpV) (w : World) (hk : o.kind ≠ 1 ∧ o.kind ≠ 3 ∧ o.kind ≠ 2 ∧ o.kind ≠ 4 ∧ o.kind ≠ 5) (hq : Hid ((o.kind == 1) = false ∧ (o.kind == 3) = false ∧ (o.kind == 2) = false ∧ (o.kind == 4) = false ∧ (o.kind == 5) = false)) : Calls Try.prog 25 #[.agg (OpC o)] w (Ret (.agg (OpC (ownO o))) w) := by
  obtain ⟨W, hW, hb, hs, hA, hR⟩ := own_boxes w o
  have c0 := hA.c0
  have c1 := hA.c1
  have c10 := hA.c10
  have hown := Lib.hid (ownO_0 hk)
  obtain ⟨q1, q3, q2, q4, q5⟩ := hq.out
  clear hq hk
  obtain ⟨h0, W2, hW2, hb2, hA2, hR2, hB2⟩ := own_third w W o hb hs hA hR
  have d10 := hA2.c10
  have fz := fun k => hB2.frozen k
  have eR := hR2
  have eB := hb2
  rw [← hown.out] at hB2
  go_enter Try.func25, Try.ntmps25
  go_wp2_with (first
    | ((with_reducible refine load_deps hA ?_ ?_ ?_); rfl; rfl)
    | ((with_reducible refine store_op (x := baseO o) h0 ?_ ?_ ?_); rfl; rfl; rw [hW2])
    | ((with_reducible refine build_base_op o ?_ ?_ ?_ ?_); rfl; rfl; rfl)
    | ((with_reducible refine load_op hB2 ?_ ?_ ?_); rfl; rfl)
    | ((with_reducible refine store_op (x := ownO o) eR ?_ ?_ ?_); rfl; rfl)
    )
  refine bodyPost_ret (results_op rfl _ _ _ _ rfl (eR.row _)) rfl ⟨rfl, below_setRow eB (by omega) _⟩

theorem onlyOwn_any (o : OpV) (w : World) : Calls Try.prog 25 #[.agg (OpC o)] w (Ret (.agg (OpC (ownO o))) w) := by
  rcases kind_cases o.kind with ⟨hk, hq⟩ | ⟨hk, hq⟩ | ⟨hk, hq⟩ | ⟨hk, hq⟩ | ⟨hk, hq⟩ | ⟨hk, hq⟩
  · exact onlyOwn_1 o w hk hq
  · exact onlyOwn_3 o w hk hq
  · exact onlyOwn_2 o w hk hq
  · exact onlyOwn_4 o w hk hq
  · exact onlyOwn_5 o w hk hq
  · exact onlyOwn_0 o w hk hq
end Go.Proofs.Yteclkaecjogbjaa
