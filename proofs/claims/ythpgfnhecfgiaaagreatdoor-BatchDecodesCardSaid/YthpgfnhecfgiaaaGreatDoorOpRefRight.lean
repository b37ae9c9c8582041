/-
  Whether an operation may be: the document's own answer, by the kind.
-/
import Derived.Test.YthpgfnhecfgiaaaGreatDoorMOpB
namespace Go.Proofs.YthpgfnhecfgiaaaGreatDoor
open Go.RowKit Go.Sort
set_option maxRecDepth 20000

def okK (o : OpV) (k : Nat) : Bool := rightB o.n o.r && decide (∀ j, j < k → 0 ≤ o.deps j ∧ o.deps j < o.n)
theorem okK_zero (o : OpV) : okK o 0 = rightB o.n o.r := by unfold okK; rw [decide_eq_true (fun j hj => absurd hj (by omega)), Bool.and_true]
theorem okK_eight (o : OpV) : okK o 8 = (rightB o.n o.r && depsB o) := by
  unfold okK
  congr 1
  rw [Bool.eq_iff_iff, decide_eq_true_eq, depsB_iff]
theorem okK_false {o : OpV} {k : Nat} (h : okK o k = false) : okK o (k + 1) = false := by
  rw [Bool.eq_false_iff] at *
  intro h'
  apply h
  unfold okK at *
  rw [Bool.and_eq_true, decide_eq_true_eq] at *
  exact ⟨h'.1, fun j hj => h'.2 j (by omega)⟩
theorem okK_bad {o : OpV} {k : Nat} (h : ¬ (0 ≤ o.deps k ∧ o.deps k < o.n)) : okK o (k + 1) = false := by
  rw [Bool.eq_false_iff]
  intro h'
  unfold okK at h'
  rw [Bool.and_eq_true, decide_eq_true_eq] at h'
  exact h (h'.2 k (by omega))
theorem okK_good {o : OpV} {k : Nat} (h' : okK o k = true) (h : 0 ≤ o.deps k ∧ o.deps k < o.n) : okK o (k + 1) = true := by
  unfold okK at *
  rw [Bool.and_eq_true, decide_eq_true_eq] at *
  refine ⟨h'.1, fun j hj => ?_⟩
  rcases Nat.lt_or_ge j k with hlt | hge
  · exact h'.2 j hlt
  · obtain rfl : j = k := by omega
    exact h

theorem own_x (w W : World) (o : OpV) (hb : Below w.heap.size w W) (hA : OpAt W w.heap.size o) : OpAt (W.alloc (.cells #[.int .i64 0, .int .i64 0, .int .i64 0, .int .i64 0, .int .i64 0, .int .i64 0, .int .i64 0, .int .i64 0, .int .i64 0, .int .i64 0, .int .i64 0, .int .i64 0, .int .i64 0, .int .i64 0, .int .i64 0, .int .i64 0, .int .i64 0, .string { data := #[] }, .string { data := #[] }, .string { data := #[] }, .int .i64 0, .int .i64 0, .bool false, .int .i64 0, .int .i64 0, .bool false] 42)) W.heap.size zeroO ∧ ∃ W2, (W.alloc (.cells #[.int .i64 0, .int .i64 0, .int .i64 0, .int .i64 0, .int .i64 0, .int .i64 0, .int .i64 0, .int .i64 0, .int .i64 0, .int .i64 0, .int .i64 0, .int .i64 0, .int .i64 0, .int .i64 0, .int .i64 0, .int .i64 0, .int .i64 0, .string { data := #[] }, .string { data := #[] }, .string { data := #[] }, .int .i64 0, .int .i64 0, .bool false, .int .i64 0, .int .i64 0, .bool false] 42)).setRow W.heap.size (OpC o) = W2 ∧ Below w.heap.size w W2 ∧ OpAt W2 w.heap.size o ∧ OpAt W2 W.heap.size o :=
  ⟨OpAt.new W zeroO, _, rfl, below_setRow (hb.alloc hb.size _) hb.size _, (hA.alloc _).rowOther (by have := hA.lt; omega) _, (OpAt.new W zeroO).row _⟩

theorem chain2 (b v : Bool) : b = false ∨ (b = true ∧ v = false) ∨ (b = true ∧ v = true) := by cases b <;> cases v <;> simp
theorem chain4 (b v x y : Bool) : b = false ∨ (b = true ∧ v = false) ∨ (b = true ∧ v = true ∧ x = false) ∨ (b = true ∧ v = true ∧ x = true ∧ y = false) ∨ (b = true ∧ v = true ∧ x = true ∧ y = true) := by cases b <;> cases v <;> cases x <;> cases y <;> simp
theorem chain5 (b v x y z : Bool) : b = false ∨ (b = true ∧ v = false) ∨ (b = true ∧ v = true ∧ x = false) ∨ (b = true ∧ v = true ∧ x = true ∧ y = false) ∨ (b = true ∧ v = true ∧ x = true ∧ y = true ∧ z = false) ∨ (b = true ∧ v = true ∧ x = true ∧ y = true ∧ z = true) := by cases b <;> cases v <;> cases x <;> cases y <;> cases z <;> simp

theorem refK_1 {o : OpV} (hk : o.kind = 1) : refK o = (namesB o o.rn o.rr true && (o.side == 2 || o.side == 1 && !(zeroS o.rn o.rr)) && chB o.ch) := by unfold refK; rw [if_pos hk]
theorem refK_2 {o : OpV} (hk : o.kind = 2) : refK o = namesB o o.rn o.rr false := by unfold refK; rw [if_neg (by omega), if_pos hk]
theorem refK_3 {o : OpV} (hk : o.kind = 3) : refK o = (namesB o o.rn o.rr false && namesB o o.un o.ur true && !(eqS o.un o.ur o.rn o.rr) && keyB o.key) := by unfold refK; rw [if_neg (by omega), if_neg (by omega), if_pos hk]
theorem refK_4 {o : OpV} (hk : o.kind = 4) : refK o = (namesB o o.rn o.rr false && nameB o.name && valueB o.value) := by unfold refK; rw [if_neg (by omega), if_neg (by omega), if_neg (by omega), if_pos hk]
theorem refK_5 {o : OpV} (hk : o.kind = 5) : refK o = (namesB o o.fn o.fr false && namesB o o.tn o.tr false && nameB o.name && valueB o.value) := by unfold refK; rw [if_neg (by omega), if_neg (by omega), if_neg (by omega), if_neg (by omega), if_pos hk]
theorem refK_0 {o : OpV} (hk : o.kind ≠ 1 ∧ o.kind ≠ 3 ∧ o.kind ≠ 2 ∧ o.kind ≠ 4 ∧ o.kind ≠ 5) : refK o = false := by
  unfold refK
  rw [if_neg hk.1, if_neg hk.2.2.1, if_neg hk.2.1, if_neg hk.2.2.2.1, if_neg hk.2.2.2.2]

theorem move_ways (b v x e y : Bool) : b = false ∨ (b = true ∧ v = false) ∨ (b = true ∧ v = true ∧ x = false) ∨ (b = true ∧ v = true ∧ x = true ∧ e = true) ∨ (b = true ∧ v = true ∧ x = true ∧ e = false ∧ y = false) ∨ (b = true ∧ v = true ∧ x = true ∧ e = false ∧ y = true) := by cases b <;> cases v <;> cases x <;> cases e <;> cases y <;> simp
theorem insert_ways (b v z : Bool) (s c : Int) : b = false ∨ (b = true ∧ v = false) ∨ (b = true ∧ v = true ∧ (s == 2) = false ∧ (((s == 1) = false ∧ Hid ((s == 2 || s == 1 && !z) = false)) ∨ ((s == 1) = true ∧ z = true ∧ Hid ((s == 2 || s == 1 && !z) = false)))) ∨ (b = true ∧ v = true ∧ (((s == 2) = true ∧ Hid ((s == 2 || s == 1 && !z) = true)) ∨ ((s == 2) = false ∧ (s == 1) = true ∧ z = false ∧ Hid ((s == 2 || s == 1 && !z) = true))) ∧
    (((c == 0) = true ∧ Hid (chB c = true)) ∨ ((c == 0) = false ∧ decide (32 ≤ c) = false ∧ Hid (chB c = false)) ∨ ((c == 0) = false ∧ decide (32 ≤ c) = true ∧ decide (c ≤ 126) = false ∧ Hid (chB c = false)) ∨ ((c == 0) = false ∧ decide (32 ≤ c) = true ∧ decide (c ≤ 126) = true ∧ Hid (chB c = true)))) := by
  have hc : (((c == 0) = true ∧ Hid (chB c = true)) ∨ ((c == 0) = false ∧ decide (32 ≤ c) = false ∧ Hid (chB c = false)) ∨ ((c == 0) = false ∧ decide (32 ≤ c) = true ∧ decide (c ≤ 126) = false ∧ Hid (chB c = false)) ∨ ((c == 0) = false ∧ decide (32 ≤ c) = true ∧ decide (c ≤ 126) = true ∧ Hid (chB c = true))) := by
    by_cases h0 : c = 0
    · exact .inl ⟨beq_iff_eq.2 h0, Lib.hid (decide_eq_true (.inl h0))⟩
    · by_cases h1 : 32 ≤ c
      · by_cases h2 : c ≤ 126
        · exact .inr (.inr (.inr ⟨beq_eq_false_iff_ne.2 h0, decide_eq_true h1, decide_eq_true h2, Lib.hid (decide_eq_true (by omega))⟩))
        · exact .inr (.inr (.inl ⟨beq_eq_false_iff_ne.2 h0, decide_eq_true h1, decide_eq_false h2, Lib.hid (decide_eq_false (by omega))⟩))
      · exact .inr (.inl ⟨beq_eq_false_iff_ne.2 h0, decide_eq_false h1, Lib.hid (decide_eq_false (by omega))⟩)
  cases b
  · exact .inl rfl
  cases v
  · exact .inr (.inl ⟨rfl, rfl⟩)
  refine .inr (.inr ?_)
  cases h2 : s == 2
  · cases h1 : s == 1
    · exact .inl ⟨rfl, rfl, rfl, .inl ⟨rfl, Lib.hid rfl⟩⟩
    · cases z
      · exact .inr ⟨rfl, rfl, .inr ⟨rfl, rfl, rfl, Lib.hid rfl⟩, hc⟩
      · exact .inl ⟨rfl, rfl, rfl, .inr ⟨rfl, rfl, Lib.hid rfl⟩⟩
  · exact .inr ⟨rfl, rfl, .inl ⟨rfl, Lib.hid rfl⟩, hc⟩

set_option maxRecDepth 100000 in
set_option maxHeartbeats 8000000 in
theorem refRight_1 (o : OpV) (_ : o.Fits) (w : World) (hk : o.kind = 1) (hq : Hid ((o.kind == 1) = true)) : Calls Tryz.prog 38 #[.agg (OpC o)] w (Ret (.bool (refB o)) w) := by
  obtain ⟨W, hW, hb, hA⟩ := op_box w o
  have k0 := hA.c0
  have k1 := hA.c1
  have hR := Lib.hid (refK_1 hk)
  have hown := Lib.hid (ownO_1 hk)
  obtain q1 := hq.out
  clear hq hk
  have heq := fun (w : World) => run_eqOp (ownO o) o w
  have heqS := fun (a b a' b' : Int) (w : World) => run_eqS 9998 a b a' b' w
  go_enter Tryz.func38, Tryz.ntmps38
  go_wp2_with (go_at_call 61; refine (refRight_any _ _ _).mono ?_; rintro e w1 ⟨rfl, hb1⟩; replace hA := hA.after hb1; replace hb := then_call hb hb1)
  clear hW k0 k1
  replace hA := Lib.hid hA
  replace hb := Lib.hid hb
  go_loopw [3, 4] (fun ok i wr => ∃ k : Nat, k ≤ 8 ∧ i = .int .i64 k ∧ (∃ n, wr = w1.drewN n) ∧ ∃ b, ok = .bool b ∧ Hid (b = okK o k)) (fun _ i _ => 8 - (intOf i).toNat)
  case atStart => exact ⟨0, by omega, rfl, ⟨0, rfl⟩, _, rfl, Lib.hid (okK_zero o).symm⟩
  case round =>
    obtain ⟨k, hk, rfl, ⟨n, rfl⟩, b, rfl, hok⟩ := hrel
    by_cases hlt : k < 8
    · have hd := hA.out.deps hlt
      have hn := hA.out.c0
      have hk0 : (0 : Int) ≤ (k : Int) := by omega
      have hk8 : (k : Int) < 8 := by omega
      cases b with
      | false =>
        have hnext : Hid (false = okK o (k + 1)) := Lib.hid (okK_false hok.out.symm).symm
        go_wp2_with fail
        go_quiet (fail)
        go_wp2
        exact ⟨⟨k + 1, by omega, by go_num, ⟨_, rfl⟩, _, rfl, hnext⟩, by simp [intOf]; omega⟩
      | true =>
        have Hc : (decide (0 ≤ o.deps k) = false ∧ Hid (false = okK o (k + 1))) ∨ (decide (0 ≤ o.deps k) = true ∧ decide (o.deps k < o.n) = false ∧ Hid (false = okK o (k + 1))) ∨ (decide (0 ≤ o.deps k) = true ∧ decide (o.deps k < o.n) = true ∧ Hid (true = okK o (k + 1))) := by
          by_cases g1 : 0 ≤ o.deps k
          · by_cases g2 : o.deps k < o.n
            · exact .inr (.inr ⟨decide_eq_true g1, decide_eq_true g2, Lib.hid (okK_good hok.out.symm ⟨g1, g2⟩).symm⟩)
            · exact .inr (.inl ⟨decide_eq_true g1, decide_eq_false g2, Lib.hid (okK_bad (fun h => g2 h.2)).symm⟩)
          · exact .inl ⟨decide_eq_false g1, Lib.hid (okK_bad (fun h => g1 h.1)).symm⟩
        rcases Hc with ⟨g1, hnext⟩ | ⟨g1, g2, hnext⟩ | ⟨g1, g2, hnext⟩
        all_goals
          go_wp2_with fail
          go_quiet (fail)
          go_wp2
          exact ⟨⟨k + 1, by omega, by go_num, ⟨_, rfl⟩, _, rfl, hnext⟩, by simp [intOf]; omega⟩
    · obtain rfl : k = 8 := by omega
      replace hok := Lib.hid (hok.out.trans (okK_eight o))
      have hA := hA.out.later (below_drewN (Below.refl w1.heap.size w1) n) hA.out.lt
      have hb := below_drewN hb.out n
      obtain ⟨W3, hW3⟩ : ∃ W3, w1.drewN n = W3 := ⟨_, rfl⟩
      rw [hW3] at hA hb ⊢
      clear hW3 hlt
      obtain ⟨h0, W4, hW4, hb4, hA4, hX⟩ := own_x w W3 o hb hA
      have c0 := hA4.c0
      have c1 := hA4.c1
      have c10 := hA4.c10
      have c11 := hA4.c11
      have c12 := hA4.c12
      have c13 := hA4.c13
      have c14 := hA4.c14
      obtain ⟨p, hp⟩ : ∃ p, W3.heap.size = p := ⟨_, rfl⟩
      have hlp : w.heap.size < p := by rw [← hp]; exact hA.lt
      rw [hp] at h0 hW4 hX
      go_wp2_with (first
        | ((with_reducible refine load_op hA ?_ ?_ ?_); rfl; rfl)
        | ((with_reducible refine load_op hA4 ?_ ?_ ?_); rfl; rfl)
        | ((with_reducible refine load_deps hA4 ?_ ?_ ?_); rfl; rfl)
        | ((with_reducible refine store_op (x := o) h0 ?_ ?_ ?_); rfl; rfl; rw [hW4])
        | ((with_reducible refine build_op (x := { { { { baseO o with rn := o.rn } with rr := o.rr } with side := o.side } with ch := o.ch }) ?_ ?_); kernel_rfl; rw [← hown.out])
        | ((with_reducible refine store_op (x := ownO o) hX ?_ ?_ ?_); rfl; rfl; have hX2 := hX.row (ownO o); have hA2 := hA4.rowOther (b' := p) (by omega) (OpC (ownO o)); have hb2 := below_setRow (b := p) hb4 (by omega) (OpC (ownO o)))
        | ((with_reducible refine load_op hX2 ?_ ?_ ?_); rfl; rfl)
        | ((with_reducible refine load_op hA2 ?_ ?_ ?_); rfl; rfl)
        | (go_at_call 62; (with_reducible refine (refNone_any o.rn o.rr _).mono ?_); rintro e w5 ⟨rfl, hb5⟩; obtain ⟨v1, hv1⟩ : ∃ v, zeroS o.rn o.rr = v := ⟨_, rfl⟩; rw [hv1]; replace hv1 := Lib.hid hv1; replace hA4 := hA4.after hb5; replace hX := hX.after hb5; replace c0 := cell_later hb5 c0; replace c1 := cell_later hb5 c1; replace c10 := cell_later hb5 c10; replace c11 := cell_later hb5 c11; replace c12 := cell_later hb5 c12; replace c13 := cell_later hb5 c13; replace c14 := cell_later hb5 c14; replace hb4 := then_call hb4 hb5)
        | (go_at_call 63; (with_reducible refine (names_any o o.rn o.rr true _).mono ?_); rintro e w6 ⟨rfl, hb6⟩; obtain ⟨v2, hv2⟩ : ∃ v, namesB o o.rn o.rr true = v := ⟨_, rfl⟩; rw [hv2]; replace hv2 := Lib.hid hv2; replace hA4 := hA4.after hb6; replace hX := hX.after hb6; replace c0 := cell_later hb6 c0; replace c1 := cell_later hb6 c1; replace c10 := cell_later hb6 c10; replace c11 := cell_later hb6 c11; replace c12 := cell_later hb6 c12; replace c13 := cell_later hb6 c13; replace c14 := cell_later hb6 c14; replace hb4 := then_call hb4 hb6; rcases insert_ways b v2 v1 o.side o.ch with rfl | ⟨rfl, rfl⟩ | ⟨rfl, rfl, g1, ⟨g2, g⟩ | ⟨g2, rfl, g⟩⟩ | ⟨rfl, rfl, ⟨g1, g⟩ | ⟨g1, g2, rfl, g⟩, ⟨j1, j⟩ | ⟨j1, j2, j⟩ | ⟨j1, j2, j3, j⟩ | ⟨j1, j2, j3, j⟩⟩)
        )
      all_goals
        go_ret
        exact ⟨ret_bool (by unfold refB; rw [← hok.out, hR.out, hv1.out, hv2.out]; first | (simp; done) | (rw [g.out]; simp; done) | (rw [g.out, j.out]; simp)), hb2⟩

set_option maxRecDepth 100000 in
set_option maxHeartbeats 8000000 in
theorem refRight_2 (o : OpV) (_ : o.Fits) (w : World) (hk : o.kind = 2) (hq : Hid ((o.kind == 1) = false ∧ (o.kind == 2) = true)) : Calls Tryz.prog 38 #[.agg (OpC o)] w (Ret (.bool (refB o)) w) := by
  obtain ⟨W, hW, hb, hA⟩ := op_box w o
  have k0 := hA.c0
  have k1 := hA.c1
  have hR := Lib.hid (refK_2 hk)
  have hown := Lib.hid (ownO_2 hk)
  obtain ⟨q1, q2⟩ := hq.out
  clear hq hk
  have heq := fun (w : World) => run_eqOp (ownO o) o w
  have heqS := fun (a b a' b' : Int) (w : World) => run_eqS 9998 a b a' b' w
  go_enter Tryz.func38, Tryz.ntmps38
  go_wp2_with (go_at_call 61; refine (refRight_any _ _ _).mono ?_; rintro e w1 ⟨rfl, hb1⟩; replace hA := hA.after hb1; replace hb := then_call hb hb1)
  clear hW k0 k1
  replace hA := Lib.hid hA
  replace hb := Lib.hid hb
  go_loopw [3, 4] (fun ok i wr => ∃ k : Nat, k ≤ 8 ∧ i = .int .i64 k ∧ (∃ n, wr = w1.drewN n) ∧ ∃ b, ok = .bool b ∧ Hid (b = okK o k)) (fun _ i _ => 8 - (intOf i).toNat)
  case atStart => exact ⟨0, by omega, rfl, ⟨0, rfl⟩, _, rfl, Lib.hid (okK_zero o).symm⟩
  case round =>
    obtain ⟨k, hk, rfl, ⟨n, rfl⟩, b, rfl, hok⟩ := hrel
    by_cases hlt : k < 8
    · have hd := hA.out.deps hlt
      have hn := hA.out.c0
      have hk0 : (0 : Int) ≤ (k : Int) := by omega
      have hk8 : (k : Int) < 8 := by omega
      cases b with
      | false =>
        have hnext : Hid (false = okK o (k + 1)) := Lib.hid (okK_false hok.out.symm).symm
        go_wp2_with fail
        go_quiet (fail)
        go_wp2
        exact ⟨⟨k + 1, by omega, by go_num, ⟨_, rfl⟩, _, rfl, hnext⟩, by simp [intOf]; omega⟩
      | true =>
        have Hc : (decide (0 ≤ o.deps k) = false ∧ Hid (false = okK o (k + 1))) ∨ (decide (0 ≤ o.deps k) = true ∧ decide (o.deps k < o.n) = false ∧ Hid (false = okK o (k + 1))) ∨ (decide (0 ≤ o.deps k) = true ∧ decide (o.deps k < o.n) = true ∧ Hid (true = okK o (k + 1))) := by
          by_cases g1 : 0 ≤ o.deps k
          · by_cases g2 : o.deps k < o.n
            · exact .inr (.inr ⟨decide_eq_true g1, decide_eq_true g2, Lib.hid (okK_good hok.out.symm ⟨g1, g2⟩).symm⟩)
            · exact .inr (.inl ⟨decide_eq_true g1, decide_eq_false g2, Lib.hid (okK_bad (fun h => g2 h.2)).symm⟩)
          · exact .inl ⟨decide_eq_false g1, Lib.hid (okK_bad (fun h => g1 h.1)).symm⟩
        rcases Hc with ⟨g1, hnext⟩ | ⟨g1, g2, hnext⟩ | ⟨g1, g2, hnext⟩
        all_goals
          go_wp2_with fail
          go_quiet (fail)
          go_wp2
          exact ⟨⟨k + 1, by omega, by go_num, ⟨_, rfl⟩, _, rfl, hnext⟩, by simp [intOf]; omega⟩
    · obtain rfl : k = 8 := by omega
      replace hok := Lib.hid (hok.out.trans (okK_eight o))
      have hA := hA.out.later (below_drewN (Below.refl w1.heap.size w1) n) hA.out.lt
      have hb := below_drewN hb.out n
      obtain ⟨W3, hW3⟩ : ∃ W3, w1.drewN n = W3 := ⟨_, rfl⟩
      rw [hW3] at hA hb ⊢
      clear hW3 hlt
      obtain ⟨h0, W4, hW4, hb4, hA4, hX⟩ := own_x w W3 o hb hA
      have c0 := hA4.c0
      have c1 := hA4.c1
      have c10 := hA4.c10
      have c11 := hA4.c11
      have c12 := hA4.c12
      obtain ⟨p, hp⟩ : ∃ p, W3.heap.size = p := ⟨_, rfl⟩
      have hlp : w.heap.size < p := by rw [← hp]; exact hA.lt
      rw [hp] at h0 hW4 hX
      go_wp2_with (first
        | ((with_reducible refine load_op hA ?_ ?_ ?_); rfl; rfl)
        | ((with_reducible refine load_op hA4 ?_ ?_ ?_); rfl; rfl)
        | ((with_reducible refine load_deps hA4 ?_ ?_ ?_); rfl; rfl)
        | ((with_reducible refine store_op (x := o) h0 ?_ ?_ ?_); rfl; rfl; rw [hW4])
        | ((with_reducible refine build_op (x := { { baseO o with rn := o.rn } with rr := o.rr }) ?_ ?_); kernel_rfl; rw [← hown.out])
        | ((with_reducible refine store_op (x := ownO o) hX ?_ ?_ ?_); rfl; rfl; have hX2 := hX.row (ownO o); have hA2 := hA4.rowOther (b' := p) (by omega) (OpC (ownO o)); have hb2 := below_setRow (b := p) hb4 (by omega) (OpC (ownO o)))
        | ((with_reducible refine load_op hX2 ?_ ?_ ?_); rfl; rfl)
        | ((with_reducible refine load_op hA2 ?_ ?_ ?_); rfl; rfl)
        | (go_at_call 63; (with_reducible refine (names_any o o.rn o.rr false _).mono ?_); rintro e w5 ⟨rfl, hb5⟩; obtain ⟨v1, hv1⟩ : ∃ v, namesB o o.rn o.rr false = v := ⟨_, rfl⟩; rw [hv1]; replace hv1 := Lib.hid hv1; replace hA4 := hA4.after hb5; replace hX := hX.after hb5; replace c0 := cell_later hb5 c0; replace c1 := cell_later hb5 c1; replace c10 := cell_later hb5 c10; replace c11 := cell_later hb5 c11; replace c12 := cell_later hb5 c12; replace hb4 := then_call hb4 hb5; rcases chain2 b v1 with rfl | ⟨rfl, rfl⟩ | ⟨rfl, rfl⟩)
        )
      all_goals
        go_ret
        exact ⟨ret_bool (by unfold refB; rw [← hok.out, hR.out, hv1.out]; simp), hb2⟩

set_option maxRecDepth 100000 in
set_option maxHeartbeats 8000000 in
theorem refRight_3 (o : OpV) (ho : o.Fits) (w : World) (hk : o.kind = 3) (hq : Hid ((o.kind == 1) = false ∧ (o.kind == 2) = false ∧ (o.kind == 3) = true)) : Calls Tryz.prog 38 #[.agg (OpC o)] w (Ret (.bool (refB o)) w) := by
  obtain ⟨W, hW, hb, hA⟩ := op_box w o
  have k0 := hA.c0
  have k1 := hA.c1
  have hR := Lib.hid (refK_3 hk)
  have hown := Lib.hid (ownO_3 hk)
  obtain ⟨q1, q2, q3⟩ := hq.out
  clear hq hk
  have heq := fun (w : World) => run_eqOp (ownO o) o w
  have heqS := fun (a b a' b' : Int) (w : World) => run_eqS 9998 a b a' b' w
  go_enter Tryz.func38, Tryz.ntmps38
  go_wp2_with (go_at_call 61; refine (refRight_any _ _ _).mono ?_; rintro e w1 ⟨rfl, hb1⟩; replace hA := hA.after hb1; replace hb := then_call hb hb1)
  clear hW k0 k1
  replace hA := Lib.hid hA
  replace hb := Lib.hid hb
  go_loopw [3, 4] (fun ok i wr => ∃ k : Nat, k ≤ 8 ∧ i = .int .i64 k ∧ (∃ n, wr = w1.drewN n) ∧ ∃ b, ok = .bool b ∧ Hid (b = okK o k)) (fun _ i _ => 8 - (intOf i).toNat)
  case atStart => exact ⟨0, by omega, rfl, ⟨0, rfl⟩, _, rfl, Lib.hid (okK_zero o).symm⟩
  case round =>
    obtain ⟨k, hk, rfl, ⟨n, rfl⟩, b, rfl, hok⟩ := hrel
    by_cases hlt : k < 8
    · have hd := hA.out.deps hlt
      have hn := hA.out.c0
      have hk0 : (0 : Int) ≤ (k : Int) := by omega
      have hk8 : (k : Int) < 8 := by omega
      cases b with
      | false =>
        have hnext : Hid (false = okK o (k + 1)) := Lib.hid (okK_false hok.out.symm).symm
        go_wp2_with fail
        go_quiet (fail)
        go_wp2
        exact ⟨⟨k + 1, by omega, by go_num, ⟨_, rfl⟩, _, rfl, hnext⟩, by simp [intOf]; omega⟩
      | true =>
        have Hc : (decide (0 ≤ o.deps k) = false ∧ Hid (false = okK o (k + 1))) ∨ (decide (0 ≤ o.deps k) = true ∧ decide (o.deps k < o.n) = false ∧ Hid (false = okK o (k + 1))) ∨ (decide (0 ≤ o.deps k) = true ∧ decide (o.deps k < o.n) = true ∧ Hid (true = okK o (k + 1))) := by
          by_cases g1 : 0 ≤ o.deps k
          · by_cases g2 : o.deps k < o.n
            · exact .inr (.inr ⟨decide_eq_true g1, decide_eq_true g2, Lib.hid (okK_good hok.out.symm ⟨g1, g2⟩).symm⟩)
            · exact .inr (.inl ⟨decide_eq_true g1, decide_eq_false g2, Lib.hid (okK_bad (fun h => g2 h.2)).symm⟩)
          · exact .inl ⟨decide_eq_false g1, Lib.hid (okK_bad (fun h => g1 h.1)).symm⟩
        rcases Hc with ⟨g1, hnext⟩ | ⟨g1, g2, hnext⟩ | ⟨g1, g2, hnext⟩
        all_goals
          go_wp2_with fail
          go_quiet (fail)
          go_wp2
          exact ⟨⟨k + 1, by omega, by go_num, ⟨_, rfl⟩, _, rfl, hnext⟩, by simp [intOf]; omega⟩
    · obtain rfl : k = 8 := by omega
      replace hok := Lib.hid (hok.out.trans (okK_eight o))
      have hA := hA.out.later (below_drewN (Below.refl w1.heap.size w1) n) hA.out.lt
      have hb := below_drewN hb.out n
      obtain ⟨W3, hW3⟩ : ∃ W3, w1.drewN n = W3 := ⟨_, rfl⟩
      rw [hW3] at hA hb ⊢
      clear hW3 hlt
      obtain ⟨h0, W4, hW4, hb4, hA4, hX⟩ := own_x w W3 o hb hA
      have c0 := hA4.c0
      have c1 := hA4.c1
      have c10 := hA4.c10
      have c11 := hA4.c11
      have c12 := hA4.c12
      have c15 := hA4.c15
      have c16 := hA4.c16
      have c17 := hA4.c17
      obtain ⟨p, hp⟩ : ∃ p, W3.heap.size = p := ⟨_, rfl⟩
      have hlp : w.heap.size < p := by rw [← hp]; exact hA.lt
      rw [hp] at h0 hW4 hX
      go_wp2_with (first
        | ((with_reducible refine load_op hA ?_ ?_ ?_); rfl; rfl)
        | ((with_reducible refine load_op hA4 ?_ ?_ ?_); rfl; rfl)
        | ((with_reducible refine load_deps hA4 ?_ ?_ ?_); rfl; rfl)
        | ((with_reducible refine store_op (x := o) h0 ?_ ?_ ?_); rfl; rfl; rw [hW4])
        | ((with_reducible refine build_op (x := { { { { { baseO o with un := o.un } with ur := o.ur } with key := o.key } with rn := o.rn } with rr := o.rr }) ?_ ?_); kernel_rfl; rw [← hown.out])
        | ((with_reducible refine store_op (x := ownO o) hX ?_ ?_ ?_); rfl; rfl; have hX2 := hX.row (ownO o); have hA2 := hA4.rowOther (b' := p) (by omega) (OpC (ownO o)); have hb2 := below_setRow (b := p) hb4 (by omega) (OpC (ownO o)))
        | ((with_reducible refine load_op hX2 ?_ ?_ ?_); rfl; rfl)
        | ((with_reducible refine load_op hA2 ?_ ?_ ?_); rfl; rfl)
        | (go_at_call 63; (with_reducible refine (names_any o o.rn o.rr false _).mono ?_); rintro e w5 ⟨rfl, hb5⟩; obtain ⟨v1, hv1⟩ : ∃ v, namesB o o.rn o.rr false = v := ⟨_, rfl⟩; rw [hv1]; replace hv1 := Lib.hid hv1; replace hA4 := hA4.after hb5; replace hX := hX.after hb5; replace c0 := cell_later hb5 c0; replace c1 := cell_later hb5 c1; replace c10 := cell_later hb5 c10; replace c11 := cell_later hb5 c11; replace c12 := cell_later hb5 c12; replace c15 := cell_later hb5 c15; replace c16 := cell_later hb5 c16; replace c17 := cell_later hb5 c17; replace hb4 := then_call hb4 hb5)
        | (go_at_call 63; (with_reducible refine (names_any o o.un o.ur true _).mono ?_); rintro e w6 ⟨rfl, hb6⟩; obtain ⟨v2, hv2⟩ : ∃ v, namesB o o.un o.ur true = v := ⟨_, rfl⟩; rw [hv2]; replace hv2 := Lib.hid hv2; replace hA4 := hA4.after hb6; replace hX := hX.after hb6; replace c0 := cell_later hb6 c0; replace c1 := cell_later hb6 c1; replace c10 := cell_later hb6 c10; replace c11 := cell_later hb6 c11; replace c12 := cell_later hb6 c12; replace c15 := cell_later hb6 c15; replace c16 := cell_later hb6 c16; replace c17 := cell_later hb6 c17; replace hb4 := then_call hb4 hb6)
        | (go_at_call 64; (with_reducible refine (key_any o.key _ ho.key).mono ?_); rintro e w7 ⟨rfl, rfl⟩; obtain ⟨v3, hv3⟩ : ∃ v, keyB o.key = v := ⟨_, rfl⟩; rw [hv3]; replace hv3 := Lib.hid hv3; skip; rcases move_ways b v1 v2 (eqS o.un o.ur o.rn o.rr) v3 with rfl | ⟨rfl, rfl⟩ | ⟨rfl, rfl, rfl⟩ | ⟨rfl, rfl, rfl, g⟩ | ⟨rfl, rfl, rfl, g, rfl⟩ | ⟨rfl, rfl, rfl, g, rfl⟩)
        )
      all_goals
        go_ret
        exact ⟨ret_bool (by unfold refB; rw [← hok.out, hR.out, hv1.out, hv2.out, hv3.out]; first | (simp; done) | (rw [g]; simp)), hb2⟩

set_option maxRecDepth 100000 in
set_option maxHeartbeats 8000000 in
theorem refRight_4 (o : OpV) (ho : o.Fits) (w : World) (hk : o.kind = 4) (hq : Hid ((o.kind == 1) = false ∧ (o.kind == 2) = false ∧ (o.kind == 3) = false ∧ (o.kind == 4) = true)) : Calls Tryz.prog 38 #[.agg (OpC o)] w (Ret (.bool (refB o)) w) := by
  obtain ⟨W, hW, hb, hA⟩ := op_box w o
  have k0 := hA.c0
  have k1 := hA.c1
  have hR := Lib.hid (refK_4 hk)
  have hown := Lib.hid (ownO_4 hk)
  obtain ⟨q1, q2, q3, q4⟩ := hq.out
  clear hq hk
  have heq := fun (w : World) => run_eqOp (ownO o) o w
  have heqS := fun (a b a' b' : Int) (w : World) => run_eqS 9998 a b a' b' w
  go_enter Tryz.func38, Tryz.ntmps38
  go_wp2_with (go_at_call 61; refine (refRight_any _ _ _).mono ?_; rintro e w1 ⟨rfl, hb1⟩; replace hA := hA.after hb1; replace hb := then_call hb hb1)
  clear hW k0 k1
  replace hA := Lib.hid hA
  replace hb := Lib.hid hb
  go_loopw [3, 4] (fun ok i wr => ∃ k : Nat, k ≤ 8 ∧ i = .int .i64 k ∧ (∃ n, wr = w1.drewN n) ∧ ∃ b, ok = .bool b ∧ Hid (b = okK o k)) (fun _ i _ => 8 - (intOf i).toNat)
  case atStart => exact ⟨0, by omega, rfl, ⟨0, rfl⟩, _, rfl, Lib.hid (okK_zero o).symm⟩
  case round =>
    obtain ⟨k, hk, rfl, ⟨n, rfl⟩, b, rfl, hok⟩ := hrel
    by_cases hlt : k < 8
    · have hd := hA.out.deps hlt
      have hn := hA.out.c0
      have hk0 : (0 : Int) ≤ (k : Int) := by omega
      have hk8 : (k : Int) < 8 := by omega
      cases b with
      | false =>
        have hnext : Hid (false = okK o (k + 1)) := Lib.hid (okK_false hok.out.symm).symm
        go_wp2_with fail
        go_quiet (fail)
        go_wp2
        exact ⟨⟨k + 1, by omega, by go_num, ⟨_, rfl⟩, _, rfl, hnext⟩, by simp [intOf]; omega⟩
      | true =>
        have Hc : (decide (0 ≤ o.deps k) = false ∧ Hid (false = okK o (k + 1))) ∨ (decide (0 ≤ o.deps k) = true ∧ decide (o.deps k < o.n) = false ∧ Hid (false = okK o (k + 1))) ∨ (decide (0 ≤ o.deps k) = true ∧ decide (o.deps k < o.n) = true ∧ Hid (true = okK o (k + 1))) := by
          by_cases g1 : 0 ≤ o.deps k
          · by_cases g2 : o.deps k < o.n
            · exact .inr (.inr ⟨decide_eq_true g1, decide_eq_true g2, Lib.hid (okK_good hok.out.symm ⟨g1, g2⟩).symm⟩)
            · exact .inr (.inl ⟨decide_eq_true g1, decide_eq_false g2, Lib.hid (okK_bad (fun h => g2 h.2)).symm⟩)
          · exact .inl ⟨decide_eq_false g1, Lib.hid (okK_bad (fun h => g1 h.1)).symm⟩
        rcases Hc with ⟨g1, hnext⟩ | ⟨g1, g2, hnext⟩ | ⟨g1, g2, hnext⟩
        all_goals
          go_wp2_with fail
          go_quiet (fail)
          go_wp2
          exact ⟨⟨k + 1, by omega, by go_num, ⟨_, rfl⟩, _, rfl, hnext⟩, by simp [intOf]; omega⟩
    · obtain rfl : k = 8 := by omega
      replace hok := Lib.hid (hok.out.trans (okK_eight o))
      have hA := hA.out.later (below_drewN (Below.refl w1.heap.size w1) n) hA.out.lt
      have hb := below_drewN hb.out n
      obtain ⟨W3, hW3⟩ : ∃ W3, w1.drewN n = W3 := ⟨_, rfl⟩
      rw [hW3] at hA hb ⊢
      clear hW3 hlt
      obtain ⟨h0, W4, hW4, hb4, hA4, hX⟩ := own_x w W3 o hb hA
      have c0 := hA4.c0
      have c1 := hA4.c1
      have c10 := hA4.c10
      have c11 := hA4.c11
      have c12 := hA4.c12
      have c18 := hA4.c18
      have c19 := hA4.c19
      obtain ⟨p, hp⟩ : ∃ p, W3.heap.size = p := ⟨_, rfl⟩
      have hlp : w.heap.size < p := by rw [← hp]; exact hA.lt
      rw [hp] at h0 hW4 hX
      go_wp2_with (first
        | ((with_reducible refine load_op hA ?_ ?_ ?_); rfl; rfl)
        | ((with_reducible refine load_op hA4 ?_ ?_ ?_); rfl; rfl)
        | ((with_reducible refine load_deps hA4 ?_ ?_ ?_); rfl; rfl)
        | ((with_reducible refine store_op (x := o) h0 ?_ ?_ ?_); rfl; rfl; rw [hW4])
        | ((with_reducible refine build_op (x := { { { { baseO o with rn := o.rn } with rr := o.rr } with name := o.name } with value := o.value }) ?_ ?_); kernel_rfl; rw [← hown.out])
        | ((with_reducible refine store_op (x := ownO o) hX ?_ ?_ ?_); rfl; rfl; have hX2 := hX.row (ownO o); have hA2 := hA4.rowOther (b' := p) (by omega) (OpC (ownO o)); have hb2 := below_setRow (b := p) hb4 (by omega) (OpC (ownO o)))
        | ((with_reducible refine load_op hX2 ?_ ?_ ?_); rfl; rfl)
        | ((with_reducible refine load_op hA2 ?_ ?_ ?_); rfl; rfl)
        | (go_at_call 63; (with_reducible refine (names_any o o.rn o.rr false _).mono ?_); rintro e w5 ⟨rfl, hb5⟩; obtain ⟨v1, hv1⟩ : ∃ v, namesB o o.rn o.rr false = v := ⟨_, rfl⟩; rw [hv1]; replace hv1 := Lib.hid hv1; replace hA4 := hA4.after hb5; replace hX := hX.after hb5; replace c0 := cell_later hb5 c0; replace c1 := cell_later hb5 c1; replace c10 := cell_later hb5 c10; replace c11 := cell_later hb5 c11; replace c12 := cell_later hb5 c12; replace c18 := cell_later hb5 c18; replace c19 := cell_later hb5 c19; replace hb4 := then_call hb4 hb5)
        | (go_at_call 65; (with_reducible refine (word_any o.name _ ho.name).mono ?_); rintro e w6 ⟨rfl, rfl⟩; obtain ⟨v2, hv2⟩ : ∃ v, nameB o.name = v := ⟨_, rfl⟩; rw [hv2]; replace hv2 := Lib.hid hv2; skip)
        | (go_at_call 66; (with_reducible refine (refValue_any o.value _ ho.value).mono ?_); rintro e w7 ⟨rfl, rfl⟩; obtain ⟨v3, hv3⟩ : ∃ v, valueB o.value = v := ⟨_, rfl⟩; rw [hv3]; replace hv3 := Lib.hid hv3; skip; rcases chain4 b v1 v2 v3 with rfl | ⟨rfl, rfl⟩ | ⟨rfl, rfl, rfl⟩ | ⟨rfl, rfl, rfl, rfl⟩ | ⟨rfl, rfl, rfl, rfl⟩)
        )
      all_goals
        go_ret
        exact ⟨ret_bool (by unfold refB; rw [← hok.out, hR.out, hv1.out, hv2.out, hv3.out]; simp), hb2⟩

set_option maxRecDepth 100000 in
set_option maxHeartbeats 8000000 in
theorem refRight_5 (o : OpV) (ho : o.Fits) (w : World) (hk : o.kind = 5) (hq : Hid ((o.kind == 1) = false ∧ (o.kind == 2) = false ∧ (o.kind == 3) = false ∧ (o.kind == 4) = false ∧ (o.kind == 5) = true)) : Calls Tryz.prog 38 #[.agg (OpC o)] w (Ret (.bool (refB o)) w) := by
  obtain ⟨W, hW, hb, hA⟩ := op_box w o
  have k0 := hA.c0
  have k1 := hA.c1
  have hR := Lib.hid (refK_5 hk)
  have hown := Lib.hid (ownO_5 hk)
  obtain ⟨q1, q2, q3, q4, q5⟩ := hq.out
  clear hq hk
  have heq := fun (w : World) => run_eqOp (ownO o) o w
  have heqS := fun (a b a' b' : Int) (w : World) => run_eqS 9998 a b a' b' w
  go_enter Tryz.func38, Tryz.ntmps38
  go_wp2_with (go_at_call 61; refine (refRight_any _ _ _).mono ?_; rintro e w1 ⟨rfl, hb1⟩; replace hA := hA.after hb1; replace hb := then_call hb hb1)
  clear hW k0 k1
  replace hA := Lib.hid hA
  replace hb := Lib.hid hb
  go_loopw [3, 4] (fun ok i wr => ∃ k : Nat, k ≤ 8 ∧ i = .int .i64 k ∧ (∃ n, wr = w1.drewN n) ∧ ∃ b, ok = .bool b ∧ Hid (b = okK o k)) (fun _ i _ => 8 - (intOf i).toNat)
  case atStart => exact ⟨0, by omega, rfl, ⟨0, rfl⟩, _, rfl, Lib.hid (okK_zero o).symm⟩
  case round =>
    obtain ⟨k, hk, rfl, ⟨n, rfl⟩, b, rfl, hok⟩ := hrel
    by_cases hlt : k < 8
    · have hd := hA.out.deps hlt
      have hn := hA.out.c0
      have hk0 : (0 : Int) ≤ (k : Int) := by omega
      have hk8 : (k : Int) < 8 := by omega
      cases b with
      | false =>
        have hnext : Hid (false = okK o (k + 1)) := Lib.hid (okK_false hok.out.symm).symm
        go_wp2_with fail
        go_quiet (fail)
        go_wp2
        exact ⟨⟨k + 1, by omega, by go_num, ⟨_, rfl⟩, _, rfl, hnext⟩, by simp [intOf]; omega⟩
      | true =>
        have Hc : (decide (0 ≤ o.deps k) = false ∧ Hid (false = okK o (k + 1))) ∨ (decide (0 ≤ o.deps k) = true ∧ decide (o.deps k < o.n) = false ∧ Hid (false = okK o (k + 1))) ∨ (decide (0 ≤ o.deps k) = true ∧ decide (o.deps k < o.n) = true ∧ Hid (true = okK o (k + 1))) := by
          by_cases g1 : 0 ≤ o.deps k
          · by_cases g2 : o.deps k < o.n
            · exact .inr (.inr ⟨decide_eq_true g1, decide_eq_true g2, Lib.hid (okK_good hok.out.symm ⟨g1, g2⟩).symm⟩)
            · exact .inr (.inl ⟨decide_eq_true g1, decide_eq_false g2, Lib.hid (okK_bad (fun h => g2 h.2)).symm⟩)
          · exact .inl ⟨decide_eq_false g1, Lib.hid (okK_bad (fun h => g1 h.1)).symm⟩
        rcases Hc with ⟨g1, hnext⟩ | ⟨g1, g2, hnext⟩ | ⟨g1, g2, hnext⟩
        all_goals
          go_wp2_with fail
          go_quiet (fail)
          go_wp2
          exact ⟨⟨k + 1, by omega, by go_num, ⟨_, rfl⟩, _, rfl, hnext⟩, by simp [intOf]; omega⟩
    · obtain rfl : k = 8 := by omega
      replace hok := Lib.hid (hok.out.trans (okK_eight o))
      have hA := hA.out.later (below_drewN (Below.refl w1.heap.size w1) n) hA.out.lt
      have hb := below_drewN hb.out n
      obtain ⟨W3, hW3⟩ : ∃ W3, w1.drewN n = W3 := ⟨_, rfl⟩
      rw [hW3] at hA hb ⊢
      clear hW3 hlt
      obtain ⟨h0, W4, hW4, hb4, hA4, hX⟩ := own_x w W3 o hb hA
      have c0 := hA4.c0
      have c1 := hA4.c1
      have c10 := hA4.c10
      have c18 := hA4.c18
      have c19 := hA4.c19
      have c20 := hA4.c20
      have c21 := hA4.c21
      have c22 := hA4.c22
      have c23 := hA4.c23
      have c24 := hA4.c24
      have c25 := hA4.c25
      obtain ⟨p, hp⟩ : ∃ p, W3.heap.size = p := ⟨_, rfl⟩
      have hlp : w.heap.size < p := by rw [← hp]; exact hA.lt
      rw [hp] at h0 hW4 hX
      go_wp2_with (first
        | ((with_reducible refine load_op hA ?_ ?_ ?_); rfl; rfl)
        | ((with_reducible refine load_op hA4 ?_ ?_ ?_); rfl; rfl)
        | ((with_reducible refine load_deps hA4 ?_ ?_ ?_); rfl; rfl)
        | ((with_reducible refine store_op (x := o) h0 ?_ ?_ ?_); rfl; rfl; rw [hW4])
        | ((with_reducible refine build_op (x := { { { { { { { { baseO o with fn := o.fn } with fr := o.fr } with fa := o.fa } with tn := o.tn } with tr := o.tr } with ta := o.ta } with name := o.name } with value := o.value }) ?_ ?_); kernel_rfl; rw [← hown.out])
        | ((with_reducible refine store_op (x := ownO o) hX ?_ ?_ ?_); rfl; rfl; have hX2 := hX.row (ownO o); have hA2 := hA4.rowOther (b' := p) (by omega) (OpC (ownO o)); have hb2 := below_setRow (b := p) hb4 (by omega) (OpC (ownO o)))
        | ((with_reducible refine load_op hX2 ?_ ?_ ?_); rfl; rfl)
        | ((with_reducible refine load_op hA2 ?_ ?_ ?_); rfl; rfl)
        | (go_at_call 63; (with_reducible refine (names_any o o.fn o.fr false _).mono ?_); rintro e w5 ⟨rfl, hb5⟩; obtain ⟨v1, hv1⟩ : ∃ v, namesB o o.fn o.fr false = v := ⟨_, rfl⟩; rw [hv1]; replace hv1 := Lib.hid hv1; replace hA4 := hA4.after hb5; replace hX := hX.after hb5; replace c0 := cell_later hb5 c0; replace c1 := cell_later hb5 c1; replace c10 := cell_later hb5 c10; replace c18 := cell_later hb5 c18; replace c19 := cell_later hb5 c19; replace c20 := cell_later hb5 c20; replace c21 := cell_later hb5 c21; replace c22 := cell_later hb5 c22; replace c23 := cell_later hb5 c23; replace c24 := cell_later hb5 c24; replace c25 := cell_later hb5 c25; replace hb4 := then_call hb4 hb5)
        | (go_at_call 63; (with_reducible refine (names_any o o.tn o.tr false _).mono ?_); rintro e w6 ⟨rfl, hb6⟩; obtain ⟨v2, hv2⟩ : ∃ v, namesB o o.tn o.tr false = v := ⟨_, rfl⟩; rw [hv2]; replace hv2 := Lib.hid hv2; replace hA4 := hA4.after hb6; replace hX := hX.after hb6; replace c0 := cell_later hb6 c0; replace c1 := cell_later hb6 c1; replace c10 := cell_later hb6 c10; replace c18 := cell_later hb6 c18; replace c19 := cell_later hb6 c19; replace c20 := cell_later hb6 c20; replace c21 := cell_later hb6 c21; replace c22 := cell_later hb6 c22; replace c23 := cell_later hb6 c23; replace c24 := cell_later hb6 c24; replace c25 := cell_later hb6 c25; replace hb4 := then_call hb4 hb6)
        | (go_at_call 65; (with_reducible refine (word_any o.name _ ho.name).mono ?_); rintro e w7 ⟨rfl, rfl⟩; obtain ⟨v3, hv3⟩ : ∃ v, nameB o.name = v := ⟨_, rfl⟩; rw [hv3]; replace hv3 := Lib.hid hv3; skip)
        | (go_at_call 66; (with_reducible refine (refValue_any o.value _ ho.value).mono ?_); rintro e w8 ⟨rfl, rfl⟩; obtain ⟨v4, hv4⟩ : ∃ v, valueB o.value = v := ⟨_, rfl⟩; rw [hv4]; replace hv4 := Lib.hid hv4; skip; rcases chain5 b v1 v2 v3 v4 with rfl | ⟨rfl, rfl⟩ | ⟨rfl, rfl, rfl⟩ | ⟨rfl, rfl, rfl, rfl⟩ | ⟨rfl, rfl, rfl, rfl, rfl⟩ | ⟨rfl, rfl, rfl, rfl, rfl⟩)
        )
      all_goals
        go_ret
        exact ⟨ret_bool (by unfold refB; rw [← hok.out, hR.out, hv1.out, hv2.out, hv3.out, hv4.out]; simp), hb2⟩

set_option maxRecDepth 100000 in
set_option maxHeartbeats 8000000 in
theorem refRight_0 (o : OpV) (_ : o.Fits) (w : World) (hk : o.kind ≠ 1 ∧ o.kind ≠ 3 ∧ o.kind ≠ 2 ∧ o.kind ≠ 4 ∧ o.kind ≠ 5) (hq : Hid ((o.kind == 1) = false ∧ (o.kind == 2) = false ∧ (o.kind == 3) = false ∧ (o.kind == 4) = false ∧ (o.kind == 5) = false)) : Calls Tryz.prog 38 #[.agg (OpC o)] w (Ret (.bool (refB o)) w) := by
  obtain ⟨W, hW, hb, hA⟩ := op_box w o
  have k0 := hA.c0
  have k1 := hA.c1
  have hR := Lib.hid (refK_0 hk)
  obtain ⟨q1, q2, q3, q4, q5⟩ := hq.out
  clear hq hk
  have heq := fun (w : World) => run_eqOp (ownO o) o w
  have heqS := fun (a b a' b' : Int) (w : World) => run_eqS 9998 a b a' b' w
  go_enter Tryz.func38, Tryz.ntmps38
  go_wp2_with (go_at_call 61; refine (refRight_any _ _ _).mono ?_; rintro e w1 ⟨rfl, hb1⟩; replace hA := hA.after hb1; replace hb := then_call hb hb1)
  clear hW k0 k1
  replace hA := Lib.hid hA
  replace hb := Lib.hid hb
  go_loopw [3, 4] (fun ok i wr => ∃ k : Nat, k ≤ 8 ∧ i = .int .i64 k ∧ (∃ n, wr = w1.drewN n) ∧ ∃ b, ok = .bool b ∧ Hid (b = okK o k)) (fun _ i _ => 8 - (intOf i).toNat)
  case atStart => exact ⟨0, by omega, rfl, ⟨0, rfl⟩, _, rfl, Lib.hid (okK_zero o).symm⟩
  case round =>
    obtain ⟨k, hk, rfl, ⟨n, rfl⟩, b, rfl, hok⟩ := hrel
    by_cases hlt : k < 8
    · have hd := hA.out.deps hlt
      have hn := hA.out.c0
      have hk0 : (0 : Int) ≤ (k : Int) := by omega
      have hk8 : (k : Int) < 8 := by omega
      cases b with
      | false =>
        have hnext : Hid (false = okK o (k + 1)) := Lib.hid (okK_false hok.out.symm).symm
        go_wp2_with fail
        go_quiet (fail)
        go_wp2
        exact ⟨⟨k + 1, by omega, by go_num, ⟨_, rfl⟩, _, rfl, hnext⟩, by simp [intOf]; omega⟩
      | true =>
        have Hc : (decide (0 ≤ o.deps k) = false ∧ Hid (false = okK o (k + 1))) ∨ (decide (0 ≤ o.deps k) = true ∧ decide (o.deps k < o.n) = false ∧ Hid (false = okK o (k + 1))) ∨ (decide (0 ≤ o.deps k) = true ∧ decide (o.deps k < o.n) = true ∧ Hid (true = okK o (k + 1))) := by
          by_cases g1 : 0 ≤ o.deps k
          · by_cases g2 : o.deps k < o.n
            · exact .inr (.inr ⟨decide_eq_true g1, decide_eq_true g2, Lib.hid (okK_good hok.out.symm ⟨g1, g2⟩).symm⟩)
            · exact .inr (.inl ⟨decide_eq_true g1, decide_eq_false g2, Lib.hid (okK_bad (fun h => g2 h.2)).symm⟩)
          · exact .inl ⟨decide_eq_false g1, Lib.hid (okK_bad (fun h => g1 h.1)).symm⟩
        rcases Hc with ⟨g1, hnext⟩ | ⟨g1, g2, hnext⟩ | ⟨g1, g2, hnext⟩
        all_goals
          go_wp2_with fail
          go_quiet (fail)
          go_wp2
          exact ⟨⟨k + 1, by omega, by go_num, ⟨_, rfl⟩, _, rfl, hnext⟩, by simp [intOf]; omega⟩
    · obtain rfl : k = 8 := by omega
      replace hok := Lib.hid (hok.out.trans (okK_eight o))
      have hA := hA.out.later (below_drewN (Below.refl w1.heap.size w1) n) hA.out.lt
      have hb := below_drewN hb.out n
      obtain ⟨W3, hW3⟩ : ∃ W3, w1.drewN n = W3 := ⟨_, rfl⟩
      rw [hW3] at hA hb ⊢
      clear hW3 hlt
      obtain ⟨h0, W4, hW4, hb4, hA4, hX⟩ := own_x w W3 o hb hA
      have c10 := hA4.c10
      obtain ⟨p, hp⟩ : ∃ p, W3.heap.size = p := ⟨_, rfl⟩
      clear hp
      go_wp2_with (first
        | ((with_reducible refine load_op hA ?_ ?_ ?_); rfl; rfl)
        | ((with_reducible refine store_op (x := o) h0 ?_ ?_ ?_); rfl; rfl; rw [hW4]))
      go_ret
      exact ⟨ret_bool (by unfold refB; rw [hR.out]; simp), hb4⟩

/-- Whether an operation may be, by the document's own answer. -/
theorem refOpRight_any (o : OpV) (ho : o.Fits) (w : World) : Calls Tryz.prog 38 #[.agg (OpC o)] w (Ret (.bool (opB o)) w) := by
  rw [← refB_opB]
  rcases kind_cases o.kind with ⟨hk, hq⟩ | ⟨hk, hq⟩ | ⟨hk, hq⟩ | ⟨hk, hq⟩ | ⟨hk, hq⟩ | ⟨hk, hq⟩
  · exact refRight_1 o ho w hk hq
  · exact refRight_3 o ho w hk (Lib.hid ⟨hq.out.1, by rw [hk]; rfl, hq.out.2⟩)
  · exact refRight_2 o ho w hk (Lib.hid ⟨hq.out.1, hq.out.2.2⟩)
  · exact refRight_4 o ho w hk (Lib.hid ⟨hq.out.1, hq.out.2.2.1, hq.out.2.1, hq.out.2.2.2⟩)
  · exact refRight_5 o ho w hk (Lib.hid ⟨hq.out.1, hq.out.2.2.1, hq.out.2.1, hq.out.2.2.2.1, hq.out.2.2.2.2⟩)
  · exact refRight_0 o ho w hk (Lib.hid ⟨hq.out.1, hq.out.2.2.1, hq.out.2.1, hq.out.2.2.2.1, hq.out.2.2.2.2⟩)
end Go.Proofs.YthpgfnhecfgiaaaGreatDoor
