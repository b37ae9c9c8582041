/-
  Order is of stamps alone: the law.
-/
import Derived.Test.YteclkaecjogbjaaSoTurn
namespace Go.Proofs.Yteclkaecjogbjaa
open Go.RowKit Go.Sort

section
variable {k : Nat} {w : World} {v : Value} {xs : List (List Value)}
/-- The elements from there on. -/
theorem RowsAt.from_ (h : RowsAt k w v xs) {P : Program} {t e : TypeId} (ht : P.underlying t = some (.slice e)) (hs : ∀ W, (sizeOf e).run P W = .ok k W) {m : Nat} (hm : m ≤ xs.length) :
    ∃ v', (∀ W, (Instr.slice t v (some (.int .i64 (m : Int))) none none).run P W = .ok v' W) ∧ RowsAt k w v' (xs.drop m) := by
  obtain ⟨A, c, rfl, h2, h3, h4, h5, h6⟩ := h
  have he : P.elem t = e := by simp [Program.elem, ht]
  refine ⟨sliced A m xs.length c k, fun W => ?_, ?_⟩
  · rw [run_slice_l (P := P) W t A xs.length c (by rw [he]; exact ht) .i64 (m : Int) (by omega) (by omega), he, hs]
    simp [Result.andThen]
  · refine ⟨if c = m then A else A.map (·.add (m * k)), c - m, by rw [sliced, List.length_drop], by rw [List.length_drop]; omega, by unfold maxLen at *; omega, fun x hx => h4 x (List.mem_of_mem_drop hx), fun hl => ?_, fun hn => ?_⟩
    · rw [List.length_drop] at hl
      obtain ⟨b, off, rfl, h8, h9⟩ := h5 (by omega)
      rw [if_neg (by omega)]
      refine ⟨b, off + m * k, by simp [addr_at], h8, fun i x hx => ?_⟩
      rw [List.getElem?_drop] at hx
      rw [Nat.add_assoc, ← Nat.add_mul]
      exact h9 _ x hx
    · split at hn
      · omega
      · have := h6 (by cases A <;> simp_all)
        omega
end

theorem OpsAt.from_ {w : World} {v : Value} {l : List OpV} (h : OpsAt w v l) {m : Nat} (hm : m ≤ l.length) :
    ∃ v', (∀ W, (Instr.slice 34 v (some (.int .i64 (m : Int))) none none).run Try.prog W = .ok v' W) ∧ OpsAt w v' (l.drop m) := by
  obtain ⟨v', a, b⟩ := RowsAt.from_ (P := Try.prog) h elemO.ht elemO.hs (m := m) (by simpa using hm)
  exact ⟨v', a, by unfold OpsAt; rw [List.map_drop]; exact b⟩
theorem OpsAt.upto {w : World} {v : Value} {l : List OpV} (h : OpsAt w v l) {m : Nat} (hm : m ≤ l.length) :
    ∃ v', (∀ W, (Instr.slice 34 v none (some (.int .i64 (m : Int))) none).run Try.prog W = .ok v' W) ∧ OpsAt w v' (l.take m) := by
  obtain ⟨v', a, b, _⟩ := RowsAt.upto (P := Try.prog) h elemO.ht elemO.hs (m := m) (by simpa using hm)
  exact ⟨v', a, by unfold OpsAt; rw [List.map_take]; exact b⟩
theorem wf_i64 {n : Int} (h : (Lit.int .i64 n).wf = true) : -9223372036854775808 ≤ n ∧ n ≤ 9223372036854775807 := by
  have h1 : IntKind.i64.min = -9223372036854775808 := rfl
  have h2 : IntKind.i64.max = 9223372036854775807 := rfl
  simp only [Lit.wf, Bool.and_eq_true, decide_eq_true_eq] at h
  omega
/-- The first two numbers of an operation in a row. -/
def RegCells (w : World) (g f : Nat) (n r : Int) : Prop := w.cell? ⟨g, f, none⟩ = some (.int .i64 n) ∧ w.cell? ⟨g, f + 1, none⟩ = some (.int .i64 r)
theorem cntO_le (l : List OpV) (x : OpV) : cntO l x ≤ l.length := List.countP_le_length

theorem neighbours {W0 : World} {v2 : Value} {l l2 : List OpV} (hv : OpsAt W0 v2 l2) (hso : SortOf l l2) (a : Nat) (hlt : a < l2.length) {x : OpV} (hx : lst l2 a = x) :
    (¬ (0 : Int) < (a : Int)) ∨ ((0 : Int) < (a : Int) ∧ ∃ (q : OpV) (g f g' f' : Nat) (c : Int), (∀ W, (Instr.indexAt 34 v2 (.int .i64 ((a : Int) - 1))).run Try.prog W = .ok (.pointer (some ⟨g, f, none⟩)) W) ∧ (∀ W, (Instr.indexAt 34 v2 (.int .i64 (a : Int))).run Try.prog W = .ok (.pointer (some ⟨g', f', none⟩)) W) ∧ RegCells W0 g f q.n q.r ∧ RegCells W0 g' f' x.n x.r ∧ (∀ W, Calls Try.prog 18 #[.agg #[.int .i64 q.n, .int .i64 q.r], .agg #[.int .i64 x.n, .int .i64 x.r]] W (Ret (.int .i64 c) W)) ∧ c ≤ 0) := by
  rcases Nat.eq_zero_or_pos a with h | h
  · left; omega
  · right
    have ha1 : a - 1 < l2.length := by omega
    obtain ⟨g, f, hi, he, hg⟩ := hv.index (lst_at (l := l2) (t := a - 1) ha1)
    obtain ⟨g', f', hi', he', hg'⟩ := hv.index (lst_at (l := l2) (t := a) hlt)
    rw [hx] at he'
    refine ⟨by omega, lst l2 (a - 1), g, f, g', f', _, ?_, hi', ⟨he 0 _ rfl, he 1 _ rfl⟩, ⟨he' 0 _ rfl, he' 1 _ rfl⟩, fun W => refCompare_any _ _ _ _ W, ?_⟩
    · rw [show (a : Int) - 1 = ((a - 1 : Nat) : Int) by omega]; exact hi
    · have := hso.rises (t := a - 1) (u := a) (by omega) hlt
      unfold Pc at this
      rw [hx] at this
      unfold cmpS
      split
      · omega
      · split
        · omega
        · split
          · omega
          · split <;> omega

theorem opsSl : Try.prog.underlying 34 = some (.slice (Try.prog.elem 34)) := by
  have he : Try.prog.elem 34 = 31 := by simp [Program.elem, Try.underlying34]
  rw [he]; exact Try.underlying34
theorem run_cut_from (ρ : Operand → Value) (t t' : Tmp) (v v' : Value) (k : Nat) (h : ρ (.tmp t) = v) (h' : ρ (.tmp t') = .int .i64 (k : Int)) (hx : ∀ W, (Instr.slice 34 v (some (.int .i64 (k : Int))) none none).run Try.prog W = .ok v' W) (d : Option Tmp) (ty : TypeId) (pos : String) (after : Array Edge) (w : World) : (execOp ρ { dst := d, op := .slice 34 (.tmp t) (some (.tmp t')) none none, type := ty, pos := pos, after := after, guard := none }).run Try.prog w = .ok (.value v') w := by
  unfold execOp
  simp only [h, h', Option.map_some, Option.map_none, run_sliceAt_slice (P := Try.prog) (w := w) 34 _ _ _ _ opsSl, hx, Result.andThen, Sem.run_bind, Sem.run_pure]
theorem run_cut_upto (ρ : Operand → Value) (t t' : Tmp) (v v' : Value) (k : Nat) (h : ρ (.tmp t) = v) (h' : ρ (.tmp t') = .int .i64 (k : Int)) (hx : ∀ W, (Instr.slice 34 v none (some (.int .i64 (k : Int))) none).run Try.prog W = .ok v' W) (d : Option Tmp) (ty : TypeId) (pos : String) (after : Array Edge) (w : World) : (execOp ρ { dst := d, op := .slice 34 (.tmp t) none (some (.tmp t')) none, type := ty, pos := pos, after := after, guard := none }).run Try.prog w = .ok (.value v') w := by
  unfold execOp
  simp only [h, h', Option.map_some, Option.map_none, run_sliceAt_slice (P := Try.prog) (w := w) 34 _ _ _ _ opsSl, hx, Result.andThen, Sem.run_bind, Sem.run_pure]

set_option maxRecDepth 20000 in
set_option maxHeartbeats 25600000 in
theorem opsOrder_any (w : World) (v : Value) (l : List OpV) (f : Int) (hv : OpsAt w v l) (hl : ∀ o ∈ l, o.Fits ∧ o.Wf) (hf1 : -9223372036854775808 ≤ f) (hf2 : f ≤ 9223372036854775807) : Calls Try.prog 5 #[v, .int .i64 f] w (Ret (.bool true) w) := by
  have hll := fun W => hv.len 3 W
  have hle := hv.le
  by_cases h60 : (l.length : Int) > 60
  · go_enter Try.func5, Try.ntmps5
    go_wp2_with (go_at_call 8; refine (alive_any _).mono ?_; rintro e w2 ⟨rfl, hb2⟩)
    go_ret
    exact ⟨rfl, hb2⟩
  by_cases h0 : l.length = 0
  · have q1 : decide (60 < (l.length : Int)) = false := decide_eq_false h60
    have q2 : ((l.length : Int) == 0) = true := by simp [h0]
    clear h0
    go_enter Try.func5, Try.ntmps5
    go_wp2_with (go_at_call 8; refine (alive_any _).mono ?_; rintro e w2 ⟨rfl, hb2⟩)
    go_ret
    exact ⟨rfl, hb2⟩
  have q1 : decide (60 < (l.length : Int)) = false := decide_eq_false h60
  have q2 : ((l.length : Int) == 0) = false := by rw [beq_eq_false_iff_ne]; omega
  have hlen : l.length ≤ 60 := by omega
  have hpos : 0 < l.length := by omega
  have hnz : (l.length : Int) ≠ 0 := by omega
  obtain ⟨fr, hfr0, hfr1, hfr⟩ : ∃ fr : Int, 0 ≤ fr ∧ fr ≤ 9223372036854775807 ∧ fr = if f < 0 then -(f + 1) else f := ⟨if f < 0 then -(f + 1) else f, by split <;> omega, by split <;> omega, rfl⟩
  obtain ⟨k, hk⟩ : ∃ k : Nat, fr % (l.length : Int) = (k : Int) := ⟨(fr % (l.length : Int)).toNat, by have := Int.emod_nonneg fr hnz; omega⟩
  have hkl : k < l.length := by have := Int.emod_lt_of_pos fr (show (0 : Int) < (l.length : Int) by omega); omega
  have hkt : fr.tmod (l.length : Int) = (k : Int) := by rw [Int.tmod_eq_emod_of_nonneg hfr0]; exact hk
  have HS := Lib.hid (fun W h => sort_any l hlen v W h)
  have hfr := Lib.hid hfr
  have hk := Lib.hid hk
  rcases Int.lt_or_le f 0 with hneg | hneg
  all_goals
    have hfr2 := hfr.out
    first
      | (rw [if_pos hneg] at hfr2; have hdf : decide (f < 0) = true := decide_eq_true hneg; have hkt : -((f + 1).tmod (l.length : Int)) = (k : Int) := by rw [← hkt, hfr2, Int.neg_tmod])
      | (rw [if_neg (by omega)] at hfr2; have hdf : decide (f < 0) = false := decide_eq_false (by omega); have hkt : f.tmod (l.length : Int) = (k : Int) := by rw [← hkt, hfr2])
    clear hfr2 hfr hk
    go_enter Try.func5, Try.ntmps5
    go_wp2_with fail
    obtain ⟨va, hxa, hra⟩ := hv.from_ (m := k) (by omega)
    obtain ⟨vb, hxb, hrb⟩ := hv.upto (m := k) (by omega)
    have hl1 : ((([] : List (List Value)).length) + ((l.drop k).map opL).length) * 4096 ≤ 140737488355328 := by simp; omega
    have hl2 : ((([] : List (List Value)) ++ (l.drop k).map opL).length + ((l.take k).map opL).length) * 4096 ≤ 140737488355328 := by simp; omega
    refine wp_region_held_drew (S := fun X => True) (by kernel_rfl) trivial (fun hH => ?_)
    refine wpAnyH_take (i := 1) (oi := ⟨some 30, .move (.tmp 0), _, _, _, none⟩) (v := v) rfl (by decide +kernel) (by decide +kernel) (by decide +kernel) (fun _ _ _ h => h) (.inl ⟨rfl, fun w _ => rfl⟩) hH ?_
    simp only [Act.put, List.setIfInBounds_toArray, List.set_cons_succ, List.set_cons_zero]
    refine wpAnyH_take (i := 2) (oi := ⟨some 31, .move (.tmp 1), _, _, _, none⟩) (v := .int .i64 (k : Int)) rfl (by decide +kernel) (by decide +kernel) (by decide +kernel) (fun _ _ _ h => h) (.inl ⟨rfl, fun w _ => rfl⟩) hH ?_
    simp only [Act.put, List.setIfInBounds_toArray, List.set_cons_succ, List.set_cons_zero]
    refine wpAnyH_take (i := 3) (oi := ⟨some 32, .slice 34 (.tmp 30) (some (.tmp 31)) none none, _, _, _, none⟩) (v := va) rfl (by decide +kernel) (by decide +kernel) (by decide +kernel) (fun _ _ _ h => h) (.inl ⟨rfl, fun w _ => run_cut_from _ 30 31 v va k rfl rfl hxa _ _ _ _ w⟩) hH ?_
    simp only [Act.put, List.setIfInBounds_toArray, List.set_cons_succ, List.set_cons_zero]
    refine wpAnyH_take (i := 5) (oi := ⟨some 34, .move (.tmp 0), _, _, _, none⟩) (v := v) rfl (by decide +kernel) (by decide +kernel) (by decide +kernel) (fun _ _ _ h => h) (.inl ⟨rfl, fun w _ => rfl⟩) hH ?_
    simp only [Act.put, List.setIfInBounds_toArray, List.set_cons_succ, List.set_cons_zero]
    refine wpAnyH_take (i := 6) (oi := ⟨some 35, .move (.tmp 1), _, _, _, none⟩) (v := .int .i64 (k : Int)) rfl (by decide +kernel) (by decide +kernel) (by decide +kernel) (fun _ _ _ h => h) (.inl ⟨rfl, fun w _ => rfl⟩) hH ?_
    simp only [Act.put, List.setIfInBounds_toArray, List.set_cons_succ, List.set_cons_zero]
    refine wpAnyH_take (i := 7) (oi := ⟨some 36, .slice 34 (.tmp 34) none (some (.tmp 35)) none, _, _, _, none⟩) (v := vb) rfl (by decide +kernel) (by decide +kernel) (by decide +kernel) (fun _ _ _ h => h) (.inl ⟨rfl, fun w _ => run_cut_upto _ 34 35 v vb k rfl rfl hxb _ _ _ _ w⟩) hH ?_
    simp only [Act.put, List.setIfInBounds_toArray, List.set_cons_succ, List.set_cons_zero]
    refine wpAnyH_ready (rs := [0]) (by decide +kernel) (by simp) (AllReadyH.cons (o := ⟨some 29, .buildSlice 34 0 #[], _, _, _, none⟩) rfl (fun K hK => ?_) AllReadyH.nil)
    refine step_bs0 w.heap.size (Nat.le_refl _) ?_
    intro X0 hO hs0 hb0
    replace hs0 : X0.heap.size = w.heap.size + 1 := hs0
    refine hK.out _ _ trivial (fun hH0 => ?_)
    clear hK K
    simp only [Act.put, List.setIfInBounds_toArray, List.set_cons_succ, List.set_cons_zero]
    have hra0 : RowsAt 26 X0 va ((l.drop k).map opL) := RowsAt.below (w := w.drew) hra hb0
    refine wpAnyH_ready (rs := [4]) (by decide +kernel) (by simp) (AllReadyH.cons (o := ⟨some 33, .call { callee := .builtin .append, args := #[.tmp 29, .tmp 32], argTypes := #[34, 34] }, _, _, _, none⟩) rfl (fun K hK => ?_) AllReadyH.nil)
    refine step_append_rows0 (base := w.heap.size) elemO rfl (.tmp 29) (.tmp 32) rfl rfl hO rfl hra0 (ops_one _) hl1 (by omega) ?_
    intro A1 m1 c1 X1 hO1 ht1 hbl1
    refine hK.out _ _ trivial (fun hH1 => ?_)
    clear hK K
    simp only [Act.put, List.setIfInBounds_toArray, List.set_cons_succ, List.set_cons_zero]
    have hb01 : Below w.heap.size w X1 := (below_drew1 (Below.refl w.heap.size w)).trans (hb0.trans hbl1)
    have hrb1 : RowsAt 26 X1 vb ((l.take k).map opL) := RowsAt.below (w := w) hrb hb01
    refine wpAnyH_ready (rs := [8]) (by decide +kernel) (by simp) (AllReadyH.cons (o := ⟨some 37, .call { callee := .builtin .append, args := #[.tmp 33, .tmp 36], argTypes := #[34, 34] }, _, _, _, none⟩) rfl (fun K hK => ?_) AllReadyH.nil)
    refine step_append_rows0 (base := w.heap.size) elemO rfl (.tmp 33) (.tmp 36) rfl rfl hO1 rfl hrb1 (ops_one _) hl2 (by have := hb01.size; omega) ?_
    intro A2 m2 c2 XF hOF ht2 hbl2
    refine hK.out _ _ trivial (fun hHF => ?_)
    clear hK K
    simp only [Act.put, List.setIfInBounds_toArray, List.set_cons_succ, List.set_cons_zero]
    have hBF : Below w.heap.size w XF := hb01.trans hbl2
    refine wpAnyH_take (i := 9) (oi := ⟨some 5, .assign (.tmp 37), _, _, _, none⟩) (v := .slice A2 m2 c2) rfl (by decide +kernel) (by decide +kernel) (by decide +kernel) (fun _ _ _ h => h) (.inl ⟨rfl, fun w _ => rfl⟩) hHF ?_
    simp only [Act.put, List.setIfInBounds_toArray, List.set_cons_succ, List.set_cons_zero]
    refine wpAnyH_done (by decide +kernel) ?_ _
    have hm : OpsAt XF (.slice A2 m2 c2) (l.drop k ++ l.take k) := by
      have := hOF.rows
      rw [List.nil_append, ← List.map_append] at this
      exact this
    clear hOF hO hO1 hs0 hb0 hra hra0 hrb hrb1 ht1 ht2 hbl1 hbl2 hb01 hxa hxb hH hH0 hH1 hHF hl1 hl2
    obtain ⟨mv, hmv⟩ : ∃ mv, Value.slice A2 m2 c2 = mv := ⟨_, rfl⟩
    rw [hmv] at hm ⊢
    obtain ⟨T, hT⟩ : ∃ T, l.drop k ++ l.take k = T := ⟨_, rfl⟩
    have hTp : T.Perm l := by rw [← hT]; exact turned_perm l k
    rw [hT] at hm
    have hTl : T.length = l.length := hTp.length_eq
    have HC1 := fun W (h : OpsAt W mv T) => closed_any T (fun o ho => hl o (hTp.mem_iff.1 ho)) mv W h (by omega)
    rw [closedB_perm hTp] at HC1
    have HM1 := fun W (h : OpsAt W mv T) => opsMost_any T mv W h
    rw [mostL_perm hTp] at HM1
    have HC2 := fun W (h : OpsAt W v l) => closed_any l hl v W h (by omega)
    have HM2 := fun W (h : OpsAt W v l) => opsMost_any l v W h
    obtain ⟨cl, hcl⟩ : ∃ cl, closedB l = cl := ⟨_, rfl⟩
    obtain ⟨mo, hmo⟩ : ∃ mo, mostL l = mo := ⟨_, rfl⟩
    rw [hcl] at HC1 HC2
    rw [hmo] at HM1 HM2
    have HC1 := Lib.hid HC1
    have HM1 := Lib.hid HM1
    have HC2 := Lib.hid HC2
    have HM2 := Lib.hid HM2
    have hcc : (cl != cl) = false := by cases cl <;> rfl
    have heq := fun (x y : Nat → Int) (w : World) => run_eqVec x y w
    have hself := fun x => (eqV_iff x x).2 fun _ _ => rfl
    have hne : ((l.length : Int) != (l.length : Int)) = false := by simp
    have hv := Lib.hid hv
    have hm := Lib.hid hm
    have hlg := Lib.hid hl
    clear hl hTp hT hcl hmo hmv hTl
    go_wp2_with (first
      | (go_at_call 12; refine (HS2.out _ hv2.out).mono ?_; rintro e w2 ⟨v3, l3, rfl, hv3, hso3, hb2⟩; have hB2 := Lib.hid (then_call hB1.out hb2); rw [hso.out.again hso3] at hv3; have hv3 := Lib.hid hv3; have hv22 := Lib.hid (hv2.out.below hb2); have hmB2 := Lib.hid (hmB.out.below hb2); clear hso3 hb2)
      | (go_at_call 12; refine (HS.out _ (hv.out.below hBF)).mono ?_; rintro e w1 ⟨v2, l2, rfl, hv2, hso, hb1⟩; have hl2 := hso.length; have hll2 := fun W => hv2.len 3 W; rw [hl2] at hll2; have hv2 := Lib.hid hv2; have HS2 := Lib.hid (fun W h => sort_any l2 (by rw [hl2]; exact hlen) v2 W h); have hso := Lib.hid hso; have hB1 := Lib.hid (then_call hBF hb1); have hmB := Lib.hid (hm.out.below hb1))
      | (go_at_call 16; refine (same_any l2 v3 v2 _ hv3.out hv22.out (by rw [hl2]; omega)).mono ?_; rintro e w3 ⟨rfl, hb3⟩; have hB3 := Lib.hid (then_call hB2.out hb3); have hmB3 := Lib.hid (hmB2.out.below hb3); have hv23 := Lib.hid (hv22.out.below hb3); clear hb3)
      | (go_at_call 11; refine (HC2.out _ (hv.out.below hB4.out)).mono ?_; rintro e w5 ⟨rfl, hb5⟩; have hB5 := Lib.hid (then_call hB4.out hb5); have hmB5 := Lib.hid (hmB4.out.below hb5); have hv25 := Lib.hid (hv24.out.below hb5); clear hb5)
      | (go_at_call 11; refine (HC1.out _ hmB3.out).mono ?_; rintro e w4 ⟨rfl, hb4⟩; have hB4 := Lib.hid (then_call hB3.out hb4); have hmB4 := Lib.hid (hmB3.out.below hb4); have hv24 := Lib.hid (hv23.out.below hb4); clear hb4)
      | (go_at_call 17; refine (HM2.out _ (hv.out.below hB6.out)).mono ?_; rintro e w7 ⟨rfl, hb7⟩; have hB7 := Lib.hid (then_call hB6.out hb7); have hv27 := Lib.hid (hv26.out.below hb7); clear hb7)
      | (go_at_call 17; refine (HM1.out _ hmB5.out).mono ?_; rintro e w6 ⟨rfl, hb6⟩; have hB6 := Lib.hid (then_call hB5.out hb6); have hv26 := Lib.hid (hv25.out.below hb6); clear hb6))
    clear HS HS2 HC1 HC2 HM1 HM2 hcc heq hself hB1 hB2 hB3 hB4 hB5 hB6 hmB hmB2 hmB3 hmB4 hmB5 hv22 hv23 hv24 hv25 hv26 hv2 hv3 hne q1 q2 hdf hkt
    have hv7 := Lib.hid (hv.out.below hB7.out)
    have hl2 := Lib.hid hl2
    have hle := Lib.hid hle
    go_loopw [8, 9, 10] (fun i _ _ wr => ∃ a : Nat, i = .int .i64 a ∧ a ≤ l.length ∧ Below w7.heap.size w7 wr) (fun i _ _ _ => l.length - (intOf i).toNat)
    case atStart => exact ⟨0, rfl, Nat.zero_le _, Below.refl _ _⟩
    case round =>
      obtain ⟨a, rfl, ha, hb⟩ := hrel
      by_cases hlt : a < l.length
      · have ha4 : (a : Int) < (l.length : Int) := by omega
        obtain ⟨x, hx⟩ : ∃ x, lst l2 a = x := ⟨_, rfl⟩
        have hb := Lib.hid hb
        have hx := Lib.hid hx
        go_wp2
        go_loopw [9, 10] (fun n j wr' => ∃ m : Nat, j = .int .i64 m ∧ m ≤ l.length ∧ n = .int .i64 ((cntO (l.take m) x : Int) - (cntO (l2.take m) x : Int)) ∧ Below w7.heap.size w7 wr') (fun _ j _ => l.length - (intOf j).toNat)
        case atStart => exact ⟨0, rfl, Nat.zero_le _, rfl, hb.out⟩
        case round =>
          obtain ⟨m, rfl, hm5, rfl, hbm⟩ := hrel
          by_cases hmt : m < l.length
          · have hm4 : (m : Int) < (l.length : Int) := by omega
            obtain ⟨g1, f1, hix1, hel1, hg1⟩ := (hv7.out.below hbm).index (lst_at hmt)
            obtain ⟨g2, f2, hix2, hel2, hg2⟩ := (hv27.out.below hbm).index (lst_at (l := l2) (t := m) (by rw [hl2.out]; exact hmt))
            obtain ⟨g3, f3, hix3, hel3, hg3⟩ := (hv27.out.below hbm).index (lst_at (l := l2) (t := a) (by rw [hl2.out]; exact hlt))
            rw [hx.out] at hel3
            have ey := cntO_snoc (lst_at hmt) x
            have ez := cntO_snoc (lst_at (l := l2) (t := m) (by rw [hl2.out]; exact hmt)) x
            obtain ⟨y, hy⟩ : ∃ y, lst l m = y := ⟨_, rfl⟩
            obtain ⟨z, hz⟩ : ∃ z, lst l2 m = z := ⟨_, rfl⟩
            rw [hy] at hel1 ey
            rw [hz] at hel2 ez
            have b1 := cntO_le (l.take m) x
            have b2 := cntO_le (l2.take m) x
            rw [List.length_take] at b1 b2
            obtain ⟨n, hn⟩ : ∃ n : Int, (cntO (l.take m) x : Int) - (cntO (l2.take m) x : Int) = n := ⟨_, rfl⟩
            rw [hn]
            have n1 : -100 ≤ n := by omega
            have n2 : n ≤ 100 := by omega
            have hel1 := Lib.hid hel1
            have hel2 := Lib.hid hel2
            have hel3 := Lib.hid hel3
            have hg1 := Lib.hid hg1
            have hg2 := Lib.hid hg2
            have hg3 := Lib.hid hg3
            have hbm := Lib.hid hbm
            have heq1 := fun (w : World) => run_eqOp y x w
            have heq2 := fun (w : World) => run_eqOp z x w
            have hfin : Hid ((cntO (l.take (m + 1)) x : Int) - (cntO (l2.take (m + 1)) x : Int) = n + (if eqOp y x = true then 1 else 0) - (if eqOp z x = true then 1 else 0)) := Lib.hid (by rw [ey, ez, ← hn]; split <;> split <;> simp <;> omega)
            clear ey ez b1 b2 hn hy hz
            rcases hyx : eqOp y x <;> rcases hzx : eqOp z x
            all_goals
              rw [hyx] at heq1 hfin
              rw [hzx] at heq2 hfin
              go_wp2_with fail
              refine wp_region_quiet_below (by kernel_rfl) (by kernel_rfl) ?_
              repeat (first
                | (go_big_quiet_want; refine quiet_load_el _ rfl rfl hg1.out hel1.out ?_; simp only [Act.put, List.setIfInBounds_toArray, List.set_cons_succ, List.set_cons_zero]; go_big_quiet_on)
                | (go_big_quiet_want; refine quiet_load_el _ rfl rfl hg3.out hel3.out ?_; simp only [Act.put, List.setIfInBounds_toArray, List.set_cons_succ, List.set_cons_zero]; go_big_quiet_on)
                | go_big_quiet_step (first | fail))
              refine wpQuiet_nil ?_
              intro W8 hw8
              have hB8 := (show Below _ _ W8 by obtain ⟨⟨dq, osq⟩, rfl⟩ := hw8; exact below_regrown _ dq osq)
              have hel22 := Lib.hid (range_after hel2.out hB8 hg2.out)
              have hel32 := Lib.hid (range_after hel3.out hB8 hg3.out)
              have hg22 := Lib.hid (Nat.lt_of_lt_of_le hg2.out hB8.size)
              have hg32 := Lib.hid (Nat.lt_of_lt_of_le hg3.out hB8.size)
              have hbm2 := Lib.hid (hbm.out.trans (hB8.mono hbm.out.size))
              clear hw8 hB8 hel1 hel2 hel3 hg1 hg2 hg3 hbm
              go_wp2_with fail
              refine wp_region_quiet_below (by kernel_rfl) (by kernel_rfl) ?_
              repeat (first
                | (go_big_quiet_want; refine quiet_load_el _ rfl rfl hg22.out hel22.out ?_; simp only [Act.put, List.setIfInBounds_toArray, List.set_cons_succ, List.set_cons_zero]; go_big_quiet_on)
                | (go_big_quiet_want; refine quiet_load_el _ rfl rfl hg32.out hel32.out ?_; simp only [Act.put, List.setIfInBounds_toArray, List.set_cons_succ, List.set_cons_zero]; go_big_quiet_on)
                | go_big_quiet_step (first | fail))
              refine wpQuiet_nil ?_
              intro W9 hw9
              have hB9 := (show Below _ _ W9 by obtain ⟨⟨dq, osq⟩, rfl⟩ := hw9; exact below_regrown _ dq osq)
              have hbm3 := hbm2.out.trans (hB9.mono hbm2.out.size)
              clear hw9 hB9 hel22 hel32 hg22 hg32 hbm2
              go_wp2
              refine ⟨⟨m + 1, by go_num, by omega, ?_, hbm3⟩, by simp [intOf]; omega⟩
              rw [hfin.out]
              simp
          · have hm4 : ¬ (m : Int) < (l.length : Int) := by omega
            obtain rfl : m = l.length := by omega
            have e0 : (cntO (l.take l.length) x : Int) - (cntO (l2.take l.length) x : Int) = 0 := by
              have e2 : l2.take l.length = l2 := by rw [← hl2.out, List.take_length]
              rw [List.take_length, e2, cntO_perm hso.out.perm]; omega
            rw [e0]
            have HK := neighbours (hv27.out.below hbm) hso.out a (by rw [hl2.out]; exact hlt) hx.out
            have hbm := Lib.hid hbm
            rcases HK with hk0 | ⟨hk0, q, g, f, g', f', c, hi, hi', hy, hz, HCM, hc⟩
            · have hdk : decide (0 < a) = false := decide_eq_false (by omega)
              go_wp2_with fail
              refine wp_region_quiet_below (by kernel_rfl) (by kernel_rfl) ?_
              repeat (go_big_quiet_step (first | fail))
              refine wpQuiet_nil ?_
              intro W9 hw9
              have hB9 := (show Below _ _ W9 by obtain ⟨⟨dq, osq⟩, rfl⟩ := hw9; exact below_regrown _ dq osq)
              have hbm3 := hbm.out.trans (hB9.mono hbm.out.size)
              clear hw9 hB9
              go_wp2
              exact ⟨⟨a + 1, by go_num, by omega, hbm3⟩, by simp [intOf]; omega⟩
            · have hdk : decide (0 < a) = true := decide_eq_true (by omega)
              have hdc : decide (0 < c) = false := decide_eq_false (by omega)
              have y0 := cell_regrown hy.1
              have y1 := cell_regrown hy.2
              have z0 := cell_regrown hz.1
              have z1 := cell_regrown hz.2
              have HCM := Lib.hid HCM
              clear hy hz
              go_wp2_with fail
              refine wp_region_quiet_below (by kernel_rfl) (by kernel_rfl) ?_
              repeat (go_big_quiet_step (first | (go_at_call 18; exact Calls.ret_regrown (HCM.out _))))
              refine wpQuiet_nil ?_
              intro W9 hw9
              have hB9 := (show Below _ _ W9 by obtain ⟨⟨dq, osq⟩, rfl⟩ := hw9; exact below_regrown _ dq osq)
              have hbm3 := hbm.out.trans (hB9.mono hbm.out.size)
              clear hw9 hB9 y0 y1 z0 z1
              go_wp2
              exact ⟨⟨a + 1, by go_num, by omega, hbm3⟩, by simp [intOf]; omega⟩
      · have ha4 : ¬ (a : Int) < (l.length : Int) := by omega
        have hb := Lib.hid (hB7.out.trans (hb.mono hB7.out.size))
        go_wp2_with (go_at_call 8; refine (alive_any _).mono ?_; rintro e w9 ⟨rfl, hb9⟩)
        go_ret
        exact ⟨rfl, then_call hb.out hb9⟩

theorem opsOrder_walk (w : World) (v : Value) (f : Int) (l : List OpV) (h : OpsAt w v l ∧ ∀ o ∈ l, o.Fits ∧ o.Wf) (hf1 : -9223372036854775808 ≤ f) (hf2 : f ≤ 9223372036854775807) : Calls Try.prog 5 #[v, .int .i64 f] w (Ret (.bool true) w) := opsOrder_any w v l f h.1 h.2 hf1 hf2
end Go.Proofs.Yteclkaecjogbjaa
