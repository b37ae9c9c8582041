/-
  BatchEncodes, walked.
-/
import Derived.Test.YtidicjjjkmlmaaaGreatDoorBaREnc
import Derived.Test.YtidicjjjkmlmaaaGreatDoorMBase
import Derived.Test.YtidicjjjkmlmaaaGreatDoorOpApp
namespace Go.Proofs.YtidicjjjkmlmaaaGreatDoor
open Go.RowKit Go.Sort
set_option maxRecDepth 20000

theorem append_ops0 {P : Program} {t e : TypeId} {z : Value} {k bytes base : Nat} {w : World} {v : Value} {xs : List (List Value)} (E : ElemK P t e z k bytes) {ops : Array Oper} {rest : List Oper} {o : Oper} {a : Act} {Q : Exit → Act → World → Prop} (hgd : o.guard = none) (sv sx : Operand)
    (ho : o.op = .call { callee := .builtin .append, args := #[sv, sx], argTypes := #[t, t] }) {x : Value} {M : List (List Value)}
    (hs : a.eval sv = v) (hown : OwnRows w base e k v xs) (hx : a.eval sx = x) (hr : RowsAt k w x M) (h1 : ∀ y ∈ M, ∀ u ∈ y, u.oneCell' = true) (hle : (xs.length + M.length) * 4096 ≤ 140737488355328) (hbase : base ≤ w.heap.size)
    (h : ∀ A m c w', OwnRows w' base e k (.slice A m c) (xs ++ M) → Below base w w' → wpList P ops Q rest (a.put o.dst (.slice A m c)) w') : wpList P ops Q (o :: rest) a w := by
  obtain ⟨A, m, c, w', hr, h2, _, h4⟩ := run_append_rows0 E o.type hown hr h1 hle hbase
  refine wpList_plain hgd fun K hK => ?_
  unfold Oper.wp execOp
  simp only [ho, resolve, invoke, builtin, Sem.run_bind, Sem.run_pure, Result.andThen_ok, List.map_toArray, List.map_cons, List.map_nil, hs, hx, hr]
  exact hK _ _ (h _ _ _ w' h2 h4)

theorem OpsAt.back {w : World} {v : Value} {l : List OpV} (h : OpsAt w v l) {m : Nat} (hm : m ≤ l.length) (hpos : 0 < l.length) :
    ∃ v', (∀ W, (Instr.slice 22 v none (some (.int .i64 (m : Int))) none).run Tryz.prog W = .ok v' W) ∧ OpsAt w v' (l.take m) ∧ (∀ W, (Instr.slice 22 v' none (some (.int .i64 (l.length : Int))) none).run Tryz.prog W = .ok v W) := by
  have h0 := h
  obtain ⟨v', h1, h2, _⟩ := RowsAt.upto (P := Tryz.prog) h0 elemO.ht elemO.hs (m := m) (by simpa using hm)
  refine ⟨v', h1, by unfold OpsAt; rw [List.map_take]; exact h2, fun W => ?_⟩
  obtain ⟨n, hn⟩ : ∃ n, l.length = n := ⟨_, rfl⟩
  obtain ⟨A, c, rfl, h3, h4, hw, h5, h6⟩ := h
  rw [List.length_map, hn] at h1 h3 h5 ⊢
  obtain ⟨b, off, rfl, _, _⟩ := h5 (by omega)
  have he : Tryz.prog.elem 22 = 33 := by simp [Program.elem, elemO.ht]
  have h7 := h1 w
  rw [run_slice_h (P := Tryz.prog) w _ _ n c (by rw [he]; exact elemO.ht) .i64 (m : Int) (by omega) (by omega), he, elemO.hs] at h7
  simp only [Result.andThen, sliced, Int.toNat_natCast] at h7
  injection h7 with h8 _
  subst h8
  rw [if_neg (show ¬ c = 0 by omega)]
  rw [run_slice_h (P := Tryz.prog) W _ _ _ _ (by rw [he]; exact elemO.ht) .i64 (n : Int) (by omega) (by omega), he, elemO.hs]
  simp only [Result.andThen, sliced, Int.toNat_natCast]
  rw [if_neg (show ¬ c - 0 = 0 by omega)]
  simp [addr_at]

/-- The operation put behind. -/
def behindO : OpV := { zeroO with ch := 77 }
theorem behindO_cells : opL behindO = [.int .i64 0, .int .i64 0, .int .i64 0, .int .i64 0, .int .i64 0, .int .i64 0, .int .i64 0, .int .i64 0, .int .i64 0, .int .i64 0, .int .i64 0, .int .i64 0, .int .i64 0, .int .i64 0, .int .i64 77, .int .i64 0, .int .i64 0, .string { data := #[] }, .string { data := #[] }, .string { data := #[] }, .int .i64 0, .int .i64 0, .bool false, .int .i64 0, .int .i64 0, .bool false] := rfl

set_option maxHeartbeats 4000000 in
theorem batchEncodes_any (w : World) (hE : ErrT w) (v : Value) (l : List OpV) (hv : OpsAt w v l) (hf : ∀ o ∈ l, o.Fits) :
    Calls Tryz.prog 3 #[v] w (Ret (.bool true) w) := by
  have hll := fun W => hv.len 3 W
  have hle := hv.le
  have hv := Lib.hid hv
  have hE := Lib.hid hE
  rcases Nat.lt_or_ge 210 l.length with hbig | hsm
  · have hg1 : decide ((210 : Int) < (l.length : Int)) = true := decide_eq_true (by omega)
    go_enter Tryz.func3, Tryz.ntmps3
    go_wp2_with (go_at_call 6; refine (alive_any _ hE.out).mono ?_; rintro e w2 ⟨rfl, hb2⟩)
    go_ret
    exact ⟨rfl, hb2⟩
  · have hg1 : decide ((210 : Int) < (l.length : Int)) = false := decide_eq_false (by omega)
    have HE := fun v' W h => encode_any v' l W h hf
    have HR := fun v' W h => refEncode_any v' l W h hf
    have hby := Lib.hid (encP_byte l)
    obtain ⟨e5, he5⟩ : ∃ e5, (encP l).2 = e5 := ⟨_, rfl⟩
    obtain ⟨p5, hp5⟩ : ∃ p5, (encP l).1 = p5 := ⟨_, rfl⟩
    rw [he5, hp5] at HE HR
    rw [hp5] at hby
    clear he5 hp5
    have hl1 : ((([] : List (List Value)).length) + (l.map opL).length) * 4096 ≤ 140737488355328 := by simp; omega
    have hl2 : ((([] : List (List Value)) ++ l.map opL).length + [opL behindO].length) * 4096 ≤ 140737488355328 := by simp; omega
    have hone : ∀ y ∈ [opL behindO], ∀ u ∈ y, u.oneCell' = true := ops_one [behindO]
    replace hl1 := Lib.hid hl1
    replace hl2 := Lib.hid hl2
    replace hone := Lib.hid hone
    replace hsm := Lib.hid hsm
    go_enter Tryz.func3, Tryz.ntmps3
    go_wp2_with (first
      | (at_builtin; refine append_ops0 elemO rfl (.tmp 14) (.tmp 15) rfl rfl (own_madeK _ _ 26) rfl (hv.out.below (below_box1 _ _)) (ops_one l) hl1.out (by simp) ?_; intro A1 m1 c1 w1 hO1 hb1; have hB1 := Lib.hid ((below_box1 w _).trans hb1); replace hO1 := Lib.hid hO1; clear hb1)
      | (at_builtin; refine append_ops0 (xs := [] ++ l.map opL) (M := [opL behindO]) elemO rfl (.tmp 16) (.tmp 18) rfl rfl (hO1.out.below (below_box1 _ _)) rfl (rows_box w1 _ (opL behindO) rfl _ rfl) hone.out hl2.out (by have := hB1.out.size; simp; omega) ?_; intro A2 m2 c2 w2 hO2 hb2; have hB2 := hB1.out.trans (((below_box1 w1 _).mono hB1.out.size).trans hb2); have hm : OpsAt w2 (.slice A2 m2 c2) (l ++ [behindO]) := (by have := hO2.rows; rw [List.nil_append, ← List.map_singleton, ← List.map_append] at this; exact this); obtain ⟨v3, hcut, hv3, hback⟩ := hm.back (m := l.length) (by simp) (by simp); rw [List.take_left] at hv3; obtain ⟨bk, off, hix, hc, hlt⟩ := hm.index (i := l.length) (o := behindO) (by simp); have c14 := hc 14 (.int .i64 77) rfl; rw [show (((l ++ [behindO]).length : Nat) : Int) = (l.length : Int) + 1 by simp] at hback; replace hv3 := Lib.hid hv3; replace hO2 := Lib.hid hO2; clear hc hm hb2))
    have hle1 : (l.length : Int) + 1 ≤ 9223372036854775807 := by have := hsm.out; omega
    refine (HE _ _ hv3.out).mono ?_
    rintro e w3 ⟨v4, rfl, ho3, hb3⟩
    have hB3 := Lib.hid (hB2.trans (hb3.mono hB2.size))
    have hv33 := Lib.hid (hv3.out.below hb3)
    have HR2 := HR v w3 (hv.out.below hB3.out)
    clear HE HR
    go_wp2_with fail
    refine HR2.mono ?_
    rintro e w4 ⟨v5, rfl, ho4, hb4⟩
    have hB4 := Lib.hid (hB3.out.trans (hb4.mono hB3.out.size))
    have hb24 := Lib.hid (hb3.trans (hb4.mono hb3.size))
    have HS1 := same_true ((ho3.later hb4).bytes hby.out) (ho4.bytes hby.out)
    have HS2 := same_ops l l v3 v w4 (hv33.out.below hb4) (hv.out.below hB4.out) (by have := hsm.out; omega)
    clear ho3 ho4 hb3 hb4 HR2
    go_wp2_with fail
    refine HS1.mono ?_
    rintro e w5 ⟨rfl, rfl⟩
    clear HS1
    go_wp2_with fail
    refine HS2.mono ?_
    rintro e w6 ⟨r, rfl, hr, hb6⟩
    obtain rfl : r = true := hr.2 rfl
    have hB6 := Lib.hid (hB4.out.trans (hb6.mono hB4.out.size))
    have hb26 := Lib.hid (hb24.out.trans (hb6.mono hb24.out.size))
    clear hr HS2 hb6
    go_wp2_with (go_at_call 6; refine (alive_any _ (hE.out.below hB6.out)).mono ?_; rintro e w7 ⟨rfl, hb7⟩; have c7 := ((hb26.out.trans (hb7.mono hb26.out.size)).cell (p := ⟨bk, off + 14, none⟩) hlt).trans c14)
    go_ret
    exact ⟨rfl, hB6.out.trans (hb7.mono hB6.out.size)⟩
theorem batchEncodes_walk (w : World) (hE : ErrT w) (v : Value) (l : List OpV) (h : OpsAt w v l ∧ ∀ o ∈ l, o.Fits ∧ o.Wf) :
    Calls Tryz.prog 3 #[v] w (Ret (.bool true) w) := batchEncodes_any w hE v l h.1 fun o ho => (h.2 o ho).1
end Go.Proofs.YtidicjjjkmlmaaaGreatDoor
