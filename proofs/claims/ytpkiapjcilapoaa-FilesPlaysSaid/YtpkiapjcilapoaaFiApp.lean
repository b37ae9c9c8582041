/-
  Append, the document's own disk.
-/
import Derived.Test.YtpkiapjcilapoaaFiMake
namespace Go.Proofs.Ytpkiapjcilapoaa
open Go.RowKit Go.Sort

set_option maxRecDepth 20000 in
theorem run_append_any {w : World} {base : Nat} {v x : Value} {L M : List Nat} (hown : Own w base v L) (hb : BytesAt w x M) (hle : (L.length + M.length) * 8 ≤ 140737488355328) (hbase : base ≤ w.heap.size) (ty : TypeId) :
    ∃ A m c w', (Builtin.append_ #[30, 30] ty #[v, x]).run Try.prog w = .ok (.slice A m c) w' ∧ Own w' base (.slice A m c) (L ++ M) ∧ Below base w w' := by
  obtain ⟨i0, hi0, hz0, hz1, hz2⟩ := info_parts info_u8
  obtain ⟨A, c, rfl, _, _, hc, h0⟩ := hb.row
  rw [bvals_length] at hc ⊢
  rcases A with _ | ad
  · have hM : M = [] := by
      cases M with
      | nil => rfl
      | cons y t => obtain ⟨_, _, hh, _⟩ := hc (by simp); cases hh
    subst hM
    obtain rfl := h0 rfl
    have hr := run_append_owned_none (P := Try.prog) (w := w) base 30 ty 5 i0 1 Try.underlying30 hi0 v L.length (bvals L) hown
    obtain ⟨A', c', rfl, _⟩ := OwnRow.row (xs := bvals L) (by simpa [OwnRow, Own, bvals] using hown)
    exact ⟨A', _, c', w, hr, by simpa using hown, Below.refl _ _⟩
  · obtain ⟨v', w', h1, h2, h3, _⟩ := run_append_own (P := Try.prog) w base 30 ty 5 i0 (.int .u8 0) 1 1 Try.underlying30 hi0 hz0 hz1 hz2 rfl (by decide) v L.length (bvals L) hown
      ad M.length c (bvals M) (by simp [bvals]) (fun j u hu => by
        have hj : j < M.length := by have := (List.getElem?_eq_some_iff.1 hu).1; rwa [bvals_length] at this
        obtain ⟨b, off, he, _, hcell⟩ := hc (by omega)
        injection he with he
        subst he
        rw [addr_at]; exact hcell j u hu) (bvals_one M) (by unfold maxLen; omega) (by omega) hbase
    have hown2 : Own w' base v' (L ++ M) := by rw [Own, bvals_append, List.length_append]; exact h2
    obtain ⟨A', c', rfl, _⟩ := OwnRow.row (xs := bvals (L ++ M)) (by simpa [OwnRow, Own, bvals] using hown2)
    exact ⟨A', _, c', w', h1, hown2, grown_below hown h3 hbase⟩

theorem step_append_bytes {w : World} {base : Nat} {v x : Value} {L M : List Nat} {ops : Array Oper} {o : Oper} {a : Act} {K : Act → World → Prop} {Q : Exit → Act → World → Prop} {D : Prop} (hgd : o.guard = none) (sv sx : Operand)
    (ho : o.op = .call { callee := .builtin .append, args := #[sv, sx], argTypes := #[30, 30] })
    (hs : a.eval sv = v) (hown : Own w base v L) (hx : a.eval sx = x) (hb : BytesAt w x M) (hle : (L.length + M.length) * 8 ≤ 140737488355328) (hbase : base ≤ w.heap.size)
    (h : ∀ A m c w', Own w' base (.slice A m c) (L ++ M) → Below base w w' → K (a.put o.dst (.slice A m c)) w') : if Region.wanted o (yielded ops a.tmps) = true then Oper.wp Try.prog o a w K Q else D := by
  have hw : Region.wanted o (yielded ops a.tmps) = true := by simp [Region.wanted, hgd]
  rw [if_pos hw]
  obtain ⟨A, m, c, w', hr, h2, h3⟩ := run_append_any hown hb hle hbase o.type
  unfold Oper.wp execOp
  simp only [ho, resolve, invoke, builtin, Sem.run_bind, Sem.run_pure, Result.andThen_ok, List.map_toArray, List.map_cons, List.map_nil, hs, hx, hr]
  exact h A m c w' h2 h3

/-- What Append does (bv: where the bytes will lie). -/
def appendStep (f : Nat) (bv : Value) (b : List Nat) : FStep := ⟨2, f, ByteArray.empty, bv, b⟩

set_option maxRecDepth 20000 in
set_option maxHeartbeats 4000000 in
theorem refAppend_ok {n p born base : Nat} {w : World} {lv : Value} {L : List FStep} {B : List Nat} (h : DiskR n w p lv L born base B) (hl : L.length ≤ 10000) (nm : ByteArray) (x : Value) (b : List Nat) (hx : BytesAt w x b) {f : Nat}
    (hf : findF (nowF L) nm = f) (hh : (heldF L f).length + b.length ≤ 1048576) :
    Calls Try.prog 36 #[.pointer (some ⟨p, 0, none⟩), .string nm, x] w fun e' w' => ∃ bv, Did n p born base B (L ++ [appendStep f bv b]) 0 w e' w' := by
  have hc0 := h.c0
  have hp := h.plt
  have hown := h.own
  have hnw := h.nle
  have hlen : (L.map stCells).length ≤ 10000 := by rw [List.length_map]; exact hl
  have hlx := fun W => hx.len (ty := 3) W
  have cN := hide (refNow_any lv L w h.steps h.kinds (by omega))
  have cF := hide (fun v W (hv : NamesAt W v (nowF L)) => refFind_any v (nowF L) nm W hv)
  rw [hf] at cF
  obtain ⟨H, hH⟩ : ∃ H, (heldF L f).length = H := ⟨_, rfl⟩
  have cH := hide (fun W (hd : DiskR n W p lv L born base B) => (refHeld_any hd f (by omega)).mono (R' := fun e' w' => ∃ v', e' = .returned v' ∧ (∀ W', (Builtin.len_ #[30] 3 #[v']).run Try.prog W' = .ok (.int .i64 (H : Nat)) W') ∧ Below W.heap.size W w')
    (fun e' w' ⟨v', h1, h2, h3⟩ => ⟨v', h1, fun W' => by rw [← hH]; exact (h2.bytes (hd.byte f)).len W', h3⟩))
  rw [hH] at hh
  clear hf hH
  have h := Lib.hid h
  have hx := Lib.hid hx
  go_enter Try.func36, Try.ntmps36
  go_wp2_with (first
    | (go_at_call 62; refine cN.out.mono ?_; rintro e' w0 ⟨v0, rfl, hn0, hb0⟩)
    | (go_at_call 63; refine (cF.out _ _ hn0).mono ?_; rintro e' w2 ⟨rfl, rfl⟩)
    | (go_at_call 64; refine (cH.out _ (h.out.below hb0)).mono ?_; rintro e' w1 ⟨v1, rfl, hl1, hb⟩; have hb1 := then_call hb0 hb; have hc0 := (h.out.below hb1).c0; have hown1 := hown.below hb1; have hs1 := hb1.size))
  have hb1d : Below w.heap.size w w1.drew := Below.drew hb1
  have hp1 : p < w1.heap.size := by omega
  have hx1 := Lib.hid (hx.out.below hb1)
  have hbx : b.length ≤ 1048576 := by omega
  go_region_law (first
    | (refine step_append_bytes (base := w1.heap.size) (by rfl) (.tmp 31) (.tmp 32) (by rfl) (by rfl) (own_made w1.drew _ rfl) (by rfl) (BytesAt.below (w := w1) hx1.out ((Below.drew (Below.refl _ w1)).trans (below_box1 w1.drew _))) (by simp; omega) (by simp) ?_; intro A3 m3 c3 w3 hown3 hb3; have hb13 : Below w1.heap.size w1 w3 := ((Below.drew (Below.refl _ w1)).trans (below_box1 w1.drew _)).trans hb3; have hb3w := then_call hb1 hb13; have hc0 := (h.out.below hb3w).c0; have hp3 : p < w3.heap.size := by (have := hb13.size; omega))
    | (refine step_append_rows elemS (by rfl) (.tmp 29) (.tmp 35) (by rfl) n (by rfl) (OwnRows.alloc (OwnRows.below hown1 hb13) _) (by rfl) (st_box w3 _ 2 f (appendStep f (.slice A3 m3 c3) b) rfl rfl) (by simp) (st_one rfl) (by simp at hlen; simp; omega) (by have := hb13.size; simp; omega) ?_; intro A2 m2 c2 w2 hown2 ht2 hw2; obtain ⟨hr1, hr2⟩ := h.out.ready (then_box hb3w _) ht2))
  all_goals
    go_wp2
    go_ret
    have hb3 : Own w3 w1.heap.size (.slice A3 m3 c3) b := by simpa using hown3
    have hlt := fun q hq => World.ownsRow.lt hb3 q hq
    obtain ⟨B', k1, k2, k3⟩ := h.out.put (s := appendStep f (.slice A3 m3 c3) b) (Turns.of_below (then_box hb3w _)) (BytesAt.below (w := w3) (hb3.bytes hx.out.byte) (below_box1 _ _)) (fun q hq => by have := hlt q hq; simp; omega) ⟨by simp [appendStep], by simp [appendStep]⟩ (by rw [sts_app]; exact hown2) ht2 hw2
    exact ⟨_, rfl, _, B', k1, k2, k3⟩

set_option maxRecDepth 20000 in
set_option maxHeartbeats 4000000 in
theorem refAppend_no {n p born base : Nat} {w : World} {lv : Value} {L : List FStep} {B : List Nat} (h : DiskR n w p lv L born base B) (hl : L.length ≤ 10000) (nm : ByteArray) (x : Value) (b : List Nat) (hx : BytesAt w x b) {e : Nat}
    (hw : (findF (nowF L) nm = -1 ∧ e = 61) ∨ (∃ f : Nat, findF (nowF L) nm = f ∧ (heldF L f).length ≤ 1048576 ∧ 1048576 < (heldF L f).length + b.length ∧ e = 62)) :
    Calls Try.prog 36 #[.pointer (some ⟨p, 0, none⟩), .string nm, x] w (Did n p born base B L e w) := by
  have hc0 := h.c0
  have hlx := fun W => hx.len (ty := 3) W
  have hxl : (b.length : Int) ≤ 9223372036854775807 := by have := hx.row.le; rwa [bvals_length] at this
  have cN := hide (refNow_any lv L w h.steps h.kinds (by omega))
  have cF := hide (fun v W (hv : NamesAt W v (nowF L)) => refFind_any v (nowF L) nm W hv)
  clear hx
  rcases hw with ⟨hf, rfl⟩ | ⟨f, hf, hH1, hH2, rfl⟩
  · rw [hf] at cF
    clear hf
    have h := Lib.hid h
    go_enter Try.func36, Try.ntmps36
    go_wp2_with (first
      | (go_at_call 62; refine cN.out.mono ?_; rintro e' w0 ⟨v0, rfl, hn0, hb0⟩)
      | (go_at_call 63; refine (cF.out _ _ hn0).mono ?_; rintro e' w2 ⟨rfl, rfl⟩))
    go_ret
    exact Did.stays h.out hb0
  · rw [hf] at cF
    obtain ⟨H, hH⟩ : ∃ H, (heldF L f).length = H := ⟨_, rfl⟩
    rw [hH] at hH1 hH2
    have cH := hide (fun W (hd : DiskR n W p lv L born base B) => (refHeld_any hd f (by omega)).mono (R' := fun e' w' => ∃ v', e' = .returned v' ∧ (∀ W', (Builtin.len_ #[30] 3 #[v']).run Try.prog W' = .ok (.int .i64 (H : Nat)) W') ∧ Below W.heap.size W w')
      (fun e' w' ⟨v', h1, h2, h3⟩ => ⟨v', h1, fun W' => by rw [← hH]; exact (h2.bytes (hd.byte f)).len W', h3⟩))
    clear hf hH
    have h := Lib.hid h
    go_enter Try.func36, Try.ntmps36
    go_wp2_with (first
      | (go_at_call 62; refine cN.out.mono ?_; rintro e' w0 ⟨v0, rfl, hn0, hb0⟩)
      | (go_at_call 63; refine (cF.out _ _ hn0).mono ?_; rintro e' w2 ⟨rfl, rfl⟩)
      | (go_at_call 64; refine (cH.out _ (h.out.below hb0)).mono ?_; rintro e' w1 ⟨v1, rfl, hl1, hb⟩; have hb1 := then_call hb0 hb))
    go_ret
    exact Did.stays h.out hb1
end Go.Proofs.Ytpkiapjcilapoaa
