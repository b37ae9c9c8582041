/-
  Runs, the code's own: the bytes of a list's runs, in a new row.
-/
import Derived.Test.YtdonbgejnllhlaaCcSeq
import Derived.Test.YtdonbgejnllhlaaVaBytes
import Derived.Maps.AppendAt
namespace Go.Proofs.Ytdonbgejnllhlaa
open Go.RowKit Go.Sort

attribute [local go_sem] Oper.semAt_some

theorem keeps_below {w w' : World} (h : Below w.heap.size w w') : KeepsOthers w w' :=
  ⟨h.size, fun k _ hk _ => (h.block k (Array.getElem?_eq_some_iff.1 hk).1).trans hk⟩
theorem keeps_grown {w w' : World} {base : Nat} {v : Value} {l : List Nat} (h : Own w base v l) (hg : w.grownBy w' v.ownBlock) : KeepsOthers w w' := by
  refine KeepsOthers.of_grownBy hg fun j o ej hj => ?_
  rcases h.2 with ⟨rfl, _⟩ | ⟨g, cap, cur, rfl, _, hgb, _⟩
  · simp [Value.ownBlock] at ej
  · obtain rfl : g = j := by simpa [Value.ownBlock] using ej
    rw [hgb] at hj; cases hj; rfl

/-- append(v, x...), run. -/
theorem run_append_bytes {w : World} {base : Nat} {v x : Value} {l m : List Nat} (hown : Own w base v l) (hx : BytesAt w x m) (hm : 0 < m.length) (hle : (l.length + m.length) * 8 ≤ 140737488355328) (hbase : base ≤ w.heap.size) (ty : TypeId) :
    ∃ v' w', (Builtin.append_ #[26, 26] ty #[v, x]).run Try.prog w = .ok v' w' ∧ Own w' base v' (l ++ m) ∧ w.grownBy w' v.ownBlock := by
  obtain ⟨i0, hi0, hz0, hz1, hz2⟩ := info_parts info_u8
  obtain ⟨A, c, rfl, _, _, hc, _⟩ := hx.row
  rw [bvals_length] at hc ⊢
  obtain ⟨b, off, rfl, _, hcell⟩ := hc hm
  obtain ⟨v', w', h1, h2, h3, _⟩ := run_append_own (P := Try.prog) w base 26 ty 5 i0 (.int .u8 0) 1 1 Try.underlying26 hi0 hz0 hz1 hz2 rfl (by decide) v l.length (bvals l) hown
    ⟨b, off, none⟩ m.length c (bvals m) (by simp [bvals]) (fun j u hu => by rw [addr_at]; exact hcell j u hu) (bvals_one m) (by unfold maxLen; omega) (by omega) hbase
  exact ⟨v', w', h1, by rw [Own, bvals_append, List.length_append]; exact h2, h3⟩

/-- A row grows in a variable's box: since W, all else lies as it lay. -/
structure After (n bx Bs : Nat) (ts : TypeId) (sv : Value) (W w : World) (v : Value) (l : List Nat) : Prop where
  box : Boxed w bx 26 v
  seq : Boxed w Bs ts sv
  was : Boxed W Bs ts sv
  own : Own w n v l
  keep : KeepsOthers W w
  below : Below n W w
  low : n ≤ bx
  ne : bx ≠ Bs

section
variable {n bx Bs : Nat} {ts : TypeId} {sv : Value} {W w w' : World} {v : Value} {l : List Nat}
theorem After.cell (h : After n bx Bs ts sv W w v l) : w.cell? ⟨bx, 0, none⟩ = some v := h.box.cell
theorem After.drew (h : After n bx Bs ts sv W w v l) : After n bx Bs ts sv W w.drew v l :=
  ⟨h.box, h.seq, h.was, h.own.drewN 1, h.keep.trans (KeepsOthers.drew _), below_drewN h.below 1, h.low, h.ne⟩
theorem After.call (h : After n bx Bs ts sv W w v l) (hb : Below w.heap.size w w') : After n bx Bs ts sv W w' v l :=
  ⟨(hb.block bx h.box.lt).trans h.box, (hb.block Bs h.seq.lt).trans h.seq, h.was, h.own.later hb, h.keep.trans (keeps_below hb), h.below.trans (hb.mono (by have := h.low; have := h.box.lt; omega)), h.low, h.ne⟩
theorem After.save (h : After n bx Bs ts sv W w v l) : Save n Bs W w := ⟨h.below, (show w.heap[Bs]? = _ from h.seq).trans (show W.heap[Bs]? = _ from h.was).symm⟩
theorem After.app (h : After n bx Bs ts sv W w v l) (hts : ts ≠ 5) {x : Value} {m : List Nat} (hx : BytesAt w x m) (hm : 0 < m.length) (hle : (l.length + m.length) * 8 ≤ 140737488355328) (ty : TypeId) :
    ∃ A k c w', (Builtin.append_ #[26, 26] ty #[v, x]).run Try.prog w = .ok (.slice A k c) w' ∧ w'.cell? ⟨bx, 0, none⟩ = some v ∧ w'.frozen? ⟨bx, 0, none⟩ = false ∧ After n bx Bs ts sv W (w'.setCell ⟨bx, 0, none⟩ (.slice A k c)) (.slice A k c) (l ++ m) := by
  have hlo := h.low
  have hlt := h.box.lt
  obtain ⟨v', w', h1, h2, h3⟩ := run_append_bytes h.own hx hm hle (by omega) ty
  obtain ⟨A, c, rfl, _⟩ := OwnRow.row (xs := bvals (l ++ m)) (by simpa [OwnRow, Own, bvals] using h2)
  have hne : some bx ≠ v.ownBlock := h.box.not_row (by decide) h.own
  have hne2 : some Bs ≠ v.ownBlock := h.seq.not_row hts h.own
  have hbox := h.box.kept h3 hne
  have hseq := h.seq.kept h3 hne2
  have hb : Below n w w' := grown_below h.own h3 (by omega)
  refine ⟨_, _, _, w', h1, hbox.cell, hbox.frozen, hbox.set _, hseq.kept (grownBy_setCell' w' bx _) (fun e => h.ne (by injection e with e; exact e.symm)), h.was, ?_, (h.keep.trans (keeps_grown h.own h3)).trans (KeepsOthers.setCell _ _ _), (h.below.trans hb).setCell (p := ⟨bx, 0, none⟩) hlo _, hlo, h.ne⟩
  exact World.ownsRow.kept h2 (grownBy_setCell' w' bx _) (.inr (hbox.not_row (by decide) h2).symm)
end

/-- What a loop over an iterator keeps, between two rounds. -/
theorem own_row_from {β : Type} {n bx Bs B : Nat} {ts : TypeId} {sv : Value} (w : World) (f : β → List Nat) (hn : n ≤ w.heap.size) (hnB : n ≤ B) (hs : Bs < B) :
    OwnFrom B (fun (s : β) W => ((∃ v, Boxed W bx 26 v ∧ W.ownsRow n 5 1 v (f s).length (bvals (f s)) ∧ True) ∧ Below n w W) ∧ Boxed W Bs ts sv) :=
  OwnFrom.and (OwnFrom.and (Go.Own.from (holdsRow_own n bx 26 5 1 (fun s => (f s).length) (fun s => bvals (f s)) (fun _ _ => True)) _) (ownFrom_below hn hnB))
    (fun _ _ _ _ h hg hr => h.kept hg (fun e => by have := (hr _ e.symm).1; omega))

theorem stepIn_append {F : Fence} {n : Nat} {P : Program} {w : World} {ops : Array Oper} {o : Oper} {a : Act} {K : Act → World → Prop} {Q : Exit → Act → World → Prop} {E : Prop} (hgd : o.guard = none) (s x : Operand) (t : TypeId)
    (ho : o.op = .call { callee := .builtin .append, args := #[s, x], argTypes := #[t, t] }) {v u v' : Value} {w' : World} (hs : a.eval s = v) (hx : a.eval x = u)
    (hrun : (Builtin.append_ #[t, t] o.type #[v, u]).run P w = .ok v' w') (h : K (a.put o.dst v') w') : if Region.wanted o (yielded ops a.tmps) = true then Oper.wpIn F n P o a w K Q else E := by
  have hw : Region.wanted o (yielded ops a.tmps) = true := by simp [Region.wanted, hgd]
  rw [if_pos hw]
  unfold Oper.wpIn
  refine ⟨?_, ?_⟩
  · simp [Oper.about, ho, resolve, Target.leads, Sem.run_pure]
  · rw [Oper.semAt_plain F _ _ (by rw [ho]; intro c hc'; cases hc')]
    simp [execOp, ho, resolve, invoke, builtin, hs, hx, hrun, Result.andThen]
    exact h

theorem zig_N_any {x : Int} {z : Nat} (h : zigN x = z) (hx : InR x) (w : World) : Calls Try.prog 27 #[.int .i64 x] w fun e w' => e = .returned (.int .u64 (z : Nat)) ∧ w = w' := by
  have := zig_any x hx.1 hx.2 w
  rw [zig_N, h] at this
  exact this

theorem encR_few : ∀ (rs : List RunI), (encR (rs.map (·.1))).length ≤ 20 * rs.length
  | [] => by simp [encR]
  | ⟨(k, x), hk, hx⟩ :: r => by
    have ih := encR_few r
    dsimp only at hk hx
    have h1 := putL_len10 (n := k) (by omega)
    have h2 := putL_len10 (zigN_lt hx)
    simp only [List.map_cons, encR, List.length_append, List.length_cons]
    omega

set_option maxRecDepth 20000 in
set_option maxHeartbeats 8000000 in
theorem cRuns_any (v : Value) (l : List Int) (w : World) (hv : IntsAt w v l) (hr : ∀ x ∈ l, InR x) (hl : l.length ≤ 65536) :
    Calls Try.prog 11 #[v] w fun e w' => ∃ v', e = .returned v' ∧ Own w' w.heap.size v' (bytesR l) ∧ Below w.heap.size w w' := by
  obtain ⟨a, c, rfl, _⟩ := id hv
  rw [ints_len] at hv ⊢
  refine (callsIn_wide (n := 3)).1 ?_
  refine callsIn_of_wp_marks Try.func11 rfl trivial ?_ rfl
  simp only [Try.ntmps11, List.size_toArray, List.length_cons, List.length_nil, Nat.reduceAdd, Nat.reduceSub, Array.replicate_succ, Array.replicate_zero, List.push_toArray, List.append_toArray, List.nil_append, List.cons_append]
  have hv := Lib.hid hv
  have hr := Lib.hid hr
  gi_wp2_with (refine ⟨trivial, ?_⟩; gi_at_call 25; refine (seqI_in Fence.wide _ trivial rfl _ _ _ _).mono ?_; rintro e w' ⟨rfl, rfl⟩)
  have bO := Boxed.new w 26 (.slice none 0 0)
  have bN := Boxed.new (w.alloc (.cells #[.slice none 0 0] 26)) 22 (.slice a l.length c)
  rw [World.size_alloc] at bN
  have hB0 : Below w.heap.size w ((w.alloc (.cells #[.slice none 0 0] 26)).alloc (.cells #[.slice a l.length c] 22)) := ((Below.refl _ w).alloc (Nat.le_refl _) _).alloc (by simp) _
  refine wpIn_rangeFunc_ownG (F := Fence.wide) rfl (by omega) (gf := 38) (lb := #[.pointer (some ⟨w.heap.size + 1, 0, none⟩)]) rfl trivial (enters_of Try.func38 (by kernel_rfl) rfl)
    (iterI_stops Fence.wide _ trivial rfl (by omega) (w.heap.size + 1) _ l hl hr.out w _ hv.out (by simp) hB0 bN.cell)
    Save.trans (save_put (by simp; omega) (by simp)) (Below.refl _ _) (fun _ => rfl)
    (fun pre W => ((∃ v, Boxed W w.heap.size 26 v ∧ W.ownsRow w.heap.size 5 1 v (encR (pre.map (·.1))).length (bvals (encR (pre.map (·.1)))) ∧ True) ∧ Below w.heap.size w W) ∧ Boxed W (w.heap.size + 1) 22 (.slice a l.length c))
    (fun _ _ _ => False)
    (own_row_from w (fun pre : List RunI => encR (pre.map (·.1))) (Nat.le_refl _) (by simp; omega) (by simp))
    (fun _ _ _ _ _ hs _ _ => hs)
    ⟨⟨⟨_, bO.alloc _, World.ownsRow_nil _ _ _ _, trivial⟩, hB0⟩, bN⟩
    (fun x => { tmps := #[.slice a l.length c, undef, .slice none 0 0, .pointer (some ⟨w.heap.size, 0, none⟩), .int .i64 x.1.2, .int .i64 (x.1.1 : Int), .slice a l.length c, .func (.func 38) #[] #[.pointer (some ⟨w.heap.size + 1, 0, none⟩)], .int .i64 x.1.2, .int .i64 (x.1.1 : Int), undef, undef, undef, undef, undef, undef, undef, undef, undef, undef, undef], defers := [] }) ?assign ?body ?done ?stop
  case assign =>
    intro l x W K hK
    gi_wp2
    exact hK
  case body =>
    rintro lp pre ⟨⟨m, x⟩, hm, hx⟩ W ⟨⟨⟨v, hv1, hrow, _⟩, hB⟩, hseq⟩ hlt
    dsimp only at hm hx
    have hx := Lib.hid hx
    have hmx : Try.prog.follows .mixedOrders = true := by kernel_rfl
    have haf : After w.heap.size w.heap.size (w.heap.size + 1) 22 (.slice a l.length c) W W v (encR (pre.map (·.1))) := ⟨hv1, hseq, hseq, hrow, KeepsOthers.refl _, Below.refl _ _, Nat.le_refl _, by omega⟩
    have haf := haf.drew
    have hcv := haf.cell
    have c1 := hide (fun W => put_any m (by omega) W)
    have c2 := hide (fun W => put_any (zigN x) (zigN_lt hx.out) W)
    have c3 := hide (fun W => zig_N_any (x := x) rfl hx.out W)
    have hwm : IntKind.u64.wrap (m : Int) = m := by rw [IntKind.wrap_u64]; omega
    have hen := encR_few pre
    have hm10 : (putL m).length ≤ 10 := putL_len10 (by omega)
    gi_wp2
    rename_i K6 hK6
    have h6 : ∀ (v1 : Value) (g2 : Option Addr) (n2 k2 : Nat) (W3 : World), After w.heap.size w.heap.size (w.heap.size + 1) 22 (.slice a l.length c) W W3 (.slice g2 n2 k2) (encR (pre.map (·.1)) ++ putL m) →
        K6 { tmps := #[.slice a l.length c, undef, .slice none 0 0, .pointer (some ⟨w.heap.size, 0, none⟩), .int .i64 x, .int .i64 (m : Int), .slice a l.length c, .func (.func 38) #[] #[.pointer (some ⟨w.heap.size + 1, 0, none⟩)], .int .i64 x, .int .i64 (m : Int), v, .int .i64 (m : Int), .int .u64 (m : Int), v1, .slice g2 n2 k2, undef, undef, undef, undef, undef, undef], defers := [] } W3 := by
      intro v1 g2 n2 k2 W3 haf
      clear hcv c1 hwm
      refine hK6 _ _ ?_
      have haf := haf.drew
      have hcv := haf.cell
      obtain ⟨z, hz⟩ : ∃ z, zigN x = z := ⟨_, rfl⟩
      rw [hz] at c2 c3
      have hz10 : (putL z).length ≤ 10 := by rw [← hz]; exact putL_len10 (zigN_lt hx.out)
      have hbd : ((encR (pre.map (·.1)) ++ putL m).length + (putL z).length) * 8 ≤ 140737488355328 := by rw [List.length_append]; omega
      have hz := Lib.hid hz
      refine wpIn_region_any (by assumption) ?_
      change wpAnyIn _ _ _ _ _ _ _ _ _ (World.drew _)
      all_goals refine wpAnyIn_ready (rs := [0, 1]) (by decide +kernel) (by simp) (AllReadyIn.cons rfl (fun K hK => ?_) (AllReadyIn.cons rfl (fun K hK => ?_) AllReadyIn.nil))
      all_goals go_simp
      all_goals first
        | (refine hK _ _ ?_; clear hK K)
        | (refine ⟨trivial, ?_⟩; gi_at_call 26; refine (CallsIn.inRound lp (callsIn_wide.2 (c2.out _))).mono ?_; rintro e' w1 ⟨v1, rfl, ho1, hb1⟩; have haf := haf.call hb1; have hcv := haf.cell; have hx1 := putL_bytes ho1; dsimp only; refine hK _ _ ?_; clear hK K)
        | (refine ⟨trivial, ?_⟩; gi_at_call 27; refine (CallsIn.inRound lp (callsIn_wide.2 (c3.out _))).mono ?_; rintro e' w1 ⟨rfl, rfl⟩; dsimp only; refine hK _ _ ?_; clear hK K)
      all_goals first | (refine wpAnyIn_ready (rs := [1]) (by decide +kernel) (by simp) (AllReadyIn.cons rfl (fun K hK => ?_) AllReadyIn.nil)) | (refine wpAnyIn_ready (rs := [0, 2]) (by decide +kernel) (by simp) (AllReadyIn.cons rfl (fun K hK => ?_) (AllReadyIn.cons rfl (fun K hK => ?_) AllReadyIn.nil)))
      all_goals go_simp
      all_goals first
        | (refine hK _ _ ?_; clear hK K)
        | (refine ⟨trivial, ?_⟩; gi_at_call 26; refine (CallsIn.inRound lp (callsIn_wide.2 (c2.out _))).mono ?_; rintro e' w1 ⟨v1, rfl, ho1, hb1⟩; have haf := haf.call hb1; have hcv := haf.cell; have hx1 := putL_bytes ho1; dsimp only; refine hK _ _ ?_; clear hK K)
        | (refine ⟨trivial, ?_⟩; gi_at_call 27; refine (CallsIn.inRound lp (callsIn_wide.2 (c3.out _))).mono ?_; rintro e' w1 ⟨rfl, rfl⟩; dsimp only; refine hK _ _ ?_; clear hK K)
      all_goals first | (refine wpAnyIn_ready (rs := [2]) (by decide +kernel) (by simp) (AllReadyIn.cons rfl (fun K hK => ?_) AllReadyIn.nil)) | (refine wpAnyIn_ready (rs := [0, 3]) (by decide +kernel) (by simp) (AllReadyIn.cons rfl (fun K hK => ?_) (AllReadyIn.cons rfl (fun K hK => ?_) AllReadyIn.nil)))
      all_goals go_simp
      all_goals first
        | (refine hK _ _ ?_; clear hK K)
        | (refine ⟨trivial, ?_⟩; gi_at_call 26; refine (CallsIn.inRound lp (callsIn_wide.2 (c2.out _))).mono ?_; rintro e' w1 ⟨v1, rfl, ho1, hb1⟩; have haf := haf.call hb1; have hcv := haf.cell; have hx1 := putL_bytes ho1; dsimp only; refine hK _ _ ?_; clear hK K)
        | (refine ⟨trivial, ?_⟩; gi_at_call 27; refine (CallsIn.inRound lp (callsIn_wide.2 (c3.out _))).mono ?_; rintro e' w1 ⟨rfl, rfl⟩; dsimp only; refine hK _ _ ?_; clear hK K)
      all_goals first | (refine wpAnyIn_ready (rs := [3]) (by decide +kernel) (by simp) (AllReadyIn.cons rfl (fun K hK => ?_) AllReadyIn.nil)) | (refine wpAnyIn_ready (rs := [0]) (by decide +kernel) (by simp) (AllReadyIn.cons rfl (fun K hK => ?_) AllReadyIn.nil))
      all_goals go_simp
      all_goals first
        | (refine hK _ _ ?_; clear hK K)
        | (refine ⟨trivial, ?_⟩; gi_at_call 26; refine (CallsIn.inRound lp (callsIn_wide.2 (c2.out _))).mono ?_; rintro e' w1 ⟨v1, rfl, ho1, hb1⟩; have haf := haf.call hb1; have hcv := haf.cell; have hx1 := putL_bytes ho1; dsimp only; refine hK _ _ ?_; clear hK K)
        | (refine ⟨trivial, ?_⟩; gi_at_call 27; refine (CallsIn.inRound lp (callsIn_wide.2 (c3.out _))).mono ?_; rintro e' w1 ⟨rfl, rfl⟩; dsimp only; refine hK _ _ ?_; clear hK K)
      all_goals refine wpAnyIn_ready (rs := [4]) (by decide +kernel) (by simp) (AllReadyIn.cons rfl (fun K hK => ?_) AllReadyIn.nil)
      all_goals (obtain ⟨g2, n2, k2, w2, hr2, hcv, hfr, haf⟩ := haf.app (by decide) hx1 (putL_pos _) hbd 26; refine stepIn_append rfl (.tmp 15) (.tmp 18) _ rfl rfl rfl hr2 ?_; refine hK _ _ ?_; clear hK K)
      all_goals refine wpAnyIn_ready (rs := [5]) (by decide +kernel) (by simp) (AllReadyIn.cons rfl (fun K hK => ?_) AllReadyIn.nil)
      all_goals go_simp
      all_goals (refine hK _ _ ?_; clear hK K)
      all_goals refine wpAnyIn_done (by decide +kernel) ?_ _
      all_goals exact ⟨haf.keep.from _, haf.save, ⟨⟨_, haf.box, by rw [List.map_append, List.map_singleton, enc_snoc, hz.out]; exact haf.own, trivial⟩, hB.trans haf.below⟩, haf.seq⟩
    have hbd : ((encR (pre.map (·.1))).length + (putL m).length) * 8 ≤ 140737488355328 := by omega
    refine wpIn_region_any (by assumption) ?_
    change wpAnyIn _ _ _ _ _ _ _ _ _ (World.drew _)
    all_goals refine wpAnyIn_ready (rs := [0, 1]) (by decide +kernel) (by simp) (AllReadyIn.cons rfl (fun K hK => ?_) (AllReadyIn.cons rfl (fun K hK => ?_) AllReadyIn.nil))
    all_goals go_simp
    all_goals first
      | (refine hK _ _ ?_; clear hK K)
      | (refine ⟨trivial, ?_⟩; gi_at_call 26; refine (CallsIn.inRound lp (callsIn_wide.2 (c1.out _))).mono ?_; rintro e' w1 ⟨v1, rfl, ho1, hb1⟩; have haf := haf.call hb1; have hcv := haf.cell; have hx1 := putL_bytes ho1; dsimp only; refine hK _ _ ?_; clear hK K)
    all_goals first | (refine wpAnyIn_ready (rs := [1]) (by decide +kernel) (by simp) (AllReadyIn.cons rfl (fun K hK => ?_) AllReadyIn.nil)) | (refine wpAnyIn_ready (rs := [0, 2]) (by decide +kernel) (by simp) (AllReadyIn.cons rfl (fun K hK => ?_) (AllReadyIn.cons rfl (fun K hK => ?_) AllReadyIn.nil)))
    all_goals go_simp
    all_goals first
      | (refine hK _ _ ?_; clear hK K)
      | (refine ⟨trivial, ?_⟩; gi_at_call 26; refine (CallsIn.inRound lp (callsIn_wide.2 (c1.out _))).mono ?_; rintro e' w1 ⟨v1, rfl, ho1, hb1⟩; have haf := haf.call hb1; have hcv := haf.cell; have hx1 := putL_bytes ho1; dsimp only; refine hK _ _ ?_; clear hK K)
    all_goals first | (refine wpAnyIn_ready (rs := [2]) (by decide +kernel) (by simp) (AllReadyIn.cons rfl (fun K hK => ?_) AllReadyIn.nil)) | (refine wpAnyIn_ready (rs := [0, 3]) (by decide +kernel) (by simp) (AllReadyIn.cons rfl (fun K hK => ?_) (AllReadyIn.cons rfl (fun K hK => ?_) AllReadyIn.nil)))
    all_goals go_simp
    all_goals first
      | (refine hK _ _ ?_; clear hK K)
      | (refine ⟨trivial, ?_⟩; gi_at_call 26; refine (CallsIn.inRound lp (callsIn_wide.2 (c1.out _))).mono ?_; rintro e' w1 ⟨v1, rfl, ho1, hb1⟩; have haf := haf.call hb1; have hcv := haf.cell; have hx1 := putL_bytes ho1; dsimp only; refine hK _ _ ?_; clear hK K)
    all_goals first | (refine wpAnyIn_ready (rs := [3]) (by decide +kernel) (by simp) (AllReadyIn.cons rfl (fun K hK => ?_) AllReadyIn.nil)) | (refine wpAnyIn_ready (rs := [0]) (by decide +kernel) (by simp) (AllReadyIn.cons rfl (fun K hK => ?_) AllReadyIn.nil))
    all_goals go_simp
    all_goals first
      | (refine hK _ _ ?_; clear hK K)
      | (refine ⟨trivial, ?_⟩; gi_at_call 26; refine (CallsIn.inRound lp (callsIn_wide.2 (c1.out _))).mono ?_; rintro e' w1 ⟨v1, rfl, ho1, hb1⟩; have haf := haf.call hb1; have hcv := haf.cell; have hx1 := putL_bytes ho1; dsimp only; refine hK _ _ ?_; clear hK K)
    all_goals refine wpAnyIn_ready (rs := [4]) (by decide +kernel) (by simp) (AllReadyIn.cons rfl (fun K hK => ?_) AllReadyIn.nil)
    all_goals (obtain ⟨g2, n2, k2, w2, hr2, hcv, hfr, haf⟩ := haf.app (by decide) hx1 (putL_pos _) hbd 26; refine stepIn_append rfl (.tmp 10) (.tmp 13) _ rfl rfl rfl hr2 ?_; refine hK _ _ ?_; clear hK K)
    all_goals refine wpAnyIn_ready (rs := [5]) (by decide +kernel) (by simp) (AllReadyIn.cons rfl (fun K hK => ?_) AllReadyIn.nil)
    all_goals go_simp
    all_goals (refine hK _ _ ?_; clear hK K)
    all_goals refine wpAnyIn_done (by decide +kernel) ?_ _
    all_goals exact h6 _ _ _ _ _ haf
  case done =>
    rintro D ys W hD hys ⟨⟨⟨v, hv1, hrow, _⟩, hB⟩, _⟩ hK
    rw [hys] at hrow
    have hc := hv1.cell
    gi_wp2
    refine ⟨by simp, .inl ⟨_, _, rfl, run_takeDeferred hK, ?_⟩⟩
    exact ⟨_, results_tmp rfl _ _ _, v, rfl, ownsRow_putObj (show Own W w.heap.size v (bytesR l) from hrow) _ hK rfl, hB.trans (belowK_b (w := w) (Nat.le_refl _) W D _ _ (by simp at hD; omega) hK rfl rfl)⟩
  case stop =>
    rintro D c pre W _ _ h _
    exact h.elim
end Go.Proofs.Ytdonbgejnllhlaa
