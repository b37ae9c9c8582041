/-
  Bools, the code's own: how many there are of each run of truths, in a new row; 0 ahead, where the first is true.
-/
import Derived.Test.YtdonbgejnllhlaaCcRuns
namespace Go.Proofs.Ytdonbgejnllhlaa
open Go.RowKit Go.Sort

attribute [local go_sem] Oper.semAt_some

theorem encB_few : ∀ (rs : List RunT), (encB (rs.map (·.1.1))).length ≤ 10 * rs.length
  | [] => by simp [encB]
  | ⟨(k, x), hk⟩ :: r => by
    have ih := encB_few r
    dsimp only at hk
    have h1 := putL_len10 (n := k) (by omega)
    simp only [List.map_cons, encB, List.length_append, List.length_cons]
    omega

/-- What lies where the loop begins. -/
structure Begun (w W : World) (a : Option Addr) (n c Bs : Nat) (ini : List Nat) : Prop where
  box : ∃ v, Boxed W w.heap.size 26 v ∧ Own W w.heap.size v ini
  seq : Boxed W Bs 23 (.slice a n c)
  below : Below w.heap.size w W
  ne : w.heap.size < Bs

theorem begun_nil (w : World) (a : Option Addr) (n c : Nat) : Begun w ((w.alloc (.cells #[.slice none 0 0] 26)).alloc (.cells #[.slice a n c] 23)) a n c (w.heap.size + 1) [] := by
  have bO := Boxed.new w 26 (.slice none 0 0)
  have bN := Boxed.new (w.alloc (.cells #[.slice none 0 0] 26)) 23 (.slice a n c)
  rw [World.size_alloc] at bN
  exact ⟨⟨_, bO.alloc _, own_none _ _⟩, bN, ((Below.refl _ w).alloc (Nat.le_refl _) _).alloc (by simp) _, by omega⟩

theorem begun_put {w w1 : World} {A : Option Addr} {k j : Nat} {ini : List Nat} (hb1 : Below (w.alloc (.cells #[.slice none 0 0] 26)).heap.size (w.alloc (.cells #[.slice none 0 0] 26)) w1)
    (ho1 : Own w1 (w.alloc (.cells #[.slice none 0 0] 26)).heap.size (.slice A k j) ini) (a : Option Addr) (n c : Nat) :
    Begun w ((w1.setCell ⟨w.heap.size, 0, none⟩ (.slice A k j)).alloc (.cells #[.slice a n c] 23)) a n c w1.heap.size ini := by
  have bO : Boxed w1 w.heap.size 26 (.slice none 0 0) := (hb1.block _ (by simp)).trans (Boxed.new w 26 (.slice none 0 0))
  have hlo : Own w1 w.heap.size (.slice A k j) ini := ho1.lower (by simp)
  have hs := hb1.size
  rw [World.size_alloc] at hs
  have hsz : (w1.setCell ⟨w.heap.size, 0, none⟩ (.slice A k j)).heap.size = w1.heap.size := by simp [World.setCell]
  have bN := Boxed.new (w1.setCell ⟨w.heap.size, 0, none⟩ (.slice A k j)) 23 (.slice a n c)
  rw [hsz] at bN
  exact ⟨⟨_, (bO.set _).alloc _, World.ownsRow.alloc (World.ownsRow.kept hlo (grownBy_setCell' w1 w.heap.size _) (.inr (bO.not_row (by decide) hlo).symm)) _⟩, bN,
    ((below_box hb1).setCell (p := ⟨w.heap.size, 0, none⟩) (Nat.le_refl _) _).alloc (by rw [hsz]; omega) _, by omega⟩

/-- What stands ahead: 0, where the first is true. -/
def aheadB (l : List Bool) : List Nat := if l.head? = some true then putL 0 else []
theorem ahead_short (l : List Bool) : (aheadB l).length ≤ 10 := by
  unfold aheadB; split
  · exact putL_len10 (by omega)
  · simp

set_option maxRecDepth 20000 in
set_option maxHeartbeats 8000000 in
theorem cBools_any (v : Value) (l : List Bool) (w : World) (hv : TruthsAt w v l) (hl : l.length ≤ 65536) :
    Calls Try.prog 15 #[v] w fun e w' => ∃ v', e = .returned v' ∧ Own w' w.heap.size v' (bytesB l) ∧ Below w.heap.size w w' := by
  have hlv := fun W => hv.len (ty := 3) W
  have HW : (l.length = 0 ∧ Hid (aheadB l = [])) ∨ (0 < l.length ∧ ∃ ad x, (∀ W, (Instr.indexAt 23 v (.int .i64 0)).run Try.prog W = .ok (.pointer (some ad)) W) ∧ w.cell? ad = some (.bool x) ∧ ad.block < w.heap.size ∧ Hid (aheadB l = if x = true then putL 0 else [])) := by
    cases l with
    | nil => exact .inl ⟨rfl, Lib.hid rfl⟩
    | cons x t =>
      obtain ⟨ad, h1, h2, h3⟩ := hv.index (k := 0) (by simp)
      exact .inr ⟨by simp, ad, x, h1, by simpa using h2, h3, Lib.hid (by cases x <;> rfl)⟩
  obtain ⟨a, c, rfl, _⟩ := id hv
  rw [truths_len] at hv hlv HW ⊢
  refine (callsIn_wide (n := 3)).1 ?_
  refine callsIn_of_wp_marks Try.func15 rfl trivial ?_ rfl
  simp only [Try.ntmps15, List.size_toArray, List.length_cons, List.length_nil, Nat.reduceAdd, Nat.reduceSub, Array.replicate_succ, Array.replicate_zero, List.push_toArray, List.append_toArray, List.nil_append, List.cons_append]
  have hv := Lib.hid hv
  have hl := Lib.hid hl
  have c0 := hide (fun W => put_any 0 (by omega) W)
  rcases HW with ⟨h0, hh⟩ | ⟨h0, ad, x, hix, hcx, hab, hh⟩
  · have hq : decide (0 < l.length) = false := decide_eq_false (by omega)
    clear h0
    gi_wp2_with (refine ⟨trivial, ?_⟩; gi_at_call 30; refine (seqT_in Fence.wide _ trivial rfl _ _ _ _).mono ?_; rintro e w' ⟨rfl, rfl⟩)
    obtain ⟨W1, hW1⟩ : ∃ W1, (w.alloc (.cells #[.slice none 0 0] 26)).alloc (.cells #[.slice a l.length c] 23) = W1 := ⟨_, rfl⟩
    have hbg := begun_nil w a l.length c
    rw [hW1] at hbg ⊢
    rw [← hh.out] at hbg
    clear hW1
    obtain ⟨Bs, hBs⟩ : ∃ Bs, w.heap.size + 1 = Bs := ⟨_, rfl⟩
    rw [hBs] at hbg ⊢
    refine wpIn_rangeFunc_ownG (F := Fence.wide) rfl (by omega) (gf := 39) (lb := #[.pointer (some ⟨Bs, 0, none⟩)]) rfl trivial (enters_of Try.func39 (by kernel_rfl) rfl)
      (iterT_stops Fence.wide _ trivial rfl (by omega) Bs _ l hl.out w _ hv.out hbg.seq.lt hbg.below hbg.seq.cell)
      Save.trans (save_put hbg.below.size hbg.seq.lt) (Below.refl _ _) (fun _ => rfl)
      (fun pre W => ((∃ v, Boxed W w.heap.size 26 v ∧ W.ownsRow w.heap.size 5 1 v (aheadB l ++ encB (pre.map (·.1.1))).length (bvals (aheadB l ++ encB (pre.map (·.1.1)))) ∧ True) ∧ Below w.heap.size w W) ∧ Boxed W Bs 23 (.slice a l.length c))
      (fun _ _ _ => False)
      (own_row_from w (fun pre : List RunT => aheadB l ++ encB (pre.map (·.1.1))) (Nat.le_refl _) hbg.below.size hbg.seq.lt)
      (fun _ _ _ _ _ hs _ _ => hs)
      ⟨⟨(by obtain ⟨v0, h1, h2⟩ := hbg.box; exact ⟨v0, h1, by rw [show aheadB l ++ encB (([] : List RunT).map (·.1.1)) = aheadB l by simp [encB]]; exact h2, trivial⟩), hbg.below⟩, hbg.seq⟩
      ?_ ?assign ?body ?done ?stop
    case assign =>
      intro l x W K hK
      gi_wp2
      exact hK
    case body =>
      rintro lp pre ⟨⟨m, x⟩, hm⟩ W ⟨⟨⟨v, hv1, hrow, _⟩, hB⟩, hseq⟩ hlt
      dsimp only at hm
      have hmx : Try.prog.follows .mixedOrders = true := by kernel_rfl
      have haf : After w.heap.size w.heap.size Bs 23 (.slice a l.length c) W W v (aheadB l ++ encB (pre.map (·.1.1))) := ⟨hv1, hseq, hseq, hrow, KeepsOthers.refl _, Below.refl _ _, Nat.le_refl _, by have := hbg.ne; omega⟩
      have haf := haf.drew
      have hcv := haf.cell
      have c1 := hide (fun W => put_any m (by omega) W)
      have hwm : IntKind.u64.wrap (m : Int) = m := by rw [IntKind.wrap_u64]; omega
      have hen := encB_few pre
      have hah := ahead_short l
      have hl2 := hl.out
      have hm10 : (putL m).length ≤ 10 := putL_len10 (by omega)
      have hbd : ((aheadB l ++ encB (pre.map (·.1.1))).length + (putL m).length) * 8 ≤ 140737488355328 := by rw [List.length_append]; omega
      gi_wp2
      refine wpIn_region_any (by assumption) ?_
      change wpAnyIn _ _ _ _ _ _ _ _ _ (World.drew _)
      all_goals refine wpAnyIn_ready (rs := [0, 1]) (by decide +kernel) (by simp) (AllReadyIn.cons rfl (fun K hK => ?_) (AllReadyIn.cons rfl (fun K hK => ?_) AllReadyIn.nil))
      all_goals go_simp
      all_goals first
        | (refine hK _ _ ?_; clear hK K)
        | (refine ⟨trivial, ?_⟩; gi_at_call 26; refine (CallsIn.inRound lp (callsIn_wide.2 (c1.out _))).mono ?_; rintro e' w1 ⟨v1, rfl, ho1, hb1⟩; have haf := haf.call hb1; have hcv := haf.cell; have hx1 := putL_bytes ho1; dsimp only; refine hK _ _ ?_; clear hK K)
      all_goals first | (refine wpAnyIn_ready (rs := [1]) (by decide +kernel) (by simp) (AllReadyIn.cons rfl (fun K hK => ?_) AllReadyIn.nil)) | (refine wpAnyIn_ready (rs := [0, 2]) (by decide +kernel) (by simp) (AllReadyIn.cons rfl (fun K hK => ?_) (AllReadyIn.cons rfl (fun K hK => ?_) AllReadyIn.nil)))
      all_goals go_simp
      all_goals first
        | (refine hK _ _ ?_; clear hK K)
        | (refine ⟨trivial, ?_⟩; gi_at_call 26; refine (CallsIn.inRound lp (callsIn_wide.2 (c1.out _))).mono ?_; rintro e' w1 ⟨v1, rfl, ho1, hb1⟩; have haf := haf.call hb1; have hcv := haf.cell; have hx1 := putL_bytes ho1; dsimp only; refine hK _ _ ?_; clear hK K)
      all_goals first | (refine wpAnyIn_ready (rs := [2]) (by decide +kernel) (by simp) (AllReadyIn.cons rfl (fun K hK => ?_) AllReadyIn.nil)) | (refine wpAnyIn_ready (rs := [0, 3]) (by decide +kernel) (by simp) (AllReadyIn.cons rfl (fun K hK => ?_) (AllReadyIn.cons rfl (fun K hK => ?_) AllReadyIn.nil)))
      all_goals go_simp
      all_goals first
        | (refine hK _ _ ?_; clear hK K)
        | (refine ⟨trivial, ?_⟩; gi_at_call 26; refine (CallsIn.inRound lp (callsIn_wide.2 (c1.out _))).mono ?_; rintro e' w1 ⟨v1, rfl, ho1, hb1⟩; have haf := haf.call hb1; have hcv := haf.cell; have hx1 := putL_bytes ho1; dsimp only; refine hK _ _ ?_; clear hK K)
      all_goals first | (refine wpAnyIn_ready (rs := [3]) (by decide +kernel) (by simp) (AllReadyIn.cons rfl (fun K hK => ?_) AllReadyIn.nil)) | (refine wpAnyIn_ready (rs := [0]) (by decide +kernel) (by simp) (AllReadyIn.cons rfl (fun K hK => ?_) AllReadyIn.nil))
      all_goals go_simp
      all_goals first
        | (refine hK _ _ ?_; clear hK K)
        | (refine ⟨trivial, ?_⟩; gi_at_call 26; refine (CallsIn.inRound lp (callsIn_wide.2 (c1.out _))).mono ?_; rintro e' w1 ⟨v1, rfl, ho1, hb1⟩; have haf := haf.call hb1; have hcv := haf.cell; have hx1 := putL_bytes ho1; dsimp only; refine hK _ _ ?_; clear hK K)
      all_goals refine wpAnyIn_ready (rs := [4]) (by decide +kernel) (by simp) (AllReadyIn.cons rfl (fun K hK => ?_) AllReadyIn.nil)
      all_goals (obtain ⟨g2, n2, k2, w2, hr2, hcv, hfr, haf⟩ := haf.app (by decide) hx1 (putL_pos _) hbd 26; refine stepIn_append rfl (.tmp 19) (.tmp 22) _ rfl rfl rfl hr2 ?_; refine hK _ _ ?_; clear hK K)
      all_goals refine wpAnyIn_ready (rs := [5]) (by decide +kernel) (by simp) (AllReadyIn.cons rfl (fun K hK => ?_) AllReadyIn.nil)
      all_goals go_simp
      all_goals (refine hK _ _ ?_; clear hK K)
      all_goals refine wpAnyIn_done (by decide +kernel) ?_ _
      all_goals exact ⟨haf.keep.from _, haf.save, ⟨⟨_, haf.box, by rw [List.map_append, List.map_singleton, encB_snoc, ← List.append_assoc]; exact haf.own, trivial⟩, hB.trans haf.below⟩, haf.seq⟩
    case done =>
      rintro D ys W hD hys ⟨⟨⟨v, hv1, hrow, _⟩, hB⟩, _⟩ hK
      have hall : aheadB l ++ encB (ys.map (·.1.1)) = bytesB l := by
        rw [bytes_truths, ← hys, List.map_map]; rfl
      rw [hall] at hrow
      have hc := hv1.cell
      gi_wp2
      refine ⟨by simp, .inl ⟨_, _, rfl, run_takeDeferred hK, ?_⟩⟩
      exact ⟨_, results_tmp rfl _ _ _, v, rfl, ownsRow_putObj (show Own W w.heap.size v (bytesB l) from hrow) _ hK rfl, hB.trans (belowK_b (w := w) (Nat.le_refl _) W D _ _ (Nat.le_trans hbg.below.size hD) hK rfl rfl)⟩
    case stop =>
      rintro D c pre W _ _ h _
      exact h.elim
  · have hcx2 : (w.alloc (.cells #[.slice none 0 0] 26)).cell? ad = some (.bool x) := ((below_box1 w _).cell (p := ad) hab).trans hcx
    cases x
    · gi_wp2_with (refine ⟨trivial, ?_⟩; gi_at_call 30; refine (seqT_in Fence.wide _ trivial rfl _ _ _ _).mono ?_; rintro e w' ⟨rfl, rfl⟩)
      obtain ⟨W1, hW1⟩ : ∃ W1, (w.alloc (.cells #[.slice none 0 0] 26)).alloc (.cells #[.slice a l.length c] 23) = W1 := ⟨_, rfl⟩
      have hbg := begun_nil w a l.length c
      rw [hW1] at hbg ⊢
      rw [← show aheadB l = [] by rw [hh.out]; rfl] at hbg
      clear hW1
      obtain ⟨Bs, hBs⟩ : ∃ Bs, w.heap.size + 1 = Bs := ⟨_, rfl⟩
      rw [hBs] at hbg ⊢
      refine wpIn_rangeFunc_ownG (F := Fence.wide) rfl (by omega) (gf := 39) (lb := #[.pointer (some ⟨Bs, 0, none⟩)]) rfl trivial (enters_of Try.func39 (by kernel_rfl) rfl)
        (iterT_stops Fence.wide _ trivial rfl (by omega) Bs _ l hl.out w _ hv.out hbg.seq.lt hbg.below hbg.seq.cell)
        Save.trans (save_put hbg.below.size hbg.seq.lt) (Below.refl _ _) (fun _ => rfl)
        (fun pre W => ((∃ v, Boxed W w.heap.size 26 v ∧ W.ownsRow w.heap.size 5 1 v (aheadB l ++ encB (pre.map (·.1.1))).length (bvals (aheadB l ++ encB (pre.map (·.1.1)))) ∧ True) ∧ Below w.heap.size w W) ∧ Boxed W Bs 23 (.slice a l.length c))
        (fun _ _ _ => False)
        (own_row_from w (fun pre : List RunT => aheadB l ++ encB (pre.map (·.1.1))) (Nat.le_refl _) hbg.below.size hbg.seq.lt)
        (fun _ _ _ _ _ hs _ _ => hs)
        ⟨⟨(by obtain ⟨v0, h1, h2⟩ := hbg.box; exact ⟨v0, h1, by rw [show aheadB l ++ encB (([] : List RunT).map (·.1.1)) = aheadB l by simp [encB]]; exact h2, trivial⟩), hbg.below⟩, hbg.seq⟩
        ?_ ?assign ?body ?done ?stop
      case assign =>
        intro l x W K hK
        gi_wp2
        exact hK
      case body =>
        rintro lp pre ⟨⟨m, x⟩, hm⟩ W ⟨⟨⟨v, hv1, hrow, _⟩, hB⟩, hseq⟩ hlt
        dsimp only at hm
        have hmx : Try.prog.follows .mixedOrders = true := by kernel_rfl
        have haf : After w.heap.size w.heap.size Bs 23 (.slice a l.length c) W W v (aheadB l ++ encB (pre.map (·.1.1))) := ⟨hv1, hseq, hseq, hrow, KeepsOthers.refl _, Below.refl _ _, Nat.le_refl _, by have := hbg.ne; omega⟩
        have haf := haf.drew
        have hcv := haf.cell
        have c1 := hide (fun W => put_any m (by omega) W)
        have hwm : IntKind.u64.wrap (m : Int) = m := by rw [IntKind.wrap_u64]; omega
        have hen := encB_few pre
        have hah := ahead_short l
        have hl2 := hl.out
        have hm10 : (putL m).length ≤ 10 := putL_len10 (by omega)
        have hbd : ((aheadB l ++ encB (pre.map (·.1.1))).length + (putL m).length) * 8 ≤ 140737488355328 := by rw [List.length_append]; omega
        gi_wp2
        refine wpIn_region_any (by assumption) ?_
        change wpAnyIn _ _ _ _ _ _ _ _ _ (World.drew _)
        all_goals refine wpAnyIn_ready (rs := [0, 1]) (by decide +kernel) (by simp) (AllReadyIn.cons rfl (fun K hK => ?_) (AllReadyIn.cons rfl (fun K hK => ?_) AllReadyIn.nil))
        all_goals go_simp
        all_goals first
          | (refine hK _ _ ?_; clear hK K)
          | (refine ⟨trivial, ?_⟩; gi_at_call 26; refine (CallsIn.inRound lp (callsIn_wide.2 (c1.out _))).mono ?_; rintro e' w1 ⟨v1, rfl, ho1, hb1⟩; have haf := haf.call hb1; have hcv := haf.cell; have hx1 := putL_bytes ho1; dsimp only; refine hK _ _ ?_; clear hK K)
        all_goals first | (refine wpAnyIn_ready (rs := [1]) (by decide +kernel) (by simp) (AllReadyIn.cons rfl (fun K hK => ?_) AllReadyIn.nil)) | (refine wpAnyIn_ready (rs := [0, 2]) (by decide +kernel) (by simp) (AllReadyIn.cons rfl (fun K hK => ?_) (AllReadyIn.cons rfl (fun K hK => ?_) AllReadyIn.nil)))
        all_goals go_simp
        all_goals first
          | (refine hK _ _ ?_; clear hK K)
          | (refine ⟨trivial, ?_⟩; gi_at_call 26; refine (CallsIn.inRound lp (callsIn_wide.2 (c1.out _))).mono ?_; rintro e' w1 ⟨v1, rfl, ho1, hb1⟩; have haf := haf.call hb1; have hcv := haf.cell; have hx1 := putL_bytes ho1; dsimp only; refine hK _ _ ?_; clear hK K)
        all_goals first | (refine wpAnyIn_ready (rs := [2]) (by decide +kernel) (by simp) (AllReadyIn.cons rfl (fun K hK => ?_) AllReadyIn.nil)) | (refine wpAnyIn_ready (rs := [0, 3]) (by decide +kernel) (by simp) (AllReadyIn.cons rfl (fun K hK => ?_) (AllReadyIn.cons rfl (fun K hK => ?_) AllReadyIn.nil)))
        all_goals go_simp
        all_goals first
          | (refine hK _ _ ?_; clear hK K)
          | (refine ⟨trivial, ?_⟩; gi_at_call 26; refine (CallsIn.inRound lp (callsIn_wide.2 (c1.out _))).mono ?_; rintro e' w1 ⟨v1, rfl, ho1, hb1⟩; have haf := haf.call hb1; have hcv := haf.cell; have hx1 := putL_bytes ho1; dsimp only; refine hK _ _ ?_; clear hK K)
        all_goals first | (refine wpAnyIn_ready (rs := [3]) (by decide +kernel) (by simp) (AllReadyIn.cons rfl (fun K hK => ?_) AllReadyIn.nil)) | (refine wpAnyIn_ready (rs := [0]) (by decide +kernel) (by simp) (AllReadyIn.cons rfl (fun K hK => ?_) AllReadyIn.nil))
        all_goals go_simp
        all_goals first
          | (refine hK _ _ ?_; clear hK K)
          | (refine ⟨trivial, ?_⟩; gi_at_call 26; refine (CallsIn.inRound lp (callsIn_wide.2 (c1.out _))).mono ?_; rintro e' w1 ⟨v1, rfl, ho1, hb1⟩; have haf := haf.call hb1; have hcv := haf.cell; have hx1 := putL_bytes ho1; dsimp only; refine hK _ _ ?_; clear hK K)
        all_goals refine wpAnyIn_ready (rs := [4]) (by decide +kernel) (by simp) (AllReadyIn.cons rfl (fun K hK => ?_) AllReadyIn.nil)
        all_goals (obtain ⟨g2, n2, k2, w2, hr2, hcv, hfr, haf⟩ := haf.app (by decide) hx1 (putL_pos _) hbd 26; refine stepIn_append rfl (.tmp 19) (.tmp 22) _ rfl rfl rfl hr2 ?_; refine hK _ _ ?_; clear hK K)
        all_goals refine wpAnyIn_ready (rs := [5]) (by decide +kernel) (by simp) (AllReadyIn.cons rfl (fun K hK => ?_) AllReadyIn.nil)
        all_goals go_simp
        all_goals (refine hK _ _ ?_; clear hK K)
        all_goals refine wpAnyIn_done (by decide +kernel) ?_ _
        all_goals exact ⟨haf.keep.from _, haf.save, ⟨⟨_, haf.box, by rw [List.map_append, List.map_singleton, encB_snoc, ← List.append_assoc]; exact haf.own, trivial⟩, hB.trans haf.below⟩, haf.seq⟩
      case done =>
        rintro D ys W hD hys ⟨⟨⟨v, hv1, hrow, _⟩, hB⟩, _⟩ hK
        have hall : aheadB l ++ encB (ys.map (·.1.1)) = bytesB l := by
          rw [bytes_truths, ← hys, List.map_map]; rfl
        rw [hall] at hrow
        have hc := hv1.cell
        gi_wp2
        refine ⟨by simp, .inl ⟨_, _, rfl, run_takeDeferred hK, ?_⟩⟩
        exact ⟨_, results_tmp rfl _ _ _, v, rfl, ownsRow_putObj (show Own W w.heap.size v (bytesB l) from hrow) _ hK rfl, hB.trans (belowK_b (w := w) (Nat.le_refl _) W D _ _ (Nat.le_trans hbg.below.size hD) hK rfl rfl)⟩
      case stop =>
        rintro D c pre W _ _ h _
        exact h.elim
    · gi_wp2_with (refine ⟨trivial, ?_⟩; first | (gi_at_call 30; refine (seqT_in Fence.wide _ trivial rfl _ _ _ _).mono ?_; rintro e w' ⟨rfl, rfl⟩) | (gi_at_call 26; refine (callsIn_wide.2 (c0.out _)).mono ?_; rintro e' w1 ⟨v1, rfl, ho1, hb1⟩; obtain ⟨A1, n1, k1, rfl⟩ : ∃ A1 n1 k1, v1 = .slice A1 n1 k1 := (by obtain ⟨A1, k1, h1, _⟩ := (putL_bytes ho1).row; exact ⟨A1, _, k1, h1⟩); have hb0 : Boxed w1 w.heap.size 26 (.slice none 0 0) := (hb1.block _ (by simp)).trans (Boxed.new w 26 (.slice none 0 0)); have hc1 := hb0.cell; have hf1 := hb0.frozen))
      obtain ⟨W1, hW1⟩ : ∃ W1, (w1.setCell ⟨w.heap.size, 0, none⟩ (.slice A1 n1 k1)).alloc (.cells #[.slice a l.length c] 23) = W1 := ⟨_, rfl⟩
      have hbg := begun_put hb1 ho1 a l.length c
      rw [hW1] at hbg ⊢
      rw [← show aheadB l = putL 0 by rw [hh.out]; rfl] at hbg
      clear hW1
      obtain ⟨Bs, hBs⟩ : ∃ Bs, w1.heap.size = Bs := ⟨_, rfl⟩
      rw [hBs] at hbg ⊢
      refine wpIn_rangeFunc_ownG (F := Fence.wide) rfl (by omega) (gf := 39) (lb := #[.pointer (some ⟨Bs, 0, none⟩)]) rfl trivial (enters_of Try.func39 (by kernel_rfl) rfl)
        (iterT_stops Fence.wide _ trivial rfl (by omega) Bs _ l hl.out w _ hv.out hbg.seq.lt hbg.below hbg.seq.cell)
        Save.trans (save_put hbg.below.size hbg.seq.lt) (Below.refl _ _) (fun _ => rfl)
        (fun pre W => ((∃ v, Boxed W w.heap.size 26 v ∧ W.ownsRow w.heap.size 5 1 v (aheadB l ++ encB (pre.map (·.1.1))).length (bvals (aheadB l ++ encB (pre.map (·.1.1)))) ∧ True) ∧ Below w.heap.size w W) ∧ Boxed W Bs 23 (.slice a l.length c))
        (fun _ _ _ => False)
        (own_row_from w (fun pre : List RunT => aheadB l ++ encB (pre.map (·.1.1))) (Nat.le_refl _) hbg.below.size hbg.seq.lt)
        (fun _ _ _ _ _ hs _ _ => hs)
        ⟨⟨(by obtain ⟨v0, h1, h2⟩ := hbg.box; exact ⟨v0, h1, by rw [show aheadB l ++ encB (([] : List RunT).map (·.1.1)) = aheadB l by simp [encB]]; exact h2, trivial⟩), hbg.below⟩, hbg.seq⟩
        ?_ ?assign ?body ?done ?stop
      case assign =>
        intro l x W K hK
        gi_wp2
        exact hK
      case body =>
        rintro lp pre ⟨⟨m, x⟩, hm⟩ W ⟨⟨⟨v, hv1, hrow, _⟩, hB⟩, hseq⟩ hlt
        dsimp only at hm
        have hmx : Try.prog.follows .mixedOrders = true := by kernel_rfl
        have haf : After w.heap.size w.heap.size Bs 23 (.slice a l.length c) W W v (aheadB l ++ encB (pre.map (·.1.1))) := ⟨hv1, hseq, hseq, hrow, KeepsOthers.refl _, Below.refl _ _, Nat.le_refl _, by have := hbg.ne; omega⟩
        have haf := haf.drew
        have hcv := haf.cell
        have c1 := hide (fun W => put_any m (by omega) W)
        have hwm : IntKind.u64.wrap (m : Int) = m := by rw [IntKind.wrap_u64]; omega
        have hen := encB_few pre
        have hah := ahead_short l
        have hl2 := hl.out
        have hm10 : (putL m).length ≤ 10 := putL_len10 (by omega)
        have hbd : ((aheadB l ++ encB (pre.map (·.1.1))).length + (putL m).length) * 8 ≤ 140737488355328 := by rw [List.length_append]; omega
        gi_wp2
        refine wpIn_region_any (by assumption) ?_
        change wpAnyIn _ _ _ _ _ _ _ _ _ (World.drew _)
        all_goals refine wpAnyIn_ready (rs := [0, 1]) (by decide +kernel) (by simp) (AllReadyIn.cons rfl (fun K hK => ?_) (AllReadyIn.cons rfl (fun K hK => ?_) AllReadyIn.nil))
        all_goals go_simp
        all_goals first
          | (refine hK _ _ ?_; clear hK K)
          | (refine ⟨trivial, ?_⟩; gi_at_call 26; refine (CallsIn.inRound lp (callsIn_wide.2 (c1.out _))).mono ?_; rintro e' w1 ⟨v1, rfl, ho1, hb1⟩; have haf := haf.call hb1; have hcv := haf.cell; have hx1 := putL_bytes ho1; dsimp only; refine hK _ _ ?_; clear hK K)
        all_goals first | (refine wpAnyIn_ready (rs := [1]) (by decide +kernel) (by simp) (AllReadyIn.cons rfl (fun K hK => ?_) AllReadyIn.nil)) | (refine wpAnyIn_ready (rs := [0, 2]) (by decide +kernel) (by simp) (AllReadyIn.cons rfl (fun K hK => ?_) (AllReadyIn.cons rfl (fun K hK => ?_) AllReadyIn.nil)))
        all_goals go_simp
        all_goals first
          | (refine hK _ _ ?_; clear hK K)
          | (refine ⟨trivial, ?_⟩; gi_at_call 26; refine (CallsIn.inRound lp (callsIn_wide.2 (c1.out _))).mono ?_; rintro e' w1 ⟨v1, rfl, ho1, hb1⟩; have haf := haf.call hb1; have hcv := haf.cell; have hx1 := putL_bytes ho1; dsimp only; refine hK _ _ ?_; clear hK K)
        all_goals first | (refine wpAnyIn_ready (rs := [2]) (by decide +kernel) (by simp) (AllReadyIn.cons rfl (fun K hK => ?_) AllReadyIn.nil)) | (refine wpAnyIn_ready (rs := [0, 3]) (by decide +kernel) (by simp) (AllReadyIn.cons rfl (fun K hK => ?_) (AllReadyIn.cons rfl (fun K hK => ?_) AllReadyIn.nil)))
        all_goals go_simp
        all_goals first
          | (refine hK _ _ ?_; clear hK K)
          | (refine ⟨trivial, ?_⟩; gi_at_call 26; refine (CallsIn.inRound lp (callsIn_wide.2 (c1.out _))).mono ?_; rintro e' w1 ⟨v1, rfl, ho1, hb1⟩; have haf := haf.call hb1; have hcv := haf.cell; have hx1 := putL_bytes ho1; dsimp only; refine hK _ _ ?_; clear hK K)
        all_goals first | (refine wpAnyIn_ready (rs := [3]) (by decide +kernel) (by simp) (AllReadyIn.cons rfl (fun K hK => ?_) AllReadyIn.nil)) | (refine wpAnyIn_ready (rs := [0]) (by decide +kernel) (by simp) (AllReadyIn.cons rfl (fun K hK => ?_) AllReadyIn.nil))
        all_goals go_simp
        all_goals first
          | (refine hK _ _ ?_; clear hK K)
          | (refine ⟨trivial, ?_⟩; gi_at_call 26; refine (CallsIn.inRound lp (callsIn_wide.2 (c1.out _))).mono ?_; rintro e' w1 ⟨v1, rfl, ho1, hb1⟩; have haf := haf.call hb1; have hcv := haf.cell; have hx1 := putL_bytes ho1; dsimp only; refine hK _ _ ?_; clear hK K)
        all_goals refine wpAnyIn_ready (rs := [4]) (by decide +kernel) (by simp) (AllReadyIn.cons rfl (fun K hK => ?_) AllReadyIn.nil)
        all_goals (obtain ⟨g2, n2, k2, w2, hr2, hcv, hfr, haf⟩ := haf.app (by decide) hx1 (putL_pos _) hbd 26; refine stepIn_append rfl (.tmp 19) (.tmp 22) _ rfl rfl rfl hr2 ?_; refine hK _ _ ?_; clear hK K)
        all_goals refine wpAnyIn_ready (rs := [5]) (by decide +kernel) (by simp) (AllReadyIn.cons rfl (fun K hK => ?_) AllReadyIn.nil)
        all_goals go_simp
        all_goals (refine hK _ _ ?_; clear hK K)
        all_goals refine wpAnyIn_done (by decide +kernel) ?_ _
        all_goals exact ⟨haf.keep.from _, haf.save, ⟨⟨_, haf.box, by rw [List.map_append, List.map_singleton, encB_snoc, ← List.append_assoc]; exact haf.own, trivial⟩, hB.trans haf.below⟩, haf.seq⟩
      case done =>
        rintro D ys W hD hys ⟨⟨⟨v, hv1, hrow, _⟩, hB⟩, _⟩ hK
        have hall : aheadB l ++ encB (ys.map (·.1.1)) = bytesB l := by
          rw [bytes_truths, ← hys, List.map_map]; rfl
        rw [hall] at hrow
        have hc := hv1.cell
        gi_wp2
        refine ⟨by simp, .inl ⟨_, _, rfl, run_takeDeferred hK, ?_⟩⟩
        exact ⟨_, results_tmp rfl _ _ _, v, rfl, ownsRow_putObj (show Own W w.heap.size v (bytesB l) from hrow) _ hK rfl, hB.trans (belowK_b (w := w) (Nat.le_refl _) W D _ _ (Nat.le_trans hbg.below.size hD) hK rfl rfl)⟩
      case stop =>
        rintro D c pre W _ _ h _
        exact h.elim
end Go.Proofs.Ytdonbgejnllhlaa
