/-
  What a loss of power leaves, at whatever moment, is as the document says: the law.
-/
import Derived.Test.YtpkiapjcilapoaaFsAll
import Derived.Test.YtpkiapjcilapoaaFiCut
import Derived.Deep.CutBlock
import Derived.Deep.CutRange
namespace Go.Proofs.Ytpkiapjcilapoaa
open Go.RowKit Go.Sort Go.Maps

/-- So many acts were played, at both. -/
def PlayedS (n p pr : Nat) (w : World) (k : Nat) (d : CDisk) (wr : World) : Prop := ∃ L born qs, Two n wr p d pr L born 0 ∧ Below n w wr ∧ Sized k d ∧ SizedR k L born ∧ Righted d ∧ Ordered d ∧ NamRight d ∧ Sim d L born 0 qs

set_option maxRecDepth 20000 in
set_option maxHeartbeats 8000000 in
theorem filesLeft_any (w : World) (v : Value) (l : List OpD) (c : CutD) (hv : ScriptAt w v l) (hc : c.Ok w) :
    Calls Try.prog 4 #[v, .agg #[.int .i64 c.at_, .int .i64 c.names, c.kv, .int .i64 c.torn]] w (Ret (.bool true) w) := by
  obtain ⟨hrow, hops⟩ := hv
  obtain ⟨W1, hW1⟩ : ∃ W1, w.alloc (.cells #[.int .i64 c.at_, .int .i64 c.names, c.kv, .int .i64 c.torn] 33) = W1 := ⟨_, rfl⟩
  have hbx : W1.heap[w.heap.size]? = some (.cells #[.int .i64 c.at_, .int .i64 c.names, c.kv, .int .i64 c.torn] 33 (0, 0)) := by rw [← hW1]; exact heap_alloc_new w _
  have hb1 : Below w.heap.size w W1 := by rw [← hW1]; exact below_box1 _ _
  have hxl : w.heap.size < W1.heap.size := (Array.getElem?_eq_some_iff.1 hbx).1
  have hlv : ∀ W, (Builtin.len_ #[22] 3 #[v]).run Try.prog W = .ok (.int .i64 (l.length : Nat)) W := fun W => by
    have := hrow.len htOp (ty := 3) W; rwa [List.length_map] at this
  have hle := hrow.le
  rw [List.length_map] at hle
  have hrow := Lib.hid (hrow.below hb1)
  have hops := Lib.hid (fun x hx => (hops x hx).below hb1)
  have hcn := hc.names
  have hct := hc.torn
  have hca := hc.at_
  have hkp := Lib.hid (RowAt.below (w := w) (w' := W1) hc.keep hb1)
  have cN := Lib.hid (new_any W1 (Nat.le_refl _))
  have hbx := Lib.hid hbx
  have hb1 := Lib.hid hb1
  clear hc
  go_enter Try.func4, Try.ntmps4
  go_upto_block 0 with (first
    | (go_at_call 8; refine cN.out.mono ?_; rintro e' w2 ⟨rfl, hd2, hb2⟩; have hd2 := Lib.hid hd2; have hb2 := Lib.hid hb2)
    | (go_at_call 9; refine (alive_any _).mono ?_; rintro e' w3 ⟨rfl, hb3⟩))
  have hT2 : Two W1.heap.size (w2.alloc (.cells #[.slice none 0 0, .int .i64 0, .int .i64 0] 28)) W1.heap.size newDisk w2.heap.size [] 0 0 := two_new hd2.out
  have hT0 := hT2.below hb3
  have hB0 : Below W1.heap.size W1 w3 := then_call (then_box hb2.out _) hb3
  obtain ⟨pr, hpr⟩ : ∃ pr, w2.heap.size = pr := ⟨_, rfl⟩
  rw [hpr] at hT0
  rw [hpr]
  clear hT2
  go_cut [7] from 20 to 51 (fun _ wx => ∃ (i : Nat) (d : CDisk), i ≤ 60 ∧ Hid (PlayedS W1.heap.size W1.heap.size pr W1 i d wx))
  case first => as_aux_lemma =>
    go_wp2_with fail
    go_loopw [7] (fun t wr => ∃ (i : Nat) (d : CDisk), t = .int .i64 (i : Nat) ∧ i ≤ l.length ∧ i ≤ 60 ∧ Hid (PlayedS W1.heap.size W1.heap.size pr W1 i d wr)) (fun t _ => l.length - (intOf t).toNat)
    case atStart => exact ⟨0, newDisk, rfl, by omega, by omega, Lib.hid ⟨[], 0, [], hT0, hB0, sized_new, sizedR_new, righted_new, ordered_new, namRight_new, sim_new⟩⟩
    case round =>
      clear hT0 hB0
      obtain ⟨i, d, rfl, hi, hi60, hpl⟩ := hrel
      by_cases hgo : i < l.length ∧ i < 60
      · obtain ⟨hil, hi6⟩ := hgo
        have q1 : decide ((i : Int) < (l.length : Int)) = true := decide_eq_true (by omega)
        have q2 : decide ((i : Int) < 60) = true := decide_eq_true (by omega)
        obtain ⟨x, hx⟩ : ∃ x, l[i]? = some x := ⟨_, List.getElem?_eq_getElem hil⟩
        obtain ⟨L, born, qs, hT, hB, hS, hSR, hR, hO, hNR, hSim⟩ := hpl.out
        have hxo := (hops.out x (List.mem_of_getElem? hx))
        obtain ⟨b, off, hix, hc, hbl, _⟩ := (hrow.out.below hB).index htOp hsOp (i := i) (x := x.cells) (by rw [List.getElem?_map, hx]; rfl)
        have k0 : wr.cell? ⟨b, off, none⟩ = some (.int .i64 x.kind) := hc 0 _ rfl
        have k1 : wr.cell? ⟨b, off + 1, none⟩ = some (.string x.nm) := hc 1 _ rfl
        have k2 : wr.cell? ⟨b, off + 2, none⟩ = some (.string x.s) := hc 2 _ rfl
        have k3 : wr.cell? ⟨b, off + 3, none⟩ = some x.bv := hc 3 _ rfl
        have k4 : wr.cell? ⟨b, off + 4, none⟩ = some (.int .i64 x.at_) := hc 4 _ rfl
        have k5 : wr.cell? ⟨b, off + 5, none⟩ = some (.int .i64 x.names) := hc 5 _ rfl
        have k6 : wr.cell? ⟨b, off + 6, none⟩ = some x.kv := hc 6 _ rfl
        have k7 : wr.cell? ⟨b, off + 7, none⟩ = some (.int .i64 x.torn) := hc 7 _ rfl
        have hbv := hxo.b.below hB
        have hlx := fun W => hbv.len (ty := 3) W
        have hp0 : Hid (PlayedS W1.heap.size W1.heap.size pr W1 (i + 1) d wr) := Lib.hid ⟨L, born, qs, hT, hB, hS.mono (by omega), ⟨by have := hSR.len; omega, by have := hSR.born; omega, fun f => by have := hSR.held f; omega⟩, hR, hO, hNR, hSim⟩
        rcases Nat.lt_or_ge 1000 x.b.length with hbig | hsm
        · have hq : decide ((x.b.length : Int) ≤ 1000) = false := decide_eq_false (by omega)
          clear hc hx hxo hbv hT hB hS hSR hR hO hNR hSim hpl hbig
          go_wp2
          go_roundw
          case rel => exact ⟨i + 1, d, by go_num, by omega, by omega, hp0⟩
          case measure => simp [intOf]; omega
        · have hq : decide ((x.b.length : Int) ≤ 1000) = true := decide_eq_true (by omega)
          by_cases h7 : x.kind = 7
          · have hk7 : (x.kind != 7) = false := by simp [h7]
            clear hc hx hxo hbv hT hB hS hSR hR hO hNR hSim hpl h7
            go_wp2
            go_roundw
            case rel => exact ⟨i + 1, d, by go_num, by omega, by omega, hp0⟩
            case measure => simp [intOf]; omega
          · have hk7 : (x.kind != 7) = true := by simp [h7]
            obtain ⟨lvr, Br, kk1, kk2, kk3⟩ := id hT
            have cA := Lib.hid (act_any kk1 kk2 kk3 (hS.small (by omega)) (by have := hSR.len; omega) (by have := hSR.born; omega) (fun f => by have := hSR.held f; omega) x.kind x.nm x.s x.bv x.kv x.b x.at_ x.names x.torn hxo.nm hxo.s hbv (fun hne => hxo.b.low hne) hsm)
            unfold opV at cA
            clear hc hx kk1 kk2 kk3
            have hT := Lib.hid hT
            have hB := Lib.hid hB
            have hS := Lib.hid hS
            have hSR := Lib.hid hSR
            have hR := Lib.hid hR
            have hO := Lib.hid hO
            have hNR := Lib.hid hNR
            have hSim := Lib.hid hSim
            clear hxo hbv hpl hp0 h7
            have hsm := Lib.hid hsm
            go_wp2_with (go_at_call 12; refine cA.out.mono ?_; rintro e' w4 ⟨e1, e2, d', L', born', rfl, t1, t2, _, t3, t4⟩; obtain ⟨_, qs', hSim'⟩ := hSim.out.act hT.out.k (fun f hf => (hT.out.k.low f.q (List.mem_append_left _ (CDisk.wb_file hf _ (by simp [CFile.wb])))).2) t3 t4; have hp' : Hid (PlayedS W1.heap.size W1.heap.size pr W1 (i + 1) d' w4) := Lib.hid ⟨L', born', qs', t1, hB.out.trans t2, t3.sized hS.out, t4.sized hsm.out hSR.out, t3.righted hR.out, t3.ordered hT.out.k.named hR.out hO.out (by have := hS.out.calls; omega), t3.namRight hNR.out, hSim'⟩; clear t1 t2 t3 t4 hSim')
            go_roundw
            case rel => exact ⟨i + 1, d', by go_num, by omega, by omega, hp'⟩
            case measure => simp [intOf]; omega
      · have hqq : decide (i < l.length) = false ∨ (decide (i < l.length) = true ∧ decide ((i : Int) < 60) = false) := by
          by_cases hh : i < l.length
          · exact .inr ⟨decide_eq_true (by omega), decide_eq_false (by omega)⟩
          · exact .inl (decide_eq_false (by omega))
        rcases hqq with q1 | ⟨q1, q2⟩
        all_goals
          go_wp2
          go_meet
          case rel => exact ⟨i, d, hi60, hpl⟩
  case rest => as_aux_lemma =>
    obtain ⟨i, d, hi60, hpl⟩ := hcut
    obtain ⟨L, born, qs, hT, hB, hS, hSR, hR, hO, hNR, hSim⟩ := hpl.out
    obtain ⟨lv, B, hk, hr, hsep⟩ := hT
    have hwc : ∃ wG, wG = wc := ⟨_, rfl⟩
    obtain ⟨wG, rfl⟩ := hwc
    have hbxc := cells_kept hbx.out (Turns.of_below (F := []) hB) (by simp)
    have x0 := cell_at (i := 0) hbxc rfl
    have x1 := cell_at (i := 1) hbxc rfl
    have x2 := cell_at (i := 2) hbxc rfl
    have x3 := cell_at (i := 3) hbxc rfl
    have hxlG : w.heap.size < wG.heap.size := (Array.getElem?_eq_some_iff.1 hbxc).1
    have hkpG : KeepAt wG c.kv c.keep := RowAt.below hkp.out hB
    have hBw : Below w.heap.size w wG := hb1.out.trans (hB.mono hb1.out.size)
    have hBo : Both W1.heap.size W1.heap.size wG d W1.heap.size pr lv L born 0 B qs := ⟨hk, hr, hSim, hO, hS.small (by omega), hR, by have := hSR.len; omega, fun f => by have := hSR.held f; omega⟩
    have hL60 := hSR.len
    have cX := Lib.hid (cut_any hk hO.ord (hS.small (by omega)) c.at_ c.names hca.1 hca.2 hcn.1 hcn.2 hkpG c.torn hct.1 hct.2)
    have cY := Lib.hid (fun (W : World) (hW : Below wG.heap.size wG W) => refCut_any (hr.below hW) (by omega) (fun f => by have := hSR.held f; omega) (Nat.zero_le _) c.at_ c.names c.torn hca.1 hca.2 hcn.1 hcn.2 hct.1 hct.2 (kv := c.kv) (keep := c.keep) (RowAt.below hkpG hW))
    have hBo := Lib.hid hBo
    have hBw := Lib.hid hBw
    have hNR := Lib.hid hNR
    clear hpl hT0 hB0 hbxc hk hr hsep hB hS hSR hR hO hSim hkpG
    go_wp2_with (first
      | (go_at_call 10; refine cX.out.mono ?_; rintro e' w8 ⟨pl, dl, sv, rfl, hx1, hx2, hx3⟩; have y0 : w8.cell? ⟨w.heap.size, 0, none⟩ = some (.int .i64 c.at_) := (hx3.cell (p := ⟨w.heap.size, 0, none⟩) hxlG).trans x0; have y1 : w8.cell? ⟨w.heap.size, 1, none⟩ = some (.int .i64 c.names) := (hx3.cell (p := ⟨w.heap.size, 1, none⟩) hxlG).trans x1; have y2 : w8.cell? ⟨w.heap.size, 2, none⟩ = some c.kv := (hx3.cell (p := ⟨w.heap.size, 2, none⟩) hxlG).trans x2; have y3 : w8.cell? ⟨w.heap.size, 3, none⟩ = some (.int .i64 c.torn) := (hx3.cell (p := ⟨w.heap.size, 3, none⟩) hxlG).trans x3; have hx3 := Lib.hid hx3)
      | (go_at_call 11; refine (cY.out _ hx3.out).mono ?_; rintro e' w9 ⟨q, lv', L', B', b', rfl, hy1, hy2, rfl, hy3⟩; obtain ⟨qs', hBx, _⟩ := hBo.out.cut hNR.out (by omega) sv hx2 hy2 (hx1.below hy3) hy1; have cAl := Lib.hid (alike_both hBx); have hB9 := Lib.hid (hx3.out.trans (hy3.mono hx3.out.size)); clear hBx)
      | (go_at_call 13; refine cAm.out.mono ?_; rintro e' w11 ⟨rfl, hb11⟩)
      | (go_at_call 13; refine cAl.out.mono ?_; rintro e' w10 ⟨rfl, hb10⟩; have hB10 := Lib.hid (then_call hB9.out hb10); have cAm := Lib.hid (alike_both (hBo.out.below hB10.out))))
    go_ret
    exact ⟨rfl, hBw.out.trans ((then_call hB10.out hb11).mono hBw.out.size)⟩

theorem filesLeft_walk (w : World) (v : Value) (l : List OpD) (c : CutD) (hv : ScriptAt w v l) (hc : c.Ok w) :
    Calls Try.prog 4 #[v, .agg #[.int .i64 c.at_, .int .i64 c.names, c.kv, .int .i64 c.torn]] w (Ret (.bool true) w) := filesLeft_any w v l c hv hc
end Go.Proofs.Ytpkiapjcilapoaa
