/-
  Any script, losses of power among its acts, is answered as the document says: the law.
-/
import Derived.Test.YtpkiapjcilapoaaFsAll
import Derived.Test.YtpkiapjcilapoaaFiCut
import Derived.Deep.CutBlock
import Derived.Deep.CutRange
namespace Go.Proofs.Ytpkiapjcilapoaa
open Go.RowKit Go.Sort Go.Maps

/-- So many acts were played, at both; power may have gone. -/
def Plays (n : Nat) (w : World) (i p pr : Nat) (wr : World) : Prop := ∃ d L born base qs, Two n wr p d pr L born base ∧ Below n w wr ∧ Sized (25 + i) d ∧ SizedR (25 + i) L born ∧ Righted d ∧ Ordered d ∧ NamRight d ∧ Sim d L born base qs ∧ Eight L base
theorem Plays.more {n : Nat} {w : World} {i p pr : Nat} {wr w2 : World} (h : Plays n w i p pr wr) (hb : Below wr.heap.size wr w2) : Plays n w (i + 1) p pr w2 := by
  obtain ⟨d, L, born, base, qs, hT, hB, hS, hSR, hR, hO, hNR, hSim, h8⟩ := h
  exact ⟨d, L, born, base, qs, hT.below hb, hB.trans (hb.mono hT.nle), hS.mono (by omega), ⟨by have := hSR.len; omega, by have := hSR.born; omega, fun f => by have := hSR.held f; omega⟩, hR, hO, hNR, hSim, h8⟩
theorem Plays.stay {n : Nat} {w : World} {i p pr : Nat} {wr w2 : World} (h : Plays n w i p pr wr) (hb : Below wr.heap.size wr w2) : Plays n w i p pr w2 := by
  obtain ⟨d, L, born, base, qs, hT, hB, hS, hSR, hR, hO, hNR, hSim, h8⟩ := h
  exact ⟨d, L, born, base, qs, hT.below hb, hB.trans (hb.mono hT.nle), hS, hSR, hR, hO, hNR, hSim, h8⟩

set_option maxRecDepth 20000 in
set_option maxHeartbeats 8000000 in
theorem filesPlays_any (w : World) (v : Value) (l : List OpD) (hv : ScriptAt w v l) :
    Calls Try.prog 3 #[v] w (Ret (.bool true) w) := by
  obtain ⟨hrow, hops⟩ := hv
  have hlv : ∀ W, (Builtin.len_ #[22] 3 #[v]).run Try.prog W = .ok (.int .i64 (l.length : Nat)) W := fun W => by
    have := hrow.len htOp (ty := 3) W; rwa [List.length_map] at this
  have hle := hrow.le
  rw [List.length_map] at hle
  have hrow := Lib.hid hrow
  have hops := Lib.hid hops
  have cN := Lib.hid (new_any w (Nat.le_refl _))
  go_enter Try.func3, Try.ntmps3
  go_upto_block 0 with (first
    | (go_at_call 8; refine cN.out.mono ?_; rintro e' w2 ⟨rfl, hd2, hb2⟩; have hd2 := Lib.hid hd2; have hb2 := Lib.hid hb2)
    | (go_at_call 9; refine (alive_any _).mono ?_; rintro e' w3 ⟨rfl, hb3⟩))
  have hT2 : Two w.heap.size (w2.alloc (.cells #[.slice none 0 0, .int .i64 0, .int .i64 0] 28)) w.heap.size newDisk w2.heap.size [] 0 0 := two_new hd2.out
  have hT0 := hT2.below hb3
  have hB0 : Below w.heap.size w w3 := then_call (then_box hb2.out _) hb3
  obtain ⟨pr0, hpr⟩ : ∃ pr, w2.heap.size = pr := ⟨_, rfl⟩
  rw [hpr] at hT0
  rw [hpr]
  have hP0 : Hid (Plays w.heap.size w 0 w.heap.size pr0 w3) := Lib.hid ⟨newDisk, [], 0, 0, [], hT0, hB0, sized_new.mono (by omega), ⟨by simp, by omega, fun f => by simp [heldF]⟩, righted_new, ordered_new, namRight_new, sim_new, eight_new⟩
  clear hT2 hT0 hB0
  go_wp2_with fail
  go_loopw [3, 4, 5, 6, 7, 8, 9] (fun dp mp t _ _ _ _ wr => ∃ (p pr i : Nat), dp = .pointer (some ⟨p, 0, none⟩) ∧ mp = .pointer (some ⟨pr, 0, none⟩) ∧ t = .int .i64 (i : Nat) ∧ i ≤ l.length ∧ i ≤ 60 ∧ Hid (Plays w.heap.size w i p pr wr)) (fun _ _ t _ _ _ _ _ => l.length - (intOf t).toNat)
  case atStart => exact ⟨_, pr0, 0, rfl, rfl, rfl, by omega, by omega, hP0⟩
  case round =>
    clear hP0
    obtain ⟨p, pr, i, rfl, rfl, rfl, hi, hi60, hpl⟩ := hrel
    by_cases hgo : i < l.length ∧ i < 60
    · as_aux_lemma =>
      obtain ⟨hil, hi6⟩ := hgo
      have q1 : decide ((i : Int) < (l.length : Int)) = true := decide_eq_true (by omega)
      have q2 : decide ((i : Int) < 60) = true := decide_eq_true (by omega)
      obtain ⟨x, hx⟩ : ∃ x, l[i]? = some x := ⟨_, List.getElem?_eq_getElem hil⟩
      have hBl : Below w.heap.size w wr := by obtain ⟨d, L, born, base, qs, _, hB, _⟩ := hpl.out; exact hB
      have hxo := hops.out x (List.mem_of_getElem? hx)
      obtain ⟨b, off, hix, hc, hbl, _⟩ := (hrow.out.below hBl).index htOp hsOp (i := i) (x := x.cells) (by rw [List.getElem?_map, hx]; rfl)
      have k0 : wr.cell? ⟨b, off, none⟩ = some (.int .i64 x.kind) := hc 0 _ rfl
      have k1 : wr.cell? ⟨b, off + 1, none⟩ = some (.string x.nm) := hc 1 _ rfl
      have k2 : wr.cell? ⟨b, off + 2, none⟩ = some (.string x.s) := hc 2 _ rfl
      have k3 : wr.cell? ⟨b, off + 3, none⟩ = some x.bv := hc 3 _ rfl
      have k4 : wr.cell? ⟨b, off + 4, none⟩ = some (.int .i64 x.at_) := hc 4 _ rfl
      have k5 : wr.cell? ⟨b, off + 5, none⟩ = some (.int .i64 x.names) := hc 5 _ rfl
      have k6 : wr.cell? ⟨b, off + 6, none⟩ = some x.kv := hc 6 _ rfl
      have k7 : wr.cell? ⟨b, off + 7, none⟩ = some (.int .i64 x.torn) := hc 7 _ rfl
      obtain ⟨A3, c3, e3, _⟩ := id (hxo.b.below hBl)
      obtain ⟨keep3, hkk⟩ := hxo.kv
      obtain ⟨A6, c6, e6, _⟩ := id hkk
      rw [e3] at k3
      rw [e6] at k6
      obtain ⟨n6, hn6⟩ : ∃ n6, (keep3.map Value.bool).length = n6 := ⟨_, rfl⟩
      rw [hn6] at e6 k6
      have hxo := Lib.hid hxo
      have hkk := Lib.hid hkk
      have e3 := Lib.hid e3
      have e6 := Lib.hid e6
      clear hc hx hn6
      go_upto_region 9 with fail
      obtain ⟨W2, hW2⟩ : ∃ W2, wr.alloc (.cells #[.int .i64 x.kind, .string x.nm, .string x.s, .slice A3 x.b.length c3, .int .i64 x.at_, .int .i64 x.names, .slice A6 n6 c6, .int .i64 x.torn] 35) = W2 := ⟨_, rfl⟩
      have hb2 : Below wr.heap.size wr W2 := by rw [← hW2]; exact below_box1 _ _
      have hbx2 : W2.heap[wr.heap.size]? = some (.cells #[.int .i64 x.kind, .string x.nm, .string x.s, .slice A3 x.b.length c3, .int .i64 x.at_, .int .i64 x.names, .slice A6 n6 c6, .int .i64 x.torn] 35 (0, 0)) := by rw [← hW2]; exact heap_alloc_new wr _
      rw [hW2]
      have y0 := cell_at (i := 0) hbx2 rfl
      have y3 := cell_at (i := 3) hbx2 rfl
      have y4 := cell_at (i := 4) hbx2 rfl
      have y5 := cell_at (i := 5) hbx2 rfl
      have y6 := cell_at (i := 6) hbx2 rfl
      have y7 := cell_at (i := 7) hbx2 rfl
      have hmore := Lib.hid (hpl.out.more hb2)
      have hstay := Lib.hid (hpl.out.stay hb2)
      have hBl2 := Lib.hid (hBl.trans (hb2.mono hBl.size))
      obtain ⟨r, hr⟩ : ∃ r, wr.heap.size = r := ⟨_, rfl⟩
      rw [hr] at hbx2 y0 y3 y4 y5 y6 y7 ⊢
      have hrl : r < W2.heap.size := (Array.getElem?_eq_some_iff.1 hbx2).1
      have hbx2 := Lib.hid hbx2
      clear k0 k1 k2 k3 k4 k5 k6 k7 hW2 hb2 hBl hpl hr
      rcases Nat.lt_or_ge 1000 x.b.length with hbig | hsm
      · have hq : decide (1000 < (x.b.length : Int)) = true := decide_eq_true (by omega)
        go_wp2
        go_roundw
        case rel => exact ⟨p, pr, i + 1, rfl, rfl, by go_num, by omega, by omega, hmore⟩
        case measure => simp [intOf]; omega
      · have hq : decide (1000 < (x.b.length : Int)) = false := decide_eq_false (by omega)
        clear hmore
        go_upto_if 39 with fail
        go_cut [3, 4] from 19 to 86 (fun dp mp wx => ∃ p' pr', dp = .pointer (some ⟨p', 0, none⟩) ∧ mp = .pointer (some ⟨pr', 0, none⟩) ∧ Hid (Plays w.heap.size w i p' pr' wx ∧ Below W2.heap.size W2 wx))
        case first => as_aux_lemma =>
          by_cases h7 : x.kind = 7
          · obtain ⟨d, L, born, base, qs, hT, hB, hS, hSR, hR, hO, hNR, hSim, h8⟩ := hstay.out
            obtain ⟨lv, B, hk, hrf, hsep⟩ := hT
            have hBo : Both w.heap.size p W2 d w.heap.size pr lv L born base B qs := ⟨hk, hrf, hSim, hO, hS.small (by omega), hR, by have := hSR.len; omega, fun f => by have := hSR.held f; omega⟩
            have hkp2 : KeepAt W2 x.kv keep3 := RowAt.below hkk.out hBl2.out
            have hca := hxo.out.at_
            have hcn := hxo.out.names
            have hct := hxo.out.torn
            have hL60 := hSR.len
            have cX := Lib.hid (cut_any hk hO.ord (hS.small (by omega)) x.at_ x.names hca.1 hca.2 hcn.1 hcn.2 hkp2 x.torn hct.1 hct.2)
            have cY := Lib.hid (fun (W : World) (hW : Below W2.heap.size W2 W) => refCut_any (hrf.below hW) (by omega) (fun f => by have := hSR.held f; omega) hSim.ble x.at_ x.names x.torn hca.1 hca.2 hcn.1 hcn.2 hct.1 hct.2 (kv := x.kv) (keep := keep3) (RowAt.below hkp2 hW))
            rw [e6.out] at cX cY
            have hBo := Lib.hid hBo
            have hNR := Lib.hid hNR
            have h8 := Lib.hid h8
            have hSR := Lib.hid hSR
            have hB := Lib.hid hB
            have hnle := hk.nle
            have f7 : (x.kind == 7) = true := by simp [h7]
            clear hstay hk hrf hsep hS hR hO hSim hkp2 h7
            go_wp2_with (first
              | (go_at_call 10; refine cX.out.mono ?_; rintro e' w8 ⟨pl, dl, sv, rfl, hx1, hx2, hx3⟩; have z4 : w8.cell? ⟨r, 4, none⟩ = some (.int .i64 x.at_) := (hx3.cell (p := ⟨r, 4, none⟩) hrl).trans y4; have z5 : w8.cell? ⟨r, 5, none⟩ = some (.int .i64 x.names) := (hx3.cell (p := ⟨r, 5, none⟩) hrl).trans y5; have z6 : w8.cell? ⟨r, 6, none⟩ = some (.slice A6 n6 c6) := (hx3.cell (p := ⟨r, 6, none⟩) hrl).trans y6; have z7 : w8.cell? ⟨r, 7, none⟩ = some (.int .i64 x.torn) := (hx3.cell (p := ⟨r, 7, none⟩) hrl).trans y7; have hx3 := Lib.hid hx3)
              | (go_at_call 11; refine (cY.out _ hx3.out).mono ?_; rintro e' w9 ⟨q, lv', L', B', b', rfl, hy1, hy2, rfl, hy3⟩))
            obtain ⟨qs', hBx, hF⟩ := hBo.out.cut hNR.out (by omega) sv hx2 hy2 (hx1.below hy3) hy1
            obtain ⟨s1, s2, s3, s4⟩ := hBo.out.sim.little h8.out hy2 hSR.out.held
            have hin := cutL_right hNR.out (pickF x.at_ (d.calls + 1)) x.names keep3 x.torn
            have hcl : (cutL d (pickF x.at_ (d.calls + 1)) x.names keep3 x.torn).length ≤ 8 := by
              obtain ⟨_, t2, _⟩ := hBo.out.sim.there x.at_ x.names
              unfold cutL
              rw [List.length_map]
              have := t2.perm.length_eq
              rw [List.length_map, List.length_map] at this
              omega
            have hsz := hx2.little hcl (cutL_byte hBo.out.ord hBo.out.small _ _ _ _) (cutL_nodup d _ _ _ _) (fun y hy => right_ne (hin y hy)) sv (k := 25 + i) (by omega)
            have hn9 : w.heap.size ≤ w8.heap.size := Nat.le_trans hnle hx3.out.size
            have hsep' : ∀ z ∈ (syncedN dl sv).bs pl, z ∉ B' := fun z hz hzB => by
              have h1 := (hx1.low z hz).2
              have h2 := (hy1.low z hzB).1
              omega
            have hfin : Hid (Plays w.heap.size w i pl q w9 ∧ Below W2.heap.size W2 w9) := Lib.hid ⟨⟨syncedN dl sv, L', _, _, qs', ⟨lv', B', (hx1.below hy3).lower hnle, hy1.lower hn9, hsep'⟩, hB.out.trans ((hx3.out.trans (hy3.mono hx3.out.size)).mono hnle), hsz, ⟨by omega, by omega, s3⟩, hF.right, hF.ord, hF.nr, hBx.sim, s4⟩, hx3.out.trans (hy3.mono hx3.out.size)⟩
            clear hBx hF s1 s2 s3 s4 hin hcl hsz hsep' hx1 hx2 hx3 hy1 hy2 hy3 z4 z5 z6 z7 cX cY
            go_wp2
            go_meet
            case rel => exact ⟨pl, q, rfl, rfl, hfin⟩
          · have f7 : (x.kind == 7) = false := by simp [h7]
            clear h7
            go_wp2
            go_meet
            case rel => exact ⟨p, pr, rfl, rfl, Lib.hid ⟨hstay.out, Below.refl _ _⟩⟩
        case rest => as_aux_lemma =>
          obtain ⟨p', pr', rfl, rfl, hX⟩ := hcut
          obtain ⟨⟨d, L, born, base, qs, hT, hB, hS, hSR, hR, hO, hNR, hSim, h8⟩, hbW⟩ := hX.out
          obtain ⟨lv, B, hk, hrf, hsep⟩ := id hT
          have hbx3 := cells_kept hbx2.out (Turns.of_below (F := []) hbW) (by simp)
          have z0 := cell_at (i := 0) hbx3 rfl
          have z1 := cell_at (i := 1) hbx3 rfl
          have z2 := cell_at (i := 2) hbx3 rfl
          have z3 := cell_at (i := 3) hbx3 rfl
          have z4 := cell_at (i := 4) hbx3 rfl
          have z5 := cell_at (i := 5) hbx3 rfl
          have z6 := cell_at (i := 6) hbx3 rfl
          have z7 := cell_at (i := 7) hbx3 rfl
          have cA := Lib.hid (act_any hk hrf hsep (hS.small (by omega)) (by have := hSR.len; omega) (by have := hSR.born; omega) (fun f => by have := hSR.held f; omega) x.kind x.nm x.s x.bv x.kv x.b x.at_ x.names x.torn hxo.out.nm hxo.out.s (hxo.out.b.below hB) (fun hne => hxo.out.b.low hne) hsm)
          unfold opV at cA
          rw [e3.out, e6.out] at cA
          have hT := Lib.hid hT
          have hB := Lib.hid hB
          have hS := Lib.hid hS
          have hSR := Lib.hid hSR
          have hR := Lib.hid hR
          have hO := Lib.hid hO
          have hNR := Lib.hid hNR
          have hSim := Lib.hid hSim
          have h8 := Lib.hid h8
          have hsm := Lib.hid hsm
          clear hX hbW hk hrf hsep hstay hbx3 y0 y3 y4 y5 y6 y7 hq
          go_wp2_with fail
          go_at_call 12
          refine cA.out.mono ?_
          rintro e' w4 ⟨e1, e2, d', L', born', rfl, t1, t2, _, t3, t4⟩
          obtain ⟨hee, qs', hSim'⟩ := hSim.out.act hT.out.k (fun f hf => (hT.out.k.low f.q (List.mem_append_left _ (CDisk.wb_file hf _ (by simp [CFile.wb])))).2) t3 t4
          subst hee
          have hS' := t3.sized hS.out
          have hSR' := t4.sized hsm.out hSR.out
          have hR' := t3.righted hR.out
          have hO' := t3.ordered hT.out.k.named hR.out hO.out (by have := hS.out.calls; omega)
          have hp' : Hid (Plays w.heap.size w (i + 1) p' pr' w4) := Lib.hid ⟨d', L', born', base, qs', t1, hB.out.trans t2, hS', hSR', hR', hO', t3.namRight hNR.out, hSim', h8.out.act hSim.out.ble t4⟩
          have cL : Hid (Calls Try.prog 13 #[.pointer (some ⟨p', 0, none⟩), .pointer (some ⟨pr', 0, none⟩)] w4 (Ret (.bool true) w4)) := Lib.hid (by (obtain ⟨lv2, B2, hk2, hr2, _⟩ := t1; exact alike_both ⟨hk2, hr2, hSim', hO', hS'.small (by omega), hR', by have := hSR'.len; omega, fun f => by have := hSR'.held f; omega⟩))
          have hqe : ((e1 : Int) != (e1 : Int)) = false := by simp
          clear t1 t2 t3 t4 hSim' hS' hSR' hR' hO'
          go_wp2_with (go_at_call 13; refine cL.out.mono ?_; rintro e' w5 ⟨rfl, hb5⟩; have hb5 := Lib.hid hb5)
          go_roundw
          case rel => exact ⟨p', pr', i + 1, rfl, rfl, by go_num, by omega, by omega, Lib.hid (hp'.out.stay hb5.out)⟩
          case measure => simp [intOf]; omega
    · as_aux_lemma =>
      have hqq : decide (i < l.length) = false ∨ (decide (i < l.length) = true ∧ decide ((i : Int) < 60) = false) := by
        by_cases hh : i < l.length
        · exact .inr ⟨decide_eq_true (by omega), decide_eq_false (by omega)⟩
        · exact .inl (decide_eq_false (by omega))
      have hBl : Hid (Below w.heap.size w wr) := by obtain ⟨d, L, born, base, qs, _, hB, _⟩ := hpl.out; exact Lib.hid hB
      rcases hqq with q1 | ⟨q1, q2⟩
      all_goals
        go_wp2
        go_ret
        exact ⟨rfl, hBl.out⟩

theorem filesPlays_walk (w : World) (v : Value) (l : List OpD) (hv : ScriptAt w v l) :
    Calls Try.prog 3 #[v] w (Ret (.bool true) w) := filesPlays_any w v l hv
end Go.Proofs.Ytpkiapjcilapoaa
