/-
  What is durable is kept: the law.
-/
import Derived.Test.YtpkiapjcilapoaaFaHeld
import Derived.Deep.CutBlock
import Derived.Deep.CutRange
namespace Go.Proofs.Ytpkiapjcilapoaa
open Go.RowKit Go.Sort Go.Maps

set_option maxRecDepth 20000 in
set_option maxHeartbeats 8000000 in
theorem filesSafe_any (w : World) (v v' : Value) (l l' : List OpD) (c : CutD) (hv : ScriptAt w v l) (hv' : ScriptAt w v' l') (hc : c.Ok w) :
    Calls Try.prog 5 #[v, v', .agg #[.int .i64 c.at_, .int .i64 c.names, c.kv, .int .i64 c.torn]] w (Ret (.bool true) w) := by
  obtain ⟨hrow, hops⟩ := hv
  obtain ⟨hrow', hops'⟩ := hv'
  obtain ⟨W1, hW1⟩ : ∃ W1, w.alloc (.cells #[.int .i64 c.at_, .int .i64 c.names, c.kv, .int .i64 c.torn] 33) = W1 := ⟨_, rfl⟩
  have hbx : W1.heap[w.heap.size]? = some (.cells #[.int .i64 c.at_, .int .i64 c.names, c.kv, .int .i64 c.torn] 33 (0, 0)) := by rw [← hW1]; exact heap_alloc_new w _
  have hb1 : Below w.heap.size w W1 := by rw [← hW1]; exact below_box1 _ _
  have hxl : w.heap.size < W1.heap.size := (Array.getElem?_eq_some_iff.1 hbx).1
  have hlv : ∀ W, (Builtin.len_ #[22] 3 #[v]).run Try.prog W = .ok (.int .i64 (l.length : Nat)) W := fun W => by
    have := hrow.len htOp (ty := 3) W; rwa [List.length_map] at this
  have hle := hrow.le
  rw [List.length_map] at hle
  have hlv' : ∀ W, (Builtin.len_ #[22] 3 #[v']).run Try.prog W = .ok (.int .i64 (l'.length : Nat)) W := fun W => by
    have := hrow'.len htOp (ty := 3) W; rwa [List.length_map] at this
  have hle' := hrow'.le
  rw [List.length_map] at hle'
  have hrow' := Lib.hid (hrow'.below hb1)
  have hops' := Lib.hid (fun x hx => (hops' x hx).below hb1)
  have hrow := Lib.hid (hrow.below hb1)
  have hops := Lib.hid (fun x hx => (hops x hx).below hb1)
  have hcn := hc.names
  have hct := hc.torn
  have hca := hc.at_
  have hkp := Lib.hid (RowAt.below (w := w) (w' := W1) hc.keep hb1)
  have cN := Lib.hid (new_any W1 (Nat.le_refl _))
  have hbx := Lib.hid hbx
  have hb1 := Lib.hid hb1
  clear hc
  go_enter Try.func5, Try.ntmps5
  go_upto_block 0 with (first
    | (go_at_call 8; refine cN.out.mono ?_; rintro e' w2 ⟨rfl, hd2, hb2⟩; have hd2 := Lib.hid hd2; have hb2 := Lib.hid hb2)
    | (go_at_call 9; refine (alive_any w2).mono ?_; rintro e' w3 ⟨rfl, hb3⟩; have hd3 := Lib.hid (hd2.out.below hb3); have hb3 := Lib.hid (then_call hb2.out hb3)))
  have hT0 : Two W1.heap.size (w3.alloc (.cells #[.slice none 0 0, .int .i64 0, .int .i64 0] 28)) W1.heap.size newDisk w3.heap.size [] 0 0 := two_new hd3.out
  have hB0 : Below W1.heap.size W1 (w3.alloc (.cells #[.slice none 0 0, .int .i64 0, .int .i64 0] 28)) := then_box hb3.out _
  obtain ⟨pr, hpr⟩ : ∃ pr, w3.heap.size = pr := ⟨_, rfl⟩
  rw [hpr] at hT0
  rw [hpr]
  go_cut [9] from 32 to 55 (fun _ wx => ∃ (i : Nat) (d : CDisk), i ≤ 60 ∧ Hid (Played W1.heap.size W1.heap.size pr W1 i d wx ∧ Ordered d ∧ NamRight d))
  case first => as_aux_lemma =>
    go_wp2_with fail
    go_loopw [9] (fun t wr => ∃ (i : Nat) (d : CDisk), t = .int .i64 (i : Nat) ∧ i ≤ l.length ∧ i ≤ 60 ∧ Hid (Played W1.heap.size W1.heap.size pr W1 i d wr ∧ Ordered d ∧ NamRight d)) (fun t _ => l.length - (intOf t).toNat)
    case atStart => exact ⟨0, newDisk, rfl, by omega, by omega, Lib.hid ⟨⟨[], 0, hT0, hB0, sized_new, sizedR_new, righted_new⟩, ordered_new, namRight_new⟩⟩
    case round =>
      clear hT0 hB0
      obtain ⟨i, d, rfl, hi, hi60, hpl⟩ := hrel
      by_cases hgo : i < l.length ∧ i < 60
      · obtain ⟨hil, hi6⟩ := hgo
        have q1 : decide ((i : Int) < (l.length : Int)) = true := decide_eq_true (by omega)
        have q2 : decide ((i : Int) < 60) = true := decide_eq_true (by omega)
        obtain ⟨x, hx⟩ : ∃ x, l[i]? = some x := ⟨_, List.getElem?_eq_getElem hil⟩
        obtain ⟨⟨L, born, hT, hB, hS, hSR, hR⟩, hO, hNR⟩ := hpl.out
        have hxo := (hops.out x (List.mem_of_getElem? hx))
        obtain ⟨b, off, hix, hc, hbl, _⟩ := (hrow.out.below hB).index htOp hsOp (i := i) (x := x.cells) (by rw [List.getElem?_map, hx]; rfl)
        have k0 : wr.cell? ⟨b, off, none⟩ = some (.int .i64 x.kind) := hc 0 _ rfl
        have k1 : wr.cell? ⟨b, off + 1, none⟩ = some (.string x.nm) := hc 1 _ rfl
        have k2 : wr.cell? ⟨b, off + 2, none⟩ = some (.string x.s) := hc 2 _ rfl
        have k3 : wr.cell? ⟨b, off + 3, none⟩ = some x.bv := hc 3 _ rfl
        have k4 : wr.cell? ⟨b, off + 4, none⟩ = some (.int .i64 x.at_) := hc 4 _ rfl
        have k5 : wr.cell? ⟨b, off + 5, none⟩ = some (.int .i64 x.names) := hc 5 _ rfl
        have k6 : wr.cell? ⟨b, off + 6, none⟩ = some x.kv := hc 6 _ rfl
        have k7 : wr.cell? ⟨b, off + 7, none⟩ = some (.int .i64 x.torn) := hc 7 _ rfl
        have hbv := hxo.b.below hB
        have hlx := fun W => hbv.len (ty := 3) W
        rcases Nat.lt_or_ge 1000 x.b.length with hbig | hsm
        · have hq : decide ((x.b.length : Int) ≤ 1000) = false := decide_eq_false (by omega)
          have hp' : Hid (Played W1.heap.size W1.heap.size pr W1 (i + 1) d wr ∧ Ordered d ∧ NamRight d) := Lib.hid ⟨⟨L, born, hT, hB, hS.mono (by omega), ⟨by have := hSR.len; omega, by have := hSR.born; omega, fun f => by have := hSR.held f; omega⟩, hR⟩, hO, hNR⟩
          clear hc hx hxo hbv hT hB hS hSR hR hO hNR hpl hbig
          go_wp2
          go_roundw
          case rel => exact ⟨i + 1, d, by go_num, by omega, by omega, hp'⟩
          case measure => simp [intOf]; omega
        · have hq : decide ((x.b.length : Int) ≤ 1000) = true := decide_eq_true (by omega)
          obtain ⟨lvr, Br, kk1, kk2, kk3⟩ := id hT
          have cA := Lib.hid (act_any kk1 kk2 kk3 (hS.small (by omega)) (by have := hSR.len; omega) (by have := hSR.born; omega) (fun f => by have := hSR.held f; omega) x.kind x.nm x.s x.bv x.kv x.b x.at_ x.names x.torn hxo.nm hxo.s hbv (fun hne => hxo.b.low hne) hsm)
          unfold opV at cA
          clear hc hx kk1 kk2 kk3
          have hT := Lib.hid hT
          have hB := Lib.hid hB
          have hS := Lib.hid hS
          have hSR := Lib.hid hSR
          have hR := Lib.hid hR
          have hO := Lib.hid hO
          have hNR := Lib.hid hNR
          clear hxo hbv hpl
          have hsm := Lib.hid hsm
          go_wp2_with (go_at_call 12; refine cA.out.mono ?_; rintro e' w4 ⟨e1, e2, d', L', born', rfl, t1, t2, _, t3, t4⟩; have hp' : Hid (Played W1.heap.size W1.heap.size pr W1 (i + 1) d' w4 ∧ Ordered d' ∧ NamRight d') := Lib.hid ⟨⟨L', born', t1, hB.out.trans t2, t3.sized hS.out, t4.sized hsm.out hSR.out, t3.righted hR.out⟩, t3.ordered hT.out.k.named hR.out hO.out (by have := hS.out.calls; omega), t3.namRight hNR.out⟩; clear t1 t2 t3 t4)
          go_roundw
          case rel => exact ⟨i + 1, d', by go_num, by omega, by omega, hp'⟩
          case measure => simp [intOf]; omega
      · have hqq : decide (i < l.length) = false ∨ (decide (i < l.length) = true ∧ decide ((i : Int) < 60) = false) := by
          by_cases hh : i < l.length
          · exact .inr ⟨decide_eq_true (by omega), decide_eq_false (by omega)⟩
          · exact .inl (decide_eq_false (by omega))
        rcases hqq with q1 | ⟨q1, q2⟩
        all_goals
          go_wp2
          go_meet
          case rel => exact ⟨i, d, hi60, hpl⟩
  case rest => as_aux_lemma =>
    obtain ⟨i, d, hi60, hpl⟩ := hcut
    obtain ⟨⟨L, born, hT, hB, hS, hSR, hR⟩, hO, hNR⟩ := hpl.out
    have hBw : Below w.heap.size w wc := hb1.out.trans (hB.mono hb1.out.size)
    have hbxr := Lib.hid (cells_kept hbx.out (Turns.of_below (F := []) hB) (by simp))
    obtain ⟨lv, B, hk, hr, hsep⟩ := hT
    have cNm := Lib.hid (names_any hk (by have := hS.nam; omega))
    have hk := Lib.hid hk
    have hr := Lib.hid hr
    have hsep := Lib.hid hsep
    have hB := Lib.hid hB
    have hS := Lib.hid hS
    have hSR := Lib.hid hSR
    have hR := Lib.hid hR
    have hO := Lib.hid hO
    have hNR := Lib.hid hNR
    have hBw := Lib.hid hBw
    clear hpl hT0 hB0
    go_upto_block 2 with (go_at_call 14; refine cNm.out.mono ?_; rintro e' w5 ⟨vn, rfl, hnr, hb5⟩)
    have hk5 := Lib.hid (hk.out.below hb5)
    have hBw5 := Lib.hid (hBw.out.trans (hb5.mono hBw.out.size))
    have hB5 := Lib.hid (hB.out.trans (hb5.mono hB.out.size))
    have hbx5 := Lib.hid (cells_kept hbxr.out (Turns.of_below (F := []) hb5) (by simp))
    have hvn : Hid (∀ k, vn.ownBlock = some k → k ∉ d.bs W1.heap.size) := Lib.hid (fun k hkk hin => by
      have h1 := (World.ownsRow.lt hnr k hkk).1
      have h2 := (hk.out.low k hin).2
      omega)
    have hnrow := Lib.hid hnr.row
    obtain ⟨names, hnm⟩ : ∃ names, namesL (namesOf d.nam) = names := ⟨_, rfl⟩
    rw [hnm] at hnrow
    have hln : ∀ W, (Builtin.len_ #[44] 3 #[vn]).run Try.prog W = .ok (.int .i64 (names.length : Nat)) W := fun W => by
      have := hnrow.out.len (ty := 3) Try.underlying44 W; rwa [List.length_map] at this
    have hnle : (names.length : Int) ≤ 9223372036854775807 := by have := hnrow.out.le; rwa [List.length_map] at this
    have hnH := Lib.hid (fun x (hx : x ∈ names) => (names_mem hk.out x).1 (by rw [hnm]; exact hx))
    have hn60 : names.length ≤ 60 := by
      have h1 := names_len hk.out
      rw [hnm] at h1
      have h2 := hk.out.map.size
      have h3 := hS.out.nam
      omega
    have hnmH := Lib.hid hnm
    have hr5 := Lib.hid (hr.out.below hb5)
    have hBlt := Lib.hid (fun b (hb : b ∈ B) => (hr5.out.low b hb).2)
    have hst : Hid (SyncRead W1.heap.size W1.heap.size d names w5 w5 0 d B (.slice none 0 0) []) := Lib.hid ⟨⟨DidK.refl hk5.out, rfl, hO.out, hR.out, hS.out.mono (by omega), by simp⟩, HeldOk.none_ _ _ _, by simp, by simp, by simp, hNR.out⟩
    clear hnr hb5 hnm cNm hbxr
    go_cut [11, 12, 13, 14] from 58 to 87 (fun o _ _ _ wx => ∃ (vh : Value) (i2 : Nat) (d2 : CDisk) (E : List Sure), vh = o ∧ i2 ≤ 60 ∧ names.length ≤ i2 ∧ Hid (SyncRead W1.heap.size W1.heap.size d names w5 wx i2 d2 B vh E ∧ w5.heap.size ≤ wx.heap.size))
    case first => as_aux_lemma =>
      go_wp2_with fail
      go_loopw [11, 12, 13, 14] (fun o t _ _ wr2 => ∃ (vh : Value) (i2 : Nat) (d2 : CDisk) (E : List Sure), vh = o ∧ t = .int .i64 (i2 : Nat) ∧ i2 ≤ names.length ∧ Hid (SyncRead W1.heap.size W1.heap.size d names w5 wr2 i2 d2 B vh E ∧ w5.heap.size ≤ wr2.heap.size)) (fun _ t _ _ _ => names.length - (intOf t).toNat)
      case atStart => exact ⟨_, 0, d, [], rfl, rfl, by omega, Lib.hid ⟨hst.out, Nat.le_refl _⟩⟩
      case round =>
        clear hst
        obtain ⟨vh, i2, d2, E, rfl, rfl, hi2, hh⟩ := hrel
        rcases Nat.lt_or_ge i2 names.length with hil | hil
        · obtain ⟨x, hx⟩ : ∃ x, names[i2]? = some x := ⟨_, List.getElem?_eq_getElem hil⟩
          obtain ⟨ad, hix, hcW⟩ := hnrow.out.place Try.underlying44 (fun W => by kernel_rfl) (k := i2) (x := .string ⟨x.toArray⟩) (by rw [List.getElem?_map, hx]; rfl)
          have hcell := hcW _ (hnrow.out.turns hh.out.1.syn.did.2.1 (fun k hkk => hvn.out k hkk))
          have hqx := hnH.out x (List.mem_of_getElem? hx)
          have hzx : (⟨x.toArray⟩ : ByteArray).size ≤ maxLen := by obtain ⟨q, hq⟩ := hqx; exact right_size (hR.out _ _ hq)
          have cS := Lib.hid (sync_out hh.out.1.syn.did.1 (hh.out.1.syn.sized.small (by omega)) ⟨x.toArray⟩ hzx)
          have hstep := Lib.hid (fun w6 e1 d3 hd hk3 => hh.out.1.syn.step (w6 := w6) (e := e1) (d3 := d3) (by omega) hx hqx hd hk3)
          have hnext := Lib.hid (fun (w6 w7 w8 : World) (d3 : CDisk) (e1 : Nat) (vh' v7 : Value) (b7 : List Nat) hd hk3 h7 ho hby hhd hr8 ht8 hv8 => hh.out.1.step (w6 := w6) (w7 := w7) (w8 := w8) (d3 := d3) (e := e1) (vh' := vh') (v7 := v7) (b7 := b7) (by omega) hx hqx hBlt.out hh.out.2 hd hk3 h7 ho hby hhd hr8 ht8 hv8)
          have hrowE := Lib.hid hh.out.1.held.row
          have hEl : E.length ≤ 60 := Nat.le_trans hh.out.1.len hn60
          have hcW := Lib.hid hcW
          have hHeld := Lib.hid (fun (w6 : World) (d3 : CDisk) (hs : Synced W1.heap.size W1.heap.size d names w5 w6 (i2 + 1) d3) => hs.heldAt hx)
          have hapR := Lib.hid (fun b (hb : vh.ownBlock = some b) (hin : b ∈ d2.bs W1.heap.size) => hh.out.1.held.apart b (List.mem_append_left _ (by simp [hb])) (List.mem_append_left _ hin))
          have hn0 : w5.heap.size ≤ wr.heap.size := hh.out.2
          have hlen3 : (E.map Sure.cells).length ≤ 10000 := by rw [List.length_map]; omega
          clear hh hx hqx hzx
          go_wp2_with (first
            | (go_at_call 15; refine cS.out.mono ?_; rintro e' w6 ⟨e1, d3, rfl, hd3, hk3⟩; have hs6 := hstep.out _ _ _ hd3 hk3; obtain ⟨b7, hh7⟩ := hHeld.out _ _ hs6; have cR := Lib.hid (read_held hs6.did.1 (hs6.sized.small (by omega)) hs6.right hh7); have hcell6 := hcW.out _ (hnrow.out.turns hs6.did.2.1 (fun k hkk => hvn.out k hkk)); have hrow6 := hrowE.out.turns hd3.2.1 hapR.out; have hd3 := Lib.hid hd3; have hk3 := Lib.hid hk3; have hs6 := Lib.hid hs6; have hh7 := Lib.hid hh7)
            | (go_at_call 16; refine cR.out.mono ?_; rintro e' w7 ⟨v7, rfl, ho7, hby7, hb7⟩; obtain ⟨A7, c7, rfl, _⟩ := id hby7; have hcell7 := hcW.out _ ((hnrow.out.turns hs6.out.did.2.1 (fun k hkk => hvn.out k hkk)).below hb7); have hro7 := hrow6.below hb7)
            | (at_builtin; refine append_rows (v := vh) elemSure rfl (.tmp 79) (.tmp 86) rfl w5.heap.size rfl (hro7.alloc _) rfl (rows_box w7 _ [.string ⟨x.toArray⟩, .slice A7 b7.length c7] rfl #[.string ⟨x.toArray⟩, .slice A7 b7.length c7] rfl) (by simp) (sure_one _ _ _ _) (fits_one hlen3 (by simp)) (le_alloc (Nat.le_trans hn0 (Nat.le_trans hd3.out.2.1.size hb7.size)) _) ?_; intro vh' w8 hown8 ht8 hl8))
          have hfin := Lib.hid (hnext.out _ _ _ _ _ _ _ _ hd3.out hk3.out (hb7.trans ((below_box1 w7 (.cells #[.string ⟨x.toArray⟩, .slice A7 b7.length c7] 51)).mono hb7.size)) (ho7.later (below_box1 _ _)) (hby7.below (below_box1 _ _)) hh7.out hown8 ht8 hl8)
          have hn8 : w5.heap.size ≤ w8.heap.size := Nat.le_trans hn0 (Nat.le_trans hd3.out.2.1.size (Nat.le_trans hb7.size (Nat.le_trans (below_box1 w7 (.cells #[.string ⟨x.toArray⟩, .slice A7 b7.length c7] 51)).size ht8.size)))
          go_roundw
          case rel => exact ⟨vh', i2 + 1, d3, _, rfl, by go_num, by omega, Lib.hid ⟨hfin.out, hn8⟩⟩
          case measure => simp [intOf]; omega
        · have hil' : ¬ ((i2 : Int) < (names.length : Int)) := by omega
          go_wp2
          go_meet
          case rel => exact ⟨vh, i2, d2, E, rfl, by omega, hil, hh⟩
    case rest => as_aux_lemma =>
      obtain ⟨vh, i2, d2, E, rfl, hi2, hil, hh⟩ := hcut
      have cSN := Lib.hid (syncNames_out hh.out.1.syn.did.1 (hh.out.1.syn.sized.small (by omega)))
      have hstep := Lib.hid (fun w6 e1 d3 hd hk3 => hh.out.1.done (w6 := w6) (e := e1) (d3 := d3) (pr := pr) hi2 hil hnmH.out hr5.out hsep.out hd hk3)
      have hEl : E.length ≤ 60 := Nat.le_trans hh.out.1.len hn60
      clear hst hh
      go_upto_block 4 with (first
        | (go_at_call 17; refine cSN.out.mono ?_; rintro e' w6 ⟨e1, d0, rfl, hd3, hk3⟩; have hS2 := Lib.hid (hstep.out _ _ _ hd3 hk3); have cC := Lib.hid (changes_any hS2.out.std.did.1); clear hd3 hk3)
        | (go_at_call 18; refine cC.out.mono ?_; rintro e' w7 ⟨h9, rfl⟩; obtain rfl := h9.symm))
      have hB6 := Lib.hid (hB5.out.trans (hS2.out.std.did.2.1.below hB5.out.size (fun b hb => (hk.out.low b hb).1)))
      have hG0 : Hid (Going W1.heap.size W1.heap.size pr W1 d0 w5.heap.size vh E 0 d0 w6) := Lib.hid ⟨lv, L, born, B, ⟨hS2.out.std.did.1, hS2.out.ref, hS2.out.sep, hB6.out, hS2.out.sized, ⟨by have := hSR.out.len; omega, by have := hSR.out.born; omega, fun f => by have := hSR.out.held f; omega⟩, hS2.out.std.rest.right, hS2.out.std.rest.ord, hS2.out.nr, Grown.refl _, hS2.out.held⟩⟩
      have hR0 := Lib.hid hS2.out.std.rest.right
      clear cSN hstep cC
      go_cut [16, 17] from 92 to 133 (fun _ _ wx => ∃ (k : Nat) (d' : CDisk), Hid (Going W1.heap.size W1.heap.size pr W1 d0 w5.heap.size vh E k d' wx) ∧ k ≤ 60)
      case first => as_aux_lemma =>
        go_wp2_with fail
        go_loopw [16, 17] (fun t _ wr => ∃ (k : Nat) (d' : CDisk), t = .int .i64 (k : Nat) ∧ k ≤ l'.length ∧ k ≤ 60 ∧ Hid (Going W1.heap.size W1.heap.size pr W1 d0 w5.heap.size vh E k d' wr)) (fun t _ _ => l'.length - (intOf t).toNat)
        case atStart => exact ⟨0, d0, rfl, by omega, by omega, hG0⟩
        case round =>
          clear hG0
          obtain ⟨k, d', rfl, hk1, hk60, hG⟩ := hrel
          by_cases hgo : k < l'.length ∧ k < 60
          · obtain ⟨hil2, hi6⟩ := hgo
            have q1 : decide ((k : Int) < (l'.length : Int)) = true := decide_eq_true (by omega)
            have q2 : decide ((k : Int) < 60) = true := decide_eq_true (by omega)
            obtain ⟨x, hx⟩ : ∃ x, l'[k]? = some x := ⟨_, List.getElem?_eq_getElem hil2⟩
            obtain ⟨lv2, L2, born2, B2, hGB⟩ := id hG.out
            have hxo := hops'.out x (List.mem_of_getElem? hx)
            obtain ⟨b, off, hix, hc, hbl, _⟩ := (hrow'.out.below hGB.bel).index htOp hsOp (i := k) (x := x.cells) (by rw [List.getElem?_map, hx]; rfl)
            have k0 : wr.cell? ⟨b, off, none⟩ = some (.int .i64 x.kind) := hc 0 _ rfl
            have k1 : wr.cell? ⟨b, off + 1, none⟩ = some (.string x.nm) := hc 1 _ rfl
            have k2 : wr.cell? ⟨b, off + 2, none⟩ = some (.string x.s) := hc 2 _ rfl
            have k3 : wr.cell? ⟨b, off + 3, none⟩ = some x.bv := hc 3 _ rfl
            have k4 : wr.cell? ⟨b, off + 4, none⟩ = some (.int .i64 x.at_) := hc 4 _ rfl
            have k5 : wr.cell? ⟨b, off + 5, none⟩ = some (.int .i64 x.names) := hc 5 _ rfl
            have k6 : wr.cell? ⟨b, off + 6, none⟩ = some x.kv := hc 6 _ rfl
            have k7 : wr.cell? ⟨b, off + 7, none⟩ = some (.int .i64 x.torn) := hc 7 _ rfl
            have hbv := hxo.b.below hGB.bel
            obtain ⟨A3, c3, e3, _⟩ := id hbv
            obtain ⟨keep3, hkk⟩ := hxo.kv
            obtain ⟨A6, c6, e6, _⟩ := id hkk
            rw [e3] at k3
            rw [e6] at k6
            obtain ⟨n6, hn6⟩ : ∃ n6, (keep3.map Value.bool).length = n6 := ⟨_, rfl⟩
            rw [hn6] at e6 k6
            have hxo := Lib.hid hxo
            have hGB := Lib.hid hGB
            have hbv := Lib.hid hbv
            have e3 := Lib.hid e3
            have e6 := Lib.hid e6
            clear hc hx hkk
            go_upto_region 24 with fail
            obtain ⟨W2, hW2⟩ : ∃ W2, wr.alloc (.cells #[.int .i64 x.kind, .string x.nm, .string x.s, .slice A3 x.b.length c3, .int .i64 x.at_, .int .i64 x.names, .slice A6 n6 c6, .int .i64 x.torn] 35) = W2 := ⟨_, rfl⟩
            have hb2 : Below wr.heap.size wr W2 := by rw [← hW2]; exact below_box1 _ _
            have hbx2 : W2.heap[wr.heap.size]? = some (.cells #[.int .i64 x.kind, .string x.nm, .string x.s, .slice A3 x.b.length c3, .int .i64 x.at_, .int .i64 x.names, .slice A6 n6 c6, .int .i64 x.torn] 35 (0, 0)) := by rw [← hW2]; exact heap_alloc_new wr _
            rw [hW2]
            have y0 := cell_at (i := 0) hbx2 rfl
            have y1 := cell_at (i := 1) hbx2 rfl
            have y2 := cell_at (i := 2) hbx2 rfl
            have y3 := cell_at (i := 3) hbx2 rfl
            have y4 := cell_at (i := 4) hbx2 rfl
            have y5 := cell_at (i := 5) hbx2 rfl
            have y6 := cell_at (i := 6) hbx2 rfl
            have y7 := cell_at (i := 7) hbx2 rfl
            have hnx := Lib.hid (hG.out.same hb2)
            clear k0 k1 k2 k3 k4 k5 k6 k7 hW2 hbx2
            rcases Nat.lt_or_ge 1000 x.b.length with hbig | hsm
            · have hq : decide ((x.b.length : Int) ≤ 1000) = false := decide_eq_false (by omega)
              go_wp2
              go_roundw
              case rel => exact ⟨k + 1, d', by go_num, by omega, by omega, hnx⟩
              case measure => simp [intOf]; omega
            · have hq : decide ((x.b.length : Int) ≤ 1000) = true := decide_eq_true (by omega)
              have hGB2 := Lib.hid (hGB.out.below hb2)
              have cA := Lib.hid (act_any hGB2.out.disk hGB2.out.ref hGB2.out.sep (hGB2.out.sized.small (by omega)) (by have := hGB2.out.sizedR.len; omega) (by have := hGB2.out.sizedR.born; omega) (fun f => by have := hGB2.out.sizedR.held f; omega) x.kind x.nm x.s x.bv x.kv x.b x.at_ x.names x.torn hxo.out.nm hxo.out.s (hbv.out.below hb2) (fun hne => hxo.out.b.low hne) hsm)
              unfold opV at cA
              rw [e3.out, e6.out] at cA
              have hK : ((x.kind == 2) = true ∧ x.kind = 2) ∨ ((x.kind == 2) = false ∧ (x.kind == 3) = true ∧ x.kind = 3) ∨ ((x.kind == 2) = false ∧ (x.kind == 3) = false ∧ (x.kind == 1) = true ∧ x.kind = 1) ∨ ((x.kind == 2) = false ∧ (x.kind == 3) = false ∧ (x.kind == 1) = false ∧ (x.kind == 6) = true ∧ x.kind = 6) ∨ ((x.kind == 2) = false ∧ (x.kind == 3) = false ∧ (x.kind == 1) = false ∧ (x.kind == 6) = false) := by
                by_cases h2 : x.kind = 2
                · exact .inl ⟨by simp [h2], h2⟩
                · by_cases h3 : x.kind = 3
                  · exact .inr (.inl ⟨by simp [h3], by simp [h3], h3⟩)
                  · by_cases h1 : x.kind = 1
                    · exact .inr (.inr (.inl ⟨by simp [h1], by simp [h1], by simp [h1], h1⟩))
                    · by_cases h6 : x.kind = 6
                      · exact .inr (.inr (.inr (.inl ⟨by simp [h6], by simp [h6], by simp [h6], by simp [h6], h6⟩)))
                      · exact .inr (.inr (.inr (.inr ⟨by simp [h2], by simp [h3], by simp [h1], by simp [h6]⟩)))
              have hacted := Lib.hid (fun (w4 : World) (L' : List FStep) (born' e1 e2 N : Nat) (d2 : CDisk) (hkind : x.kind ≠ 4 ∧ x.kind ≠ 5) t2 t0 t3 t4 => hGB2.out.acted (w4 := w4) (L' := L') (born' := born') (e1 := e1) (e2 := e2) (N := N) (d' := d2) (kind := x.kind) (nm := x.nm) (s := x.s) (b := x.b) hR0.out (by omega) hsm hkind t2 t0 t3 t4)
              clear hG hGB hGB2 hxo hbv e3 e6
              rcases hK with ⟨f2, fk⟩ | ⟨f2, f3, fk⟩ | ⟨f2, f3, f1, fk⟩ | ⟨f2, f3, f1, f6, fk⟩ | ⟨f2, f3, f1, f6⟩
              iterate 4
                · rw [fk] at cA hacted
                  have fk := Lib.hid fk
                  go_wp2_with (go_at_call 12; refine cA.out.mono ?_; rintro e' w4 ⟨e1, e2, d2, L', born', rfl, _, t2, t0, t3, t4⟩; have hp' := Lib.hid (hacted.out _ _ _ _ _ _ _ (by omega) t2 t0 t3 t4); clear t2 t0 t3 t4)
                  go_roundw
                  case rel => exact ⟨k + 1, d2, by go_num, by omega, by omega, hp'⟩
                  case measure => simp [intOf]; omega
              · go_wp2
                go_roundw
                case rel => exact ⟨k + 1, d', by go_num, by omega, by omega, hnx⟩
                case measure => simp [intOf]; omega
          · have hqq : decide (k < l'.length) = false ∨ (decide (k < l'.length) = true ∧ decide ((k : Int) < 60) = false) := by
              by_cases hh : k < l'.length
              · exact .inr ⟨decide_eq_true (by omega), decide_eq_false (by omega)⟩
              · exact .inl (decide_eq_false (by omega))
            rcases hqq with q1 | ⟨q1, q2⟩
            all_goals
              go_wp2
              go_meet
              case rel => exact ⟨k, d', hG, hk60⟩
      case rest => as_aux_lemma =>
        obtain ⟨k, d', hG, hk60⟩ := hcut
        have hwc : ∃ wG, wG = wc := ⟨_, rfl⟩
        obtain ⟨wG, rfl⟩ := hwc
        obtain ⟨lv2, L2, born2, B2, hGB⟩ := hG.out
        have hbxc := cells_kept hbx.out (Turns.of_below (F := []) hGB.bel) (by simp)
        have x0 := cell_at (i := 0) hbxc rfl
        have x1 := cell_at (i := 1) hbxc rfl
        have x2 := cell_at (i := 2) hbxc rfl
        have x3 := cell_at (i := 3) hbxc rfl
        have hxlG : w.heap.size < wG.heap.size := (Array.getElem?_eq_some_iff.1 hbxc).1
        have hcl0 := hGB.grown.calls
        have hcl1 : d'.calls ≤ 190 := by have := hGB.sized.calls; omega
        have hkpG : KeepAt wG c.kv c.keep := RowAt.below hkp.out hGB.bel
        have hGB := Lib.hid hGB
        have hkpG := Lib.hid hkpG
        obtain ⟨a, ha0, ha1, ha⟩ : ∃ a : Int, 0 ≤ a ∧ a ≤ 9223372036854775807 ∧ a = if c.at_ < 0 then -(c.at_ + 1) else c.at_ := ⟨if c.at_ < 0 then -(c.at_ + 1) else c.at_, by split <;> omega, by split <;> omega, rfl⟩
        replace ha := Lib.hid ha
        clear hG hG0 hbxc
        go_upto_if 137 with fail
        go_cut [18] from 136 to 206 (fun z wx => z = .int .i64 a ∧ wx = wG)
        case first => as_aux_lemma =>
          have ha2 := ha.out
          rcases Int.lt_or_le c.at_ 0 with hneg | hneg
          · have hdf : decide (c.at_ < 0) = true := decide_eq_true hneg
            rw [if_pos hneg] at ha2
            replace ha2 := Lib.hid ha2
            go_wp2
            go_meet
            case rel => exact ⟨by rw [ha2.out], rfl⟩
          · have hdf : decide (c.at_ < 0) = false := decide_eq_false (by omega)
            rw [if_neg (by omega)] at ha2
            replace ha2 := Lib.hid ha2
            go_wp2
            go_meet
            case rel => exact ⟨by rw [ha2.out], rfl⟩
        case rest => as_aux_lemma =>
          obtain ⟨rfl, hwx⟩ := hcut
          replace hwx := hwx.symm
          subst hwx
          obtain ⟨nn, hnn⟩ : ∃ nn : Nat, (d'.calls : Int) - (d0.calls : Int) = (nn : Int) := ⟨d'.calls - d0.calls, by omega⟩
          obtain ⟨n1, hn1, hn11⟩ : ∃ n1 : Nat, (nn : Int) + 1 = (n1 : Int) ∧ n1 = nn + 1 := ⟨nn + 1, by omega, rfl⟩
          have hnz : (n1 : Int) ≠ 0 := by omega
          have hn12 : n1 ≤ 200 := by omega
          have hn13 : n1 ≠ 0 := by omega
          have hn14 : 0 < n1 := by omega
          obtain ⟨m, hm, hm1⟩ : ∃ m : Nat, a.tmod (n1 : Int) = (m : Int) ∧ d0.calls + m ≤ d'.calls := by
            have h1 := Int.emod_nonneg a hnz
            have h2 := Int.emod_lt_of_pos a (show (0 : Int) < (n1 : Int) by omega)
            refine ⟨(a % (n1 : Int)).toNat, ?_, by omega⟩
            rw [Int.tmod_eq_emod_of_nonneg ha0]
            omega
          obtain ⟨q, hq, hq1⟩ : ∃ q : Nat, (d0.calls : Int) + (m : Int) = (q : Int) ∧ q = d0.calls + m := ⟨d0.calls + m, by omega, rfl⟩
          have hpk : pickF (q : Int) (d'.calls + 1) = q := by
            unfold pickF
            rw [if_neg (by omega), Int.emod_eq_of_lt (by omega) (by omega)]
            omega
          have hq2 : d0.calls ≤ q := by omega
          have hq3 : q ≤ 190 := by omega
          have cC := Lib.hid (fun (W : World) (hW : Below wG.heap.size wG W) => changes_any (hGB.out.disk.below hW))
          have cX := Lib.hid (fun (W : World) (hW : Below wG.heap.size wG W) => cut_any (hGB.out.disk.below hW) hGB.out.ord.ord (hGB.out.sized.small (by omega)) (q : Int) c.names (by omega) (by omega) hcn.1 hcn.2 (kv := c.kv) (keep := c.keep) (RowAt.below hkpG.out hW) c.torn hct.1 hct.2)
          rw [hpk] at cX
          clear hpk
          replace hn11 := Lib.hid hn11
          replace hq1 := Lib.hid hq1
          have hw1 : IntKind.i64.wrap (nn : Int) = (nn : Int) := by rw [IntKind.wrap_i64]; omega
          have hw2 : IntKind.i64.wrap ((nn : Int) + 1) = (n1 : Int) := by rw [hn1, IntKind.wrap_i64]; omega
          have hw3 : IntKind.i64.wrap (n1 : Int) = (n1 : Int) := by rw [IntKind.wrap_i64]; omega
          have hw4 : IntKind.i64.wrap ((d0.calls : Int) + (m : Int)) = (q : Int) := by rw [hq, IntKind.wrap_i64]; omega
          have hw5 : IntKind.i64.wrap (q : Int) = (q : Int) := by rw [IntKind.wrap_i64]; omega
          go_upto_region 29 with fail
          go_cut [19] from 136 to 206 (fun z wx => ∃ (pl : Nat) (dx : CDisk), z = .pointer (some ⟨pl, 0, none⟩) ∧ Hid (DiskK wG.heap.size wx pl dx ∧ KeptAs d0 dx ∧ Below wG.heap.size wG wx))
          case first => as_aux_lemma =>
            go_region_held3 (fun w' => w'.cell? ⟨w.heap.size, 1, none⟩ = some (.int .i64 c.names) ∧ w'.cell? ⟨w.heap.size, 2, none⟩ = some c.kv ∧ w'.cell? ⟨w.heap.size, 3, none⟩ = some (.int .i64 c.torn)) (first | go_keep | assumption) (first
              | (go_at_call 18; refine (cC.out _ (by first | exact Below.refl _ _ | exact Below.drew (Below.refl _ _))).mono ?_; rintro e' w7 ⟨rfl, rfl⟩)
              | (go_at_call 10; refine (cX.out _ (by first | exact Below.refl _ _ | exact Below.drew (Below.refl _ _))).mono ?_; rintro e' w8 ⟨pl, dl, sv, rfl, hx1, hx2, hx3⟩; have y1 : w8.cell? ⟨w.heap.size, 1, none⟩ = some (.int .i64 c.names) := (hx3.cell (p := ⟨w.heap.size, 1, none⟩) hxlG).trans x1; have y2 : w8.cell? ⟨w.heap.size, 2, none⟩ = some c.kv := (hx3.cell (p := ⟨w.heap.size, 2, none⟩) hxlG).trans x2; have y3 : w8.cell? ⟨w.heap.size, 3, none⟩ = some (.int .i64 c.torn) := (hx3.cell (p := ⟨w.heap.size, 3, none⟩) hxlG).trans x3))
            all_goals
              have hX3 : Below wG.heap.size wG w8 := by first | exact hx3 | exact (Below.drew (Below.refl _ _)).trans hx3
              have hX2 := hS2.out.std.rest.keeps hS2.out.std.did.1 hGB.out.grown hGB.out.ord hGB.out.nr hGB.out.disk (hGB.out.sized.small (by omega)) (by have := hGB.out.sized.nam; omega) hq2 hx2 sv
              have hXX : Hid (DiskK wG.heap.size w8 pl (syncedN dl sv) ∧ KeptAs d0 (syncedN dl sv) ∧ Below wG.heap.size wG w8) := Lib.hid ⟨hx1, hX2, hX3⟩
              clear hx1 hx2 hx3 y1 y2 y3 x1 x2 x3 cC cX hX2 hX3
              go_wp2
              go_meet
              case rel => exact ⟨pl, _, rfl, hXX⟩
          case rest => as_aux_lemma =>
            obtain ⟨pl, dx, rfl, hX⟩ := hcut
            have hwx : ∃ wX, wX = wc := ⟨_, rfl⟩
            obtain ⟨wX, rfl⟩ := hwx
            have hHd := Lib.hid (hGB.out.held.below hX.out.2.2)
            have hBX : Hid (Below w.heap.size w wX) := Lib.hid (hb1.out.trans ((hGB.out.bel.trans (hX.out.2.2.mono hGB.out.disk.nle)).mono hb1.out.size))
            have hlh : ∀ W, (Builtin.len_ #[46] 3 #[vh]).run Try.prog W = .ok (.int .i64 (E.length : Nat)) W := fun W => by
              have := hHd.out.row.rows.len elemSure.ht (ty := 3) W; rwa [List.length_map] at this
            clear cC cX x0 x1 x2 x3 hw1 hw2 hw3 hw4 hw5 hnn hn1 hm hq
            go_wp2
            go_loopw [20, 21, 22] (fun t _ _ wr => ∃ j : Nat, t = .int .i64 (j : Nat) ∧ j ≤ E.length ∧ Hid (Below wX.heap.size wX wr)) (fun t _ _ _ => E.length - (intOf t).toNat)
            case atStart => exact ⟨0, rfl, by omega, Lib.hid (Below.refl _ _)⟩
            case round =>
              obtain ⟨j, rfl, hj, hbz⟩ := hrel
              rcases Nat.lt_or_ge j E.length with hjl | hjl
              · obtain ⟨x, hx⟩ : ∃ x, E[j]? = some x := ⟨_, List.getElem?_eq_getElem hjl⟩
                have hxm := List.mem_of_getElem? hx
                obtain ⟨tl, htl⟩ := hX.out.2.1.holds x.nm x.b (hS2.out.holds x hxm)
                have hHz := hHd.out.below hbz.out
                obtain ⟨bk, off, hix, hc, hbl, _⟩ := hHz.row.rows.index elemSure.ht elemSure.hs (i := j) (x := x.cells) (by rw [List.getElem?_map, hx]; rfl)
                have k0 : wr.cell? ⟨bk, off, none⟩ = some (.string x.nm) := hc 0 _ rfl
                have k1 : wr.cell? ⟨bk, off + 1, none⟩ = some x.v := hc 1 _ rfl
                have hbyx := hHz.bytes x hxm
                have hlx := fun W => hbyx.len (ty := 3) W
                have cR := Lib.hid (read_held (hX.out.1.below hbz.out) hX.out.2.1.small hX.out.2.1.right htl)
                have hbyx := Lib.hid hbyx
                clear hx hxm htl hHz hc
                go_wp2_with (go_at_call 16; refine cR.out.mono ?_; rintro e' w9 ⟨v9, rfl, ho9, hby9, hb9⟩)
                have z1 : w9.cell? ⟨bk, off + 1, none⟩ = some x.v := (hb9.cell (p := ⟨bk, off + 1, none⟩) hbl).trans k1
                have hl9 := fun W => hby9.len (ty := 3) W
                obtain ⟨v10, hcut10, hby10⟩ := hby9.first (k := x.b.length) (by rw [List.length_append]; omega)
                rw [List.take_left] at hby10
                have hbyx9 := hbyx.out.below hb9
                have g1 := fun k => run_bytes (w := w9.drewN k) (show BytesAt (w9.drewN k) v10 x.b from hby10)
                have g2 := fun k => run_bytes (w := w9.drewN k) (show BytesAt (w9.drewN k) x.v x.b from hbyx9)
                have hn9 : x.b.length ≤ (x.b ++ tl).length := by rw [List.length_append]; omega
                obtain ⟨n9, hn9e⟩ : ∃ n9, (x.b ++ tl).length = n9 := ⟨_, rfl⟩
                obtain ⟨nb, hnbe⟩ : ∃ nb, x.b.length = nb := ⟨_, rfl⟩
                rw [hn9e] at hl9 hn9
                rw [hnbe] at hlx hcut10 hn9
                have hq1 : decide ((n9 : Int) < (nb : Int)) = false := decide_eq_false (by omega)
                have hq2 : decide (n9 < nb) = false := decide_eq_false (by omega)
                obtain ⟨S, hS⟩ : ∃ S, strB x.b = S := ⟨_, rfl⟩
                rw [hS] at g1 g2
                have hs2 : (S.toList != S.toList) = false := by simp
                have hB9 := Lib.hid (hbz.out.trans (hb9.mono hbz.out.size))
                clear hS hn9e hnbe hbyx hby9 hby10 hbyx9 ho9 cR k0 k1 hb9 hHd hbz
                go_wp2
                go_quiet (fail)
                go_wp2
                go_roundw
                case rel => exact ⟨j + 1, by go_num, by omega, Lib.hid (below_drewN hB9.out _)⟩
                case measure => simp [intOf]; omega
              · have hjl' : ¬ ((j : Int) < (E.length : Int)) := by omega
                have hBf := Lib.hid (hBX.out.trans (hbz.out.mono hBX.out.size))
                go_wp2
                go_ret
                exact ⟨rfl, hBf.out⟩

theorem filesSafe_walk (w : World) (v v' : Value) (l l' : List OpD) (c : CutD) (hv : ScriptAt w v l) (hv' : ScriptAt w v' l') (hc : c.Ok w) :
    Calls Try.prog 5 #[v, v', .agg #[.int .i64 c.at_, .int .i64 c.names, c.kv, .int .i64 c.torn]] w (Ret (.bool true) w) := filesSafe_any w v v' l l' c hv hv' hc
end Go.Proofs.Ytpkiapjcilapoaa
