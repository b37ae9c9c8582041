/-
  Power at rest leaves all: the law.
-/
import Derived.Test.YtpkiapjcilapoaaFaApart
import Derived.Test.YtpkiapjcilapoaaFaRest
import Derived.Test.YtpkiapjcilapoaaFaCuts
namespace Go.Proofs.Ytpkiapjcilapoaa
open Go.RowKit Go.Sort Go.Maps

/-- So many names are synced. -/
structure Synced (n p : Nat) (d : CDisk) (names : List (List UInt8)) (w5 wr : World) (i : Nat) (d2 : CDisk) : Prop where
  did : DidK n p d d2 w5 wr
  nam : d2.nam = d.nam
  ord : Ordered d2
  right : Righted d2
  sized : Sized (60 + i) d2
  calm : ∀ x ∈ names.take i, CalmAt d2 ⟨x.toArray⟩

theorem Synced.step {n p : Nat} {d : CDisk} {names : List (List UInt8)} {w5 wr w6 : World} {i : Nat} {d2 d3 : CDisk} {x : List UInt8} {e : Nat} (h : Synced n p d names w5 wr i d2) (hi : i ≤ 60) (hx : names[i]? = some x) (hq : ∃ q, findK d ⟨x.toArray⟩ = some q)
    (hd : DidK n p d2 d3 wr w6) (hk : SyncK ⟨x.toArray⟩ d2 e d3) : Synced n p d names w5 w6 (i + 1) d3 := by
  obtain ⟨k1, k2, k3⟩ := hk.calm h.ord
  have ha := hk.act (N := 0)
  have hf : findK d2 ⟨x.toArray⟩ ≠ none := by
    obtain ⟨q, hq⟩ := hq
    have e : findK d2 ⟨x.toArray⟩ = findK d ⟨x.toArray⟩ := by unfold findK; rw [h.nam]
    rw [e, hq]; simp
  refine ⟨h.did.trans hd, k1.trans h.nam, ha.ordered h.did.1.named h.right h.ord (by have := h.sized.calls; omega), ha.righted h.right, ha.sized h.sized, fun y hy => ?_⟩
  rw [take_snoc hx] at hy
  rcases List.mem_append.1 hy with hy | hy
  · exact k3 _ (h.calm y hy)
  · simp at hy; subst hy; exact k2 hf

/-- All is synced, the names too. -/
structure Stood (n p : Nat) (d : CDisk) (w5 w6 : World) (d3 : CDisk) : Prop where
  did : DidK n p d d3 w5 w6
  nam : d3.nam = d.nam
  rest : Rest d3
  small : Small d3

theorem Synced.done {n p : Nat} {d : CDisk} {names : List (List UInt8)} {w5 wr w6 : World} {i : Nat} {d2 d3 : CDisk} {e : Nat} (h : Synced n p d names w5 wr i d2) (hi : i ≤ 60) (hn : names.length ≤ i) (hnm : namesL (namesOf d.nam) = names)
    (hd : DidK n p d2 d3 wr w6) (hk : SyncNamesK d2 e d3) : Stood n p d w5 w6 d3 := by
  obtain ⟨r1, r2⟩ := hk.rest h.did.1.named h.ord h.right (by have := h.sized.calls; omega) (fun nm q hq => by
    have h1 := (names_mem h.did.1 nm.data.toList).2 ⟨q, by simpa using hq⟩
    rw [h.nam, hnm] at h1
    have h2 := h.calm _ (by rw [List.take_of_length_le hn]; exact h1)
    simpa using h2)
  exact ⟨h.did.trans hd, r2.trans h.nam, r1, ((hk.act (N := 0)).sized h.sized).small (by omega)⟩

theorem Rest.held {d : CDisk} (hr : Rest d) {nm : ByteArray} {q : Nat} (hq : findK d nm = some q) : ∃ b, Holds_ d nm b := by
  obtain ⟨f, hf, h1, _⟩ := hr.calm _ _ hq
  exact ⟨f.all, f, hf, h1, rfl⟩

/-- Nothing is open. -/
theorem pending_zero {n p : Nat} {w : World} {d : CDisk} (h : DiskK n w p d) (hO : Ordered d) (hs : Small d) (hR : Righted d) {nm : ByteArray} {q : Nat} (hq : findK d nm = some q) (hz : ∃ f ∈ d.fs, findK d nm = some f.q ∧ (openP f d.calls).length = 0) (k : Nat) :
    Calls Try.prog 20 #[.pointer (some ⟨p, 0, none⟩), .string nm] (w.drewN k) fun e w' => e = .returned (.int .i64 0) ∧ ∃ m, w' = w.drewN m := by
  obtain ⟨f, hf, h1, h2⟩ := hz
  refine (pending_file (h.below (below_drewN (Below.refl _ _) k)) hO hs nm (right_size (hR _ _ hq)) hf h1).mono ?_
  rintro e w' ⟨rfl, m, rfl⟩
  rw [h2]
  exact ⟨rfl, k + m, by rw [World.drewN_drewN]⟩

set_option maxRecDepth 20000 in
set_option maxHeartbeats 8000000 in
theorem filesCalm_walk (w : World) (v : Value) (l : List OpD) (c : CutD) (hv : ScriptAt w v l) (hc : c.Ok w) :
    Calls Try.prog 6 #[v, .agg #[.int .i64 c.at_, .int .i64 c.names, c.kv, .int .i64 c.torn]] w (Ret (.bool true) w) := by
  obtain ⟨hrow, hops⟩ := hv
  obtain ⟨W1, hW1⟩ : ∃ W1, w.alloc (.cells #[.int .i64 c.at_, .int .i64 c.names, c.kv, .int .i64 c.torn] 33) = W1 := ⟨_, rfl⟩
  have hbx : W1.heap[w.heap.size]? = some (.cells #[.int .i64 c.at_, .int .i64 c.names, c.kv, .int .i64 c.torn] 33 (0, 0)) := by rw [← hW1]; exact heap_alloc_new w _
  have hb1 : Below w.heap.size w W1 := by rw [← hW1]; exact below_box1 _ _
  have hxl : w.heap.size < W1.heap.size := (Array.getElem?_eq_some_iff.1 hbx).1
  have hlv : ∀ W, (Builtin.len_ #[22] 3 #[v]).run Try.prog W = .ok (.int .i64 (l.length : Nat)) W := fun W => by
    have := hrow.len htOp (ty := 3) W; rwa [List.length_map] at this
  have hle := hrow.le
  rw [List.length_map] at hle
  have hrow := Lib.hid (hrow.below hb1)
  have hops := Lib.hid (fun x hx => (hops x hx).below hb1)
  have hcn := hc.names
  have hct := hc.torn
  have hkp := Lib.hid (RowAt.below (w := w) (w' := W1) hc.keep hb1)
  have cN := Lib.hid (new_any W1 (Nat.le_refl _))
  have hbx := Lib.hid hbx
  have hb1 := Lib.hid hb1
  clear hc
  go_enter Try.func6, Try.ntmps6
  go_wp2_with (first
    | (go_at_call 8; refine cN.out.mono ?_; rintro e' w2 ⟨rfl, hd2, hb2⟩; have hd2 := Lib.hid hd2; have hb2 := Lib.hid hb2)
    | (go_at_call 9; refine (alive_any w2).mono ?_; rintro e' w3 ⟨rfl, hb3⟩; have hd3 := Lib.hid (hd2.out.below hb3); have hb3 := Lib.hid (then_call hb2.out hb3)))
  have hT0 : Two W1.heap.size (w3.alloc (.cells #[.slice none 0 0, .int .i64 0, .int .i64 0] 28)) W1.heap.size newDisk w3.heap.size [] 0 0 := two_new hd3.out
  have hB0 : Below W1.heap.size W1 (w3.alloc (.cells #[.slice none 0 0, .int .i64 0, .int .i64 0] 28)) := then_box hb3.out _
  obtain ⟨pr, hpr⟩ : ∃ pr, w3.heap.size = pr := ⟨_, rfl⟩
  rw [hpr] at hT0
  rw [hpr]
  go_loopw [7] (fun t wr => ∃ (i : Nat) (d : CDisk), t = .int .i64 (i : Nat) ∧ i ≤ l.length ∧ i ≤ 60 ∧ Hid (Played W1.heap.size W1.heap.size pr W1 i d wr ∧ Ordered d)) (fun t _ => l.length - (intOf t).toNat)
  case atStart => exact ⟨0, newDisk, rfl, by omega, by omega, Lib.hid ⟨⟨[], 0, hT0, hB0, sized_new, sizedR_new, righted_new⟩, ordered_new⟩⟩
  case round =>
    clear hT0 hB0
    obtain ⟨i, d, rfl, hi, hi60, hpl⟩ := hrel
    by_cases hgo : i < l.length ∧ i < 60
    · obtain ⟨hil, hi6⟩ := hgo
      have q1 : decide ((i : Int) < (l.length : Int)) = true := decide_eq_true (by omega)
      have q2 : decide ((i : Int) < 60) = true := decide_eq_true (by omega)
      obtain ⟨x, hx⟩ : ∃ x, l[i]? = some x := ⟨_, List.getElem?_eq_getElem hil⟩
      obtain ⟨⟨L, born, hT, hB, hS, hSR, hR⟩, hO⟩ := hpl.out
      have hxo := (hops.out x (List.mem_of_getElem? hx))
      obtain ⟨b, off, hix, hc, hbl, _⟩ := (hrow.out.below hB).index htOp hsOp (i := i) (x := x.cells) (by rw [List.getElem?_map, hx]; rfl)
      have k0 : wr.cell? ⟨b, off, none⟩ = some (.int .i64 x.kind) := hc 0 _ rfl
      have k1 : wr.cell? ⟨b, off + 1, none⟩ = some (.string x.nm) := hc 1 _ rfl
      have k2 : wr.cell? ⟨b, off + 2, none⟩ = some (.string x.s) := hc 2 _ rfl
      have k3 : wr.cell? ⟨b, off + 3, none⟩ = some x.bv := hc 3 _ rfl
      have k4 : wr.cell? ⟨b, off + 4, none⟩ = some (.int .i64 x.at_) := hc 4 _ rfl
      have k5 : wr.cell? ⟨b, off + 5, none⟩ = some (.int .i64 x.names) := hc 5 _ rfl
      have k6 : wr.cell? ⟨b, off + 6, none⟩ = some x.kv := hc 6 _ rfl
      have k7 : wr.cell? ⟨b, off + 7, none⟩ = some (.int .i64 x.torn) := hc 7 _ rfl
      have hbv := hxo.b.below hB
      have hlx := fun W => hbv.len (ty := 3) W
      rcases Nat.lt_or_ge 1000 x.b.length with hbig | hsm
      · have hq : decide ((x.b.length : Int) ≤ 1000) = false := decide_eq_false (by omega)
        have hp' : Hid (Played W1.heap.size W1.heap.size pr W1 (i + 1) d wr ∧ Ordered d) := Lib.hid ⟨⟨L, born, hT, hB, hS.mono (by omega), ⟨by have := hSR.len; omega, by have := hSR.born; omega, fun f => by have := hSR.held f; omega⟩, hR⟩, hO⟩
        clear hc hx hxo hbv hT hB hS hSR hR hO hpl hbig
        go_wp2
        go_roundw
        case rel => exact ⟨i + 1, d, by go_num, by omega, by omega, hp'⟩
        case measure => simp [intOf]; omega
      · have hq : decide ((x.b.length : Int) ≤ 1000) = true := decide_eq_true (by omega)
        obtain ⟨lvr, Br, kk1, kk2, kk3⟩ := id hT
        have cA := Lib.hid (act_any kk1 kk2 kk3 (hS.small (by omega)) (by have := hSR.len; omega) (by have := hSR.born; omega) (fun f => by have := hSR.held f; omega) x.kind x.nm x.s x.bv x.kv x.b x.at_ x.names x.torn hxo.nm hxo.s hbv (fun hne => hxo.b.low hne) hsm)
        unfold opV at cA
        clear hc hx kk1 kk2 kk3
        have hT := Lib.hid hT
        have hB := Lib.hid hB
        have hS := Lib.hid hS
        have hSR := Lib.hid hSR
        have hR := Lib.hid hR
        have hO := Lib.hid hO
        clear hxo hbv hpl
        have hsm := Lib.hid hsm
        go_wp2_with (go_at_call 12; refine cA.out.mono ?_; rintro e' w4 ⟨e1, e2, d', L', born', rfl, t1, t2, _, t3, t4⟩; have hp' : Hid (Played W1.heap.size W1.heap.size pr W1 (i + 1) d' w4 ∧ Ordered d') := Lib.hid ⟨⟨L', born', t1, hB.out.trans t2, t3.sized hS.out, t4.sized hsm.out hSR.out, t3.righted hR.out⟩, t3.ordered hT.out.k.named hR.out hO.out (by have := hS.out.calls; omega)⟩; clear t1 t2 t3 t4)
        go_roundw
        case rel => exact ⟨i + 1, d', by go_num, by omega, by omega, hp'⟩
        case measure => simp [intOf]; omega
    · obtain ⟨⟨L, born, hT, hB, hS, hSR, hR⟩, hO⟩ := hpl.out
      have hqq : decide (i < l.length) = false ∨ (decide (i < l.length) = true ∧ decide ((i : Int) < 60) = false) := by
        by_cases hh : i < l.length
        · exact .inr ⟨decide_eq_true (by omega), decide_eq_false (by omega)⟩
        · exact .inl (decide_eq_false (by omega))
      have hBw : Below w.heap.size w wr := hb1.out.trans (hB.mono hb1.out.size)
      have hbxr := Lib.hid (cells_kept hbx.out (Turns.of_below (F := []) hB) (by simp))
      obtain ⟨_, _, hk, _, _⟩ := hT
      have cNm := Lib.hid (names_any hk (by have := hS.nam; omega))
      have hk := Lib.hid hk
      have hB := Lib.hid hB
      have hS := Lib.hid hS
      have hR := Lib.hid hR
      have hO := Lib.hid hO
      have hBw := Lib.hid hBw
      clear hpl hgo hSR
      rcases hqq with q1 | ⟨q1, q2⟩
      all_goals
        go_wp2_with (go_at_call 14; refine cNm.out.mono ?_; rintro e' w5 ⟨vn, rfl, hnr, hb5⟩)
        have hk5 := Lib.hid (hk.out.below hb5)
        have hBw5 := Lib.hid (hBw.out.trans (hb5.mono hBw.out.size))
        have hB5 := Lib.hid (hB.out.trans (hb5.mono hB.out.size))
        have hbx5 := Lib.hid (cells_kept hbxr.out (Turns.of_below (F := []) hb5) (by simp))
        have hvn : Hid (∀ k, vn.ownBlock = some k → k ∉ d.bs W1.heap.size) := Lib.hid (fun k hkk hin => by
          have h1 := (World.ownsRow.lt hnr k hkk).1
          have h2 := (hk.out.low k hin).2
          omega)
        have hnrow := Lib.hid hnr.row
        obtain ⟨names, hnm⟩ : ∃ names, namesL (namesOf d.nam) = names := ⟨_, rfl⟩
        rw [hnm] at hnrow
        have hln : ∀ W, (Builtin.len_ #[44] 3 #[vn]).run Try.prog W = .ok (.int .i64 (names.length : Nat)) W := fun W => by
          have := hnrow.out.len (ty := 3) Try.underlying44 W; rwa [List.length_map] at this
        have hnle : (names.length : Int) ≤ 9223372036854775807 := by have := hnrow.out.le; rwa [List.length_map] at this
        have hnH := Lib.hid (fun x (hx : x ∈ names) => (names_mem hk.out x).1 (by rw [hnm]; exact hx))
        have hn60 : names.length ≤ 60 := by
          have h1 := names_len hk.out
          rw [hnm] at h1
          have h2 := hk.out.map.size
          have h3 := hS.out.nam
          omega
        have hnmH := Lib.hid hnm
        have hst : Hid (Synced W1.heap.size W1.heap.size d names w5 w5 0 d) := Lib.hid ⟨DidK.refl hk5.out, rfl, hO.out, hR.out, hS.out.mono (by omega), by simp⟩
        clear hnr hb5 hnm cNm hbxr
        go_loopw [9] (fun t wr2 => ∃ (i2 : Nat) (d2 : CDisk), t = .int .i64 (i2 : Nat) ∧ i2 ≤ names.length ∧ Hid (Synced W1.heap.size W1.heap.size d names w5 wr2 i2 d2)) (fun t _ => names.length - (intOf t).toNat)
        case atStart => exact ⟨0, d, rfl, by omega, hst⟩
        case round =>
          clear hst
          obtain ⟨i2, d2, rfl, hi2, hh⟩ := hrel
          rcases Nat.lt_or_ge i2 names.length with hil | hil
          · obtain ⟨x, hx⟩ : ∃ x, names[i2]? = some x := ⟨_, List.getElem?_eq_getElem hil⟩
            obtain ⟨ad, hix, hcell, hadl⟩ := (hnrow.out.turns hh.out.did.2.1 (fun k hkk => hvn.out k hkk)).index Try.underlying44 (fun W => by kernel_rfl) (k := i2) (by rw [List.length_map]; exact hil)
            rw [List.getElem?_map, hx] at hcell
            have hcell : wr.cell? ad = some (.string ⟨x.toArray⟩) := hcell
            have hqx := hnH.out x (List.mem_of_getElem? hx)
            have hzx : (⟨x.toArray⟩ : ByteArray).size ≤ maxLen := by obtain ⟨q, hq⟩ := hqx; exact right_size (hR.out _ _ hq)
            have cS := Lib.hid (sync_out hh.out.did.1 (hh.out.sized.small (by omega)) ⟨x.toArray⟩ hzx)
            have hstep := Lib.hid (fun w6 e1 d3 hd hk3 => hh.out.step (w6 := w6) (e := e1) (d3 := d3) (by omega) hx hqx hd hk3)
            clear hx hqx hzx
            go_wp2_with (go_at_call 15; refine cS.out.mono ?_; rintro e' w6 ⟨e1, d3, rfl, hd3, hk3⟩; have hn3 := Lib.hid (hstep.out _ _ _ hd3 hk3); clear hd3 hk3)
            go_roundw
            case rel => exact ⟨i2 + 1, d3, by go_num, by omega, hn3⟩
            case measure => simp [intOf]; omega
          · have hil' : ¬ ((i2 : Int) < (names.length : Int)) := by omega
            have cSN := Lib.hid (syncNames_out hh.out.did.1 (hh.out.sized.small (by omega)))
            have hstep := Lib.hid (fun w6 e1 d3 hd hk3 => hh.out.done (w6 := w6) (e := e1) (d3 := d3) (by omega) hil hnmH.out hd hk3)
            go_wp2_with (go_at_call 17; refine cSN.out.mono ?_; rintro e' w6 ⟨e1, d3, rfl, hd3, hk3⟩; have hn3 := Lib.hid (hstep.out _ _ _ hd3 hk3); clear hd3 hk3)
            have hnd6 := hn3.out.did
            have hrow6 := Lib.hid (hnrow.out.turns hnd6.2.1 (fun k hkk => hvn.out k hkk))
            have hbn : w.heap.size ∉ d.bs W1.heap.size := fun hin => by have := (hk.out.low _ hin).1; omega
            have hbx6 := cells_kept hbx5.out hnd6.2.1 hbn
            have x1 := cell_at (i := 1) hbx6 rfl
            have x2 := cell_at (i := 2) hbx6 rfl
            have x3 := cell_at (i := 3) hbx6 rfl
            have hB6 := hB5.out.trans (hnd6.2.1.below hB5.out.size (fun b hb => (hk.out.low b hb).1))
            have hkp6 : KeepAt w6 c.kv c.keep := RowAt.below hkp.out hB6
            have hBw6 := Lib.hid (hb1.out.trans (hB6.mono hb1.out.size))
            have hcl := hn3.out.small.calls
            have cC := Lib.hid (fun (W : World) (hW : Below w6.heap.size w6 W) => changes_any (hnd6.1.below hW))
            have cX := Lib.hid (fun (W : World) (hW : Below w6.heap.size w6 W) => cut_any (hnd6.1.below hW) hn3.out.rest.ord.ord hn3.out.small ((d3.calls : Nat) : Int) c.names (by omega) (by omega) hcn.1 hcn.2 (kv := c.kv) (keep := c.keep) (RowAt.below hkp6 hW) c.torn hct.1 hct.2)
            rw [pickF_self] at cX
            have hxl6 : w.heap.size < w6.heap.size := (Array.getElem?_eq_some_iff.1 hbx6).1
            have hnd6 := Lib.hid hnd6
            clear hh hbx6 hB6 hkp6 cSN hstep hbn hcl
            go_region_held3 (fun w' => w'.cell? ⟨w.heap.size, 1, none⟩ = some (.int .i64 c.names) ∧ w'.cell? ⟨w.heap.size, 2, none⟩ = some c.kv ∧ w'.cell? ⟨w.heap.size, 3, none⟩ = some (.int .i64 c.torn)) (first | go_keep | assumption) (first
              | (go_at_call 18; refine (cC.out _ (by first | exact Below.refl _ _ | exact Below.drew (Below.refl _ _))).mono ?_; rintro e' w7 ⟨rfl, rfl⟩)
              | (go_at_call 10; refine (cX.out _ (by first | exact Below.refl _ _ | exact Below.drew (Below.refl _ _))).mono ?_; rintro e' w8 ⟨pl, dl, sv, rfl, hx1, hx2, hx3⟩; have y1 : w8.cell? ⟨w.heap.size, 1, none⟩ = some (.int .i64 c.names) := (hx3.cell (p := ⟨w.heap.size, 1, none⟩) hxl6).trans x1; have y2 : w8.cell? ⟨w.heap.size, 2, none⟩ = some c.kv := (hx3.cell (p := ⟨w.heap.size, 2, none⟩) hxl6).trans x2; have y3 : w8.cell? ⟨w.heap.size, 3, none⟩ = some (.int .i64 c.torn) := (hx3.cell (p := ⟨w.heap.size, 3, none⟩) hxl6).trans x3))
            all_goals
              have hX3 : Hid (Below w6.heap.size w6 w8) := Lib.hid (by first | exact hx3 | exact (Below.drew (Below.refl _ _)).trans hx3)
              have hnm3 : namesL (namesOf d3.nam) = names := by rw [hn3.out.nam]; exact hnmH.out
              have hL := Lib.hid (hn3.out.rest.left hnd6.out.1 hn3.out.small (by rw [hnm3]; omega) hx1 hx2)
              have hXk := Lib.hid hx1
              obtain ⟨dx, hdx⟩ : ∃ dx, syncedN dl sv = dx := ⟨_, rfl⟩
              rw [hdx] at hL hXk
              have hnmx : namesL (namesOf dx.nam) = names := hL.out.names.trans hnm3
              have cNx := Lib.hid (names_any hXk.out hL.out.small.nam)
              have hnm3 := Lib.hid hnm3
              have hnmx := Lib.hid hnmx
              have hqn : ((names.length : Int) != (names.length : Int)) = false := by simp
              clear hx1 hx2 hx3 hdx y1 y2 y3 x1 x2 x3 cC cX
              go_wp2_with (first
                | (go_at_call 14; refine cNx.out.mono ?_; rintro e' w9 ⟨vm, rfl, hmr, hb9⟩; have hlm : ∀ W, (Builtin.len_ #[44] 3 #[vm]).run Try.prog W = .ok (.int .i64 (names.length : Nat)) W := (fun W => by (have := hmr.row.len (ty := 3) Try.underlying44 W; rw [List.length_map, hnmx.out] at this; exact this)); have cCx : Hid (Calls Try.prog 18 #[.pointer (some ⟨pl, 0, none⟩)] w9 fun e w' => w' = w9 ∧ e = .returned (.int .i64 0)) := Lib.hid (by (have h0 := changes_any (hXk.out.below hb9); rw [hL.out.calls] at h0; exact h0)))
                | (go_at_call 18; refine cCx.out.mono ?_; rintro e' w10 ⟨h9, rfl⟩; obtain rfl := h9.symm))
              have hXk9 := Lib.hid (hXk.out.below hb9)
              have hmrow := Lib.hid hmr.row
              rw [hnmx.out] at hmrow
              have hB9 : Hid (Below w6.heap.size w6 w9) := Lib.hid (hX3.out.trans (hb9.mono hX3.out.size))
              have hnd9 := Lib.hid (hnd6.out.1.below hB9.out)
              have hrow9 := Lib.hid (hrow6.out.below hB9.out)
              clear hmr hb9 cCx cNx
              go_loopw [12] (fun t wr3 => ∃ (j : Nat), t = .int .i64 (j : Nat) ∧ j ≤ names.length ∧ Hid (Below w9.heap.size w9 wr3)) (fun t _ => names.length - (intOf t).toNat)
              case atStart => exact ⟨0, rfl, by omega, Lib.hid (Below.refl _ _)⟩
              case round =>
                obtain ⟨j, rfl, hj, hbz⟩ := hrel
                rcases Nat.lt_or_ge j names.length with hjl | hjl
                · obtain ⟨x, hx⟩ : ∃ x, names[j]? = some x := ⟨_, List.getElem?_eq_getElem hjl⟩
                  obtain ⟨ad, hix, hcell, hadl⟩ := (hrow9.out.below hbz.out).index Try.underlying44 (fun W => by kernel_rfl) (k := j) (by rw [List.length_map]; exact hjl)
                  obtain ⟨bd, hiy, hdell, hbdl⟩ := (hmrow.out.below hbz.out).index Try.underlying44 (fun W => by kernel_rfl) (k := j) (by rw [List.length_map]; exact hjl)
                  rw [List.getElem?_map, hx] at hcell hdell
                  replace hcell : wr.cell? ad = some (.string ⟨x.toArray⟩) := hcell
                  replace hdell : wr.cell? bd = some (.string ⟨x.toArray⟩) := hdell
                  obtain ⟨q, hq⟩ := hnH.out x (List.mem_of_getElem? hx)
                  have hq3 : findK d3 ⟨x.toArray⟩ = some q := by unfold findK; rw [hn3.out.nam]; exact hq
                  obtain ⟨nm, hnmq⟩ : ∃ nm : ByteArray, (⟨x.toArray⟩ : ByteArray) = nm := ⟨_, rfl⟩
                  rw [hnmq] at hcell hdell hq3
                  obtain ⟨b, hb⟩ := hn3.out.rest.held hq3
                  have hbx := hL.out.holds _ _ hb
                  obtain ⟨q', hq'⟩ : ∃ q', findK dx nm = some q' := by obtain ⟨f, _, h1, _⟩ := hbx; exact ⟨_, h1⟩
                  have hzx : ∃ f ∈ dx.fs, findK dx nm = some f.q ∧ (openP f dx.calls).length = 0 := by obtain ⟨f, hf, h1, _⟩ := hbx; exact ⟨f, hf, h1, hL.out.quiet f hf⟩
                  have cR1 := Lib.hid (read_held (hnd9.out.below hbz.out) hn3.out.small hn3.out.rest.right hb)
                  have cR2 := Lib.hid (fun (W : World) (hW : Below wr.heap.size wr W) => read_held ((hXk9.out.below hbz.out).below hW) hL.out.small hL.out.right hbx)
                  have cP : Hid (∀ (W : World), Below wr.heap.size wr W → ∀ (P : Nat), (P = pl ∨ P = W1.heap.size) → ∀ k, Calls Try.prog 20 #[.pointer (some ⟨P, 0, none⟩), .string nm] (W.drewN k) fun e w' => e = .returned (.int .i64 0) ∧ ∃ m, w' = W.drewN m) := Lib.hid (fun W hW P hP => by
                    rcases hP with rfl | rfl
                    · exact pending_zero ((hXk9.out.below hbz.out).below hW) hL.out.ord hL.out.small hL.out.right hq' hzx
                    · exact pending_zero ((hnd9.out.below hbz.out).below hW) hn3.out.rest.ord hn3.out.small hn3.out.rest.right hq3 (hn3.out.rest.quiet hq3))
                  have hs1 : (nm.toList == nm.toList) = true := by simp
                  have hs2 : (nm.toList != nm.toList) = false := by simp
                  clear hx hq hq3 hnmq hb hbx hq' hzx
                  go_wp2_with (first
                    | (go_at_call 16; first
                      | (refine (cR2.out _ hb10).mono ?_; rintro e' w11 ⟨v11, rfl, ho11, hby11, hb11⟩; have hB11 : Hid (Below wr.heap.size wr w11) := Lib.hid (hb10.trans (hb11.mono hb10.size)); have hdell11 : w11.cell? bd = some (.string nm) := (hB11.out.cell (p := bd) hbdl).trans hdell; have hcell11 : w11.cell? ad = some (.string nm) := (hB11.out.cell (p := ad) hadl).trans hcell; have hby10' := hby10.below hb11)
                      | (refine cR1.out.mono ?_; rintro e' w10 ⟨v10, rfl, ho10, hby10, hb10⟩; have hdell10 : w10.cell? bd = some (.string nm) := (hb10.cell (p := bd) hbdl).trans hdell; have hcell10 : w10.cell? ad = some (.string nm) := (hb10.cell (p := ad) hadl).trans hcell))
                    | (go_at_call 19; refine (same_true hby10' hby11).mono ?_; rintro e' w12 ⟨rfl, rfl⟩))
                  go_quiet ((go_at_call 20; exact cP.out _ hB11.out _ (by first | exact .inl rfl | exact .inr rfl) _))
                  go_wp2
                  go_roundw
                  case rel => exact ⟨j + 1, by go_num, by omega, Lib.hid (below_drewN (hbz.out.trans (hB11.out.mono hbz.out.size)) _)⟩
                  case measure => simp [intOf]; omega
                · have hjl' : ¬ ((j : Int) < (names.length : Int)) := by omega
                  have hBf := Lib.hid (hBw6.out.trans ((hB9.out.trans (hbz.out.mono hB9.out.size)).mono hBw6.out.size))
                  clear hjl
                  go_wp2
                  go_ret
                  exact ⟨rfl, hBf.out⟩
end Go.Proofs.Ytpkiapjcilapoaa
