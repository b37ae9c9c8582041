/-
  What is left of a file, the program's own.
-/
import Derived.Test.YtpkiapjcilapoaaFkTill
import Derived.Test.YtpkiapjcilapoaaFiLeftW
namespace Go.Proofs.Ytpkiapjcilapoaa
open Go.RowKit Go.Sort Go.Maps

/-- What is left of so many open appends: the bytes, where they end. -/
def leftN (l : List (List Nat)) (keep : List Bool) (torn : Int) (b0 : List Nat) : Nat → List Nat × Nat
  | 0 => (b0, b0.length)
  | i + 1 => match l[i]? with
    | none => leftN l keep torn b0 i
    | some p =>
      let r := leftN l keep torn b0 i
      if i < keep.length ∧ keep.getD i false = true then (r.1 ++ p, r.1.length + pickF torn (p.length + 1)) else (r.1 ++ List.replicate p.length 0, r.2)
theorem leftN_step {l : List (List Nat)} {i : Nat} {p : List Nat} (h : l[i]? = some p) (keep : List Bool) (torn : Int) (b0 : List Nat) {o : List Nat} {e : Nat} (hr : leftN l keep torn b0 i = (o, e)) :
    leftN l keep torn b0 (i + 1) = if i < keep.length ∧ keep.getD i false = true then (o ++ p, o.length + pickF torn (p.length + 1)) else (o ++ List.replicate p.length 0, e) := by rw [leftN, h]; simp only [hr]
theorem leftN_len (l : List (List Nat)) (keep : List Bool) (torn : Int) (b0 : List Nat) : ∀ i, (leftN l keep torn b0 i).1.length = b0.length + ((l.take i).flatten).length ∧ (leftN l keep torn b0 i).2 ≤ (leftN l keep torn b0 i).1.length
  | 0 => by simp [leftN]
  | i + 1 => by
    obtain ⟨h1, h2⟩ := leftN_len l keep torn b0 i
    cases hs : l[i]? with
    | none =>
      have hl : l.length ≤ i := List.getElem?_eq_none_iff.1 hs
      have e : leftN l keep torn b0 (i + 1) = leftN l keep torn b0 i := by rw [leftN, hs]
      rw [e, List.take_of_length_le (by omega)]
      rw [List.take_of_length_le hl] at h1
      exact ⟨h1, h2⟩
    | some p =>
      obtain ⟨⟨o, e⟩, hr⟩ : ∃ r, leftN l keep torn b0 i = r := ⟨_, rfl⟩
      rw [leftN_step hs keep torn b0 hr, List.take_add_one, hs]
      rw [hr] at h1 h2
      dsimp only at h1 h2
      have hp := pickF_lt torn (show 0 < p.length + 1 by omega)
      simp only [List.flatten_append, List.length_append, Option.toList_some, List.flatten_cons, List.flatten_nil, List.append_nil]
      split
      · dsimp only; simp only [List.length_append]; omega
      · dsimp only; simp only [List.length_append, List.length_replicate]; omega

/-- The parts that are open at a call. -/
def openP (f : CFile) (c : Nat) : List (Value × List Nat) := (f.parts.take (tillN f.ks c)).drop (durN f.ks f.ss c)
/-- What is left of a file. -/
def leftK (f : CFile) (c : Nat) (keep : List Bool) (torn : Int) : List Nat :=
  let r := leftN ((openP f c).map (·.2)) keep torn (allParts (f.parts.take (durN f.ks f.ss c))) (openP f c).length
  r.1.take r.2

/-- The calls stand in order. -/
structure FileOrd (f : CFile) : Prop where
  ks : f.ks.Pairwise (· ≤ ·)
  ss : f.ss.Pairwise (· ≤ ·)
  len : f.parts.length = f.ks.length
  sm : ∀ s ∈ f.ss, s ≤ 1000000

theorem allParts_sub (l : List (Value × List Nat)) (a b : Nat) (hab : a ≤ b) : (allParts (l.take a)).length + (allParts ((l.take b).drop a)).length ≤ (allParts l).length := by
  have h1 : l.take b = l.take a ++ (l.take b).drop a := by
    have := (List.take_append_drop a (l.take b)).symm
    rwa [List.take_take, Nat.min_eq_left hab] at this
  have h2 := allParts_take l b
  rw [h1] at h2
  have : allParts (l.take a ++ (l.take b).drop a) = allParts (l.take a) ++ allParts ((l.take b).drop a) := by simp [allParts]
  rw [this, List.length_append] at h2
  exact h2

set_option maxRecDepth 20000 in
set_option maxHeartbeats 8000000 in
theorem bytesLeft_any {n : Nat} {w : World} {f : CFile} (h : FileK n w f) (hO : FileOrd f) (hl : f.ks.length ≤ 100000) (hls : f.ss.length ≤ 100000) (hall : f.all.length ≤ 1048576) (c : Nat) (hcc : c ≤ 1000000) {kv : Value} {keep : List Bool} (hk : KeepAt w kv keep) (torn : Int) (ht1 : -9223372036854775808 ≤ torn) (ht2 : torn ≤ 9223372036854775807) :
    Calls Try.prog 28 #[.pointer (some ⟨f.q, 0, none⟩), .int .i64 (c : Nat), kv, .int .i64 torn] w fun e w' => ∃ v', e = .returned v' ∧ BytesAt w' v' (leftK f c keep torn) ∧ Below w.heap.size w w' ∧ (∀ b, v'.ownBlock = some b → w.heap.size ≤ b ∧ b < w'.heap.size) := by
  have cT := tillB_any h.file h.ch.rows h.ca.rows h.sy.rows hl hls hO.ks hO.ss (by rw [List.length_map]; exact hO.len) hO.sm c hcc
  rw [← List.map_take, ← List.map_take, ← List.map_drop] at cT
  have hsub := allParts_sub f.parts (durN f.ks f.ss c) (tillN f.ks c) (durN_le _ _ _ hO.ss)
  have hall' : (allParts f.parts).length ≤ 1048576 := hall
  have hby := h.bytes
  have hfin : leftK f c keep torn = (leftN ((openP f c).map (·.2)) keep torn (allParts (f.parts.take (durN f.ks f.ss c))) (openP f c).length).1.take (leftN ((openP f c).map (·.2)) keep torn (allParts (f.parts.take (durN f.ks f.ss c))) (openP f c).length).2 := rfl
  obtain ⟨P1, hP1⟩ : ∃ P1, f.parts.take (durN f.ks f.ss c) = P1 := ⟨_, rfl⟩
  have hby1 : ∀ x ∈ P1, BytesAt w x.1 x.2 := fun x hx => hby x (List.mem_of_mem_take (hP1 ▸ hx))
  obtain ⟨P2, hP2⟩ : ∃ P2, openP f c = P2 := ⟨_, rfl⟩
  have hby2 : ∀ x ∈ P2, BytesAt w x.1 x.2 := fun x hx => by
    rw [← hP2] at hx
    exact hby x (List.mem_of_mem_take (List.mem_of_mem_drop hx))
  have hP2' : (f.parts.take (tillN f.ks c)).drop (durN f.ks f.ss c) = P2 := hP2
  rw [hP1, hP2'] at cT hsub
  have hsub2 : (allParts P1).length + (allParts P2).length ≤ 1048576 := Nat.le_trans hsub hall'
  rw [hP1, hP2] at hfin
  have hbz : ∀ x ∈ allParts P1, x < 256 := fun x hx => by
    obtain ⟨y, hy, hx⟩ := List.mem_flatMap.1 hx
    exact (hby1 y hy).byte x hx
  obtain ⟨R, hR⟩ : ∃ R, leftK f c keep torn = R := ⟨_, rfl⟩
  rw [hR] at hfin ⊢
  have hkv := fun W => hk.len (ty := 3) W
  have hkle : (keep.length : Int) ≤ 9223372036854775807 := by have := RowAt.le hk; rwa [List.length_map] at this
  have hk := Lib.hid hk
  replace hfin := Lib.hid hfin
  have hby1 := Lib.hid hby1
  have hby2 := Lib.hid hby2
  have hbz := Lib.hid hbz
  have cT := Lib.hid cT
  have hqlt : f.q < w.heap.size := h.wlt f.q (by simp [CFile.wb])
  clear h hO hall hall' hby hP1 hP2 hP2' hR
  have cC := Lib.hid (fun (v1 : Value) (q1 : Nat) (h1 : RowsAt 1 (w.drewN q1) v1 (P1.map partCells)) => concatB_any h1 (fun x hx => hby1.out x hx) (by omega))
  go_enter Try.func28, Try.ntmps28
  go_wp2_with (first
    | (go_at_call 49; refine cT.out.mono ?_; rintro e w1 ⟨v1, v2, rfl, r1, r2, q1, rfl⟩; have r1 := Lib.hid r1; have r2 := Lib.hid r2; have hl2 : ∀ W, (Builtin.len_ #[73] 3 #[v2]).run Try.prog W = .ok (.int .i64 (P2.length : Nat)) W := (fun W => by (have := r2.out.len elemB.ht (ty := 3) W; rwa [List.length_map] at this)))
    | (go_at_call 48; refine (cC.out _ _ r1.out).mono ?_; rintro e w2 ⟨v3, rfl, ho3, hb3⟩; have hlo := fun W => (ho3.bytes hbz.out).len (ty := 3) W))
  have hP2l : (P2.length : Int) ≤ 9223372036854775807 := by have := r2.out.le; rwa [List.length_map] at this
  have hbw : Below w.heap.size w w2 := (below_drewN (Below.refl _ _) q1).trans hb3
  have ho3w : Own w2 w.heap.size v3 (allParts P1) := ho3
  clear ho3 hb3 hlo
  go_loopw [11, 12, 29] (fun o' e' t wr => ∃ (o : Value) (i e : Nat) (O : List Nat), o = o' ∧ e' = .int .i64 (e : Nat) ∧ t = .int .i64 (i : Nat) ∧ i ≤ P2.length ∧ e ≤ O.length ∧ O.length ≤ 1048576 ∧ Own wr w.heap.size o O ∧ Hid (leftN (P2.map (·.2)) keep torn (allParts P1) i = (O, e) ∧ ∀ x ∈ O, x < 256) ∧ Below w.heap.size w wr) (fun _ _ t _ => P2.length - (intOf t).toNat)
  case atStart => exact ⟨v3, 0, (allParts P1).length, allParts P1, rfl, rfl, rfl, by omega, by omega, by omega, ho3w, Lib.hid ⟨rfl, hbz.out⟩, hbw⟩
  case round =>
    clear ho3w hbw
    obtain ⟨o, i, e, O, rfl, rfl, rfl, hi, heO, hOl, hown, hso, hbel⟩ := hrel
    rcases Nat.lt_or_ge i P2.length with hil | hil
    · obtain ⟨x, hx⟩ : ∃ x, P2[i]? = some x := ⟨_, List.getElem?_eq_getElem hil⟩
      have hbv := hide ((hby2.out x (List.mem_of_getElem? hx)).below hbel)
      obtain ⟨b, off, hix, hc, hbk, _⟩ := RowsAt.index (w := w) r2.out elemB.ht elemB.hs (parts_at hx)
      have k0 : wr.cell? ⟨b, off, none⟩ = some x.1 := (hbel.cell (p := ⟨b, off, none⟩) hbk).trans (hc 0 _ rfl)
      have hd := leftN_step (l := P2.map (·.2)) (i := i) (p := x.2) (by rw [List.getElem?_map, hx]; rfl) keep torn (allParts P1) hso.out.1
      have hlen := (leftN_len (P2.map (·.2)) keep torn (allParts P1) (i + 1)).1
      have hlen2 : (((P2.map (·.2)).take (i + 1)).flatten).length ≤ (allParts P2).length := by
        have := allParts_take P2 (i + 1)
        rw [← List.map_take]
        simpa [allParts, List.flatMap_def] using this
      have hbb := hbv.out.byte
      have hlb := fun W => hbv.out.len (ty := 3) W
      obtain ⟨bv, bb⟩ := x
      dsimp only at hbv k0 hd hbb hlb
      have hlO : ∀ W, (Builtin.len_ #[30] 3 #[o]).run Try.prog W = .ok (.int .i64 (O.length : Nat)) W := fun W => (hown.bytes hso.out.2).len (ty := 3) W
      have hbl : O.length + bb.length ≤ 1048576 := by
        rw [hd] at hlen
        by_cases c2 : i < keep.length ∧ keep.getD i false = true
        · rw [if_pos c2] at hlen; simp only [List.length_append] at hlen; omega
        · rw [if_neg c2] at hlen; simp only [List.length_append, List.length_replicate] at hlen; omega
      have hb2 : ∀ x ∈ O ++ bb, x < 256 := fun x hx => (List.mem_append.1 hx).elim (hso.out.2 x) (hbb x)
      have hb3 : ∀ x ∈ O ++ List.replicate bb.length 0, x < 256 := fun x hx => (List.mem_append.1 hx).elim (hso.out.2 x) (fun h => by rw [(List.mem_replicate.1 h).2]; omega)
      clear hc hx hlen hlen2
      rcases keep_get (keep := keep) (m := i) with ⟨hm, hkm⟩ | ⟨hm, hkm⟩ | hm
      · obtain ⟨ad, hki, hkc, _⟩ := KeepAt.index (w := wr) (RowAt.below hk.out hbel) hm
        rw [hkm] at hkc
        rw [if_pos ⟨hm, hkm⟩] at hd
        have hso2 := Lib.hid (And.intro hd hb2)
        have cP := hide (fun W => counted_any torn bb.length W ht1 ht2 (by omega))
        have hJ := pickF_lt torn (show 0 < bb.length + 1 by omega)
        obtain ⟨J, hJ2⟩ : ∃ J, pickF torn (bb.length + 1) = J := ⟨_, rfl⟩
        rw [hJ2] at cP hJ hso2
        have hm1 : decide (keep.length ≤ i) = false := decide_eq_false (by omega)
        have hm2 : ¬ (keep.length : Int) ≤ i := by omega
        clear hd hso hb2 hb3 hJ2 hkm
        go_wp2_with (first
          | (go_at_call 23; refine (cP.out _).mono ?_; rintro e' w3 ⟨rfl, rfl⟩)
          | (at_builtin; refine append_bytes rfl (.tmp 56) (.tmp 57) rfl w.heap.size rfl hown rfl hbv.out (by omega) hbel.size ?_; intro v4 w3 hown2 hb2; have hbel2 := hbel.trans hb2))
        go_roundw
        case rel => exact ⟨v4, i + 1, O.length + J, _, rfl, by go_num, by go_num, by omega, by simp; omega, by simpa using hbl, hown2, hso2, hbel2⟩
        case measure => simp [intOf]; omega
      · obtain ⟨ad, hki, hkc, _⟩ := KeepAt.index (w := wr) (RowAt.below hk.out hbel) hm
        rw [hkm] at hkc
        rw [if_neg (fun h => by rw [hkm] at h; cases h.2)] at hd
        have hso2 := Lib.hid (And.intro hd hb3)
        have hm1 : decide (keep.length ≤ i) = false := decide_eq_false (by omega)
        have hm2 : ¬ (keep.length : Int) ≤ i := by omega
        clear hd hso hb2 hb3 hkm
        go_wp2_with (at_builtin; refine append_zeros rfl (.tmp 45) (.tmp 47) rfl bb.length rfl hown rfl (by omega) hbel.size ?_; intro A4 m4 c4 w3 hown2 hb2; have hbel2 := hbel.trans hb2)
        go_roundw
        case rel => exact ⟨_, i + 1, e, _, rfl, rfl, by go_num, by omega, by simp; omega, by simpa using hbl, hown2, hso2, hbel2⟩
        case measure => simp [intOf]; omega
      · rw [if_neg (fun h => hm h.1)] at hd
        have hso2 := Lib.hid (And.intro hd hb3)
        have hm1 : decide (keep.length ≤ i) = true := decide_eq_true (by omega)
        have hm2 : (keep.length : Int) ≤ i := by omega
        clear hd hso hb2 hb3
        go_wp2_with (at_builtin; refine append_zeros rfl (.tmp 45) (.tmp 47) rfl bb.length rfl hown rfl (by omega) hbel.size ?_; intro A4 m4 c4 w3 hown2 hb2; have hbel2 := hbel.trans hb2)
        go_roundw
        case rel => exact ⟨_, i + 1, e, _, rfl, rfl, by go_num, by omega, by simp; omega, by simpa using hbl, hown2, hso2, hbel2⟩
        case measure => simp [intOf]; omega
    · obtain ⟨v5, hsl, hb5, hfr⟩ := own_first hown hso.out.2 heO
      have hfin2 : Hid (R = O.take e) := Lib.hid (by
        obtain rfl : i = P2.length := by omega
        rw [hfin.out, hso.out.1])
      have hil' : ¬ ((i : Int) < (P2.length : Int)) := by omega
      clear hso
      go_wp2
      go_ret
      have hb6 : BytesAt wr v5 R := by rw [hfin2.out]; exact hb5
      exact ⟨v5, rfl, hb6, hbel, hfr⟩
end Go.Proofs.Ytpkiapjcilapoaa
