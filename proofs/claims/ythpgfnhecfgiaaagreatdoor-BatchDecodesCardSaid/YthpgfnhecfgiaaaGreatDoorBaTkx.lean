/-
  The columns of texts taken from bytes, and given to operations.
-/
import Derived.Test.YthpgfnhecfgiaaaGreatDoorBaTkt
import Derived.Test.YthpgfnhecfgiaaaGreatDoorBaTex
import Derived.Test.YthpgfnhecfgiaaaGreatDoorMBase
namespace Go.Proofs.YthpgfnhecfgiaaaGreatDoor
open Go.RowKit Go.Sort
set_option maxRecDepth 20000

def lensS (s : List ByteArray) : List Int := s.map fun x => (x.size : Int)
def allS : List ByteArray → List Nat
  | [] => []
  | x :: r => strN x ++ allS r
def texCol (s : List ByteArray) : List Nat := bytesR (lensS s) ++ allS s
def texPre (S : Nat → List ByteArray) : Nat → List Nat
  | 0 => []
  | k + 1 => texPre S k ++ texCol (S k)
def TexOf (b : List Nat) (n : Nat) (S : Nat → List ByteArray) : Prop := (∀ c, c < 3 → (S c).length = n) ∧ texPre S 3 <+: b
theorem texPre_congr {L L' : Nat → List ByteArray} : ∀ {k : Nat}, (∀ j, j < k → L j = L' j) → texPre L k = texPre L' k
  | 0, _ => rfl
  | k + 1, h => by rw [texPre, texPre, texPre_congr (fun j hj => h j (by omega)), h k (by omega)]
theorem texPre_up (L : Nat → List ByteArray) {j : Nat} : ∀ {k : Nat}, j ≤ k → texPre L j <+: texPre L k
  | 0, h => by obtain rfl : j = 0 := by omega
               exact List.prefix_refl _
  | k + 1, h => by
    rcases Nat.lt_or_ge j (k + 1) with h' | h'
    · exact (texPre_up L (k := k) (by omega)).trans (List.prefix_append _ _)
    · obtain rfl : j = k + 1 := by omega
      exact List.prefix_refl _
theorem TexOf.col {b : List Nat} {n : Nat} {L L' : Nat → List ByteArray} (h : TexOf b n L') {i : Nat} (hi : i < 3) (hs : ∀ j, j < i → L' j = L j) : texCol (L' i) <+: b.drop (texPre L i).length := by
  have h1 : texPre L' (i + 1) <+: b := (texPre_up L' (by omega)).trans h.2
  rw [texPre] at h1
  have h2 := pre_drop h1
  rwa [texPre_congr hs] at h2
theorem allS_append (s t : List ByteArray) : allS (s ++ t) = allS s ++ allS t := by
  induction s with
  | nil => rfl
  | cons x r ih => simp [allS, ih]
theorem allS_mem {s : List ByteArray} {x : ByteArray} (h : x ∈ s) : x.size ≤ (allS s).length := by
  induction s with
  | nil => cases h
  | cons y r ih =>
    rw [allS, List.length_append, strN_len]
    rcases List.mem_cons.1 h with rfl | h
    · omega
    · have := ih h; omega
theorem strN_inj {x y : ByteArray} (h : strN x = strN y) : x = y := by rw [← strB_strN x, ← strB_strN y, h]
theorem strN_strB {l : List Nat} (h : ∀ x ∈ l, x < 256) : strN (strB l) = l := by
  unfold strN strB
  simp only [List.map_map]
  have : l.map (UInt8.toNat ∘ UInt8.ofNat) = l.map id := List.map_congr_left (fun x hx => by have := h x hx; simp; omega)
  simpa using this
/-- Texts that are as long as others, and stand where these do, are these. -/
theorem texts_same : ∀ {s t : List ByteArray} {d : List Nat}, lensS s = lensS t → allS s <+: d → allS t <+: d → s = t
  | [], [], _, _, _, _ => rfl
  | [], _ :: _, _, h, _, _ => by simp [lensS] at h
  | _ :: _, [], _, h, _, _ => by simp [lensS] at h
  | x :: s, y :: t, d, h, h1, h2 => by
    simp [lensS] at h
    obtain ⟨hl, ht⟩ := h
    rw [allS] at h1 h2
    obtain ⟨u, rfl⟩ := h1
    obtain ⟨u', h2⟩ := h2
    rw [List.append_assoc, List.append_assoc] at h2
    have hxy := List.append_inj h2 (by rw [strN_len, strN_len]; omega)
    have e : x = y := (strN_inj hxy.1).symm
    subst e
    have := texts_same (s := s) (t := t) (d := allS s ++ u) (by unfold lensS; exact ht) (List.prefix_append _ _) ⟨u', hxy.2⟩
    rw [this]
theorem TexOf.runs {b : List Nat} {n : Nat} {s : List ByteArray} (hn : s.length = n) (h : texCol s <+: b) (hb : (b.length : Int) ≤ 9223372036854775807) : RunsOf b n (lensS s) := by
  refine ⟨by simp [lensS, hn], fun x hx => ?_, (List.prefix_append _ _).trans h⟩
  obtain ⟨y, hy, rfl⟩ := List.mem_map.1 hx
  have h1 := allS_mem hy
  have h2 := h.length_le
  unfold texCol at h2
  rw [List.length_append] at h2
  unfold InR; omega

/-- What the taker of texts leaves. -/
def TexPost (b : List Nat) (n g : Nat) (D0 : Nat → OpV) (w : World) : Ending → World → Prop := fun e w' => Turns [g] w w' ∧
  ((∃ T D, TexOf b n T ∧ e = .returned (.tuple #[.int .i64 ((texPre T 3).length : Nat), .nilIface]) ∧ Fld w' g n D ∧ (∀ c, c < 3 → ∀ t, t < n → (T c)[t]? = some (txt (D t) c)) ∧ ∀ t, (∀ j, j < 21 → fld (D t) j = fld (D0 t) j) ∧ ∀ c, truV (D t) c = truV (D0 t) c) ∨
   ((∀ T, ¬ TexOf b n T) ∧ ∃ k : Int, e = .returned (.tuple #[.int .i64 0, .iface 49 (.agg #[.int .i64 k])])))

theorem BytesAt.span {w : World} {v : Value} {l : List Nat} (h : BytesAt w v l) {a b : Nat} (hab : a ≤ b) (hb : b ≤ l.length) :
    ∃ v', (∀ W, (Instr.slice 22 v (some (.int .i64 (a : Int))) (some (.int .i64 (b : Int))) none).run Tryz.prog W = .ok v' W) ∧ BytesAt w v' ((l.drop a).take (b - a)) ∧ ∀ k, v'.ownBlock = some k → v.ownBlock = some k := by
  obtain ⟨A, c, rfl, h2, h3, h4, h5, h6⟩ := h
  have he : Tryz.prog.elem 22 = 5 := by kernel_rfl
  refine ⟨sliced A a b c 1, fun W => ?_, ?_, fun k hk => ?_⟩
  · rw [run_slice_lh (P := Tryz.prog) W 22 _ l.length c (by rw [he]; exact Tryz.underlying22) .i64 .i64 (a : Int) (b : Int) (by omega) (by omega) (by omega), he, elemY.hs]
    simp only [Result.andThen, Int.toNat_natCast]
  · have hlen : ((l.drop a).take (b - a)).length = b - a := by simp; omega
    refine ⟨if c = a then A else A.map (·.add (a * 1)), c - a, by rw [hlen]; rfl, by rw [hlen]; omega, by unfold maxLen at *; omega, fun x hx => h4 x (List.mem_of_mem_drop (List.mem_of_mem_take hx)), fun hl => ?_, fun hh => ?_⟩
    · rw [hlen] at hl
      obtain ⟨bk, off, rfl, h8, h9⟩ := h5 (by omega)
      rw [if_neg (by omega)]
      refine ⟨bk, off + a, by simp [addr_at], h8, fun i hi => ?_⟩
      rw [hlen] at hi
      rw [Nat.add_assoc, h9 (a + i) (by omega)]
      simp [List.getD, hi]
    · split at hh
      · have := h6 hh; omega
      · have := h6 (by cases A <;> simp_all); omega
  · unfold sliced at hk
    cases A with
    | none => split at hk <;> simp [Value.ownBlock] at hk
    | some ad =>
      split at hk
      · exact hk
      · obtain ⟨bk, off, sp⟩ := ad
        simp only [Value.ownBlock, Option.map_some, Addr.add] at hk ⊢
        split at hk <;> simpa using hk

theorem allS_len {s t : List ByteArray} : lensS s = lensS t → (allS s).length = (allS t).length := by
  induction s generalizing t with
  | nil => intro h; cases t with
    | nil => rfl
    | cons => simp [lensS] at h
  | cons x r ih =>
    intro h
    cases t with
    | nil => simp [lensS] at h
    | cons y q =>
      simp [lensS] at h
      rw [allS, allS, List.length_append, List.length_append, strN_len, strN_len, ih (t := q) (by unfold lensS; exact h.2)]
      omega
theorem allS_room {s t : List ByteArray} {V : List Int} {i : Nat} {m : Int} (ht : lensS t = V) (hs : lensS s = V.take i) (hm : V[i]? = some m) : 0 ≤ m ∧ ((allS s).length : Int) + m ≤ (allS t).length := by
  have hti : ∃ y, t[i]? = some y ∧ (y.size : Int) = m := by
    rw [← ht, lensS, List.getElem?_map] at hm
    cases h : t[i]? with
    | none => rw [h] at hm; cases hm
    | some y => rw [h] at hm; simp at hm; exact ⟨y, rfl, hm⟩
  obtain ⟨y, hy, rfl⟩ := hti
  have h1 : lensS s = lensS (t.take i) := by rw [hs, ← ht]; simp [lensS, List.map_take]
  have h2 := allS_len h1
  have h3 : t = t.take (i + 1) ++ t.drop (i + 1) := (List.take_append_drop _ _).symm
  have h4 := congrArg (fun z => (allS z).length) h3
  simp only [allS_append, List.length_append] at h4
  rw [List.take_add_one, hy] at h4
  simp only [Option.toList, allS_append, List.length_append, allS, List.append_nil, strN_len] at h4
  have h5 : (allS [y]).length = y.size := by simp [allS, strN_len]
  omega

theorem texO_num {c k : Nat} (hc : c < 3) (hk : k < 21) : offN k ≠ 17 + c := fun h => (offN_apart hk).2 c hc h.symm
theorem texO_tru {c c' : Nat} (hc : c < 3) : truO c' ≠ 17 + c := by unfold truO; split <;> omega

set_option maxHeartbeats 4000000 in
theorem takeTexts_any {g n cap0 : Nat} {bv : Value} {b : List Nat} {D0 : Nat → OpV} (w : World) (hF : Fld w g n D0) (hbv : BytesAt w bv b) (hbg : ∀ k, bv.ownBlock = some k → k ∉ [g]) (hn : n ≤ 200) (hnc : n ≤ cap0) (hcm : cap0 ≤ maxLen) :
    Calls Tryz.prog 29 #[.slice (some ⟨g, 0, none⟩) n cap0, bv] w (TexPost b n g D0 w) := by
  have hgl := hF.lt
  have hll : ∀ W, (Builtin.len_ #[24] 3 #[.slice (some ⟨g, 0, none⟩) n cap0]).run Tryz.prog W = .ok (.int .i64 (n : Nat)) W := fun W => by
    have := (hF.ops hnc hcm).len 3 W
    simpa using this
  have hbl : (b.length : Int) ≤ 9223372036854775807 := by have := hbv.row.le; rwa [bvals_length] at this
  have hlb := fun W => hbv.len (ty := 3) W
  have hixo : ∀ (j : Nat), j < n → ∀ X, (Instr.indexAt 24 (.slice (some ⟨g, 0, none⟩) n cap0) (.int .i64 (j : Int))).run Tryz.prog X = .ok (.pointer (some ⟨g, j * 26, none⟩)) X := fun j hj X => by
    have he : Tryz.prog.elem 24 = 42 := by kernel_rfl
    rw [run_indexAt_slice (P := Tryz.prog) X _ _ n cap0 .i64 (j : Int) (by kernel_rfl), if_pos (by omega), he, elemO.hs]
    simp [Result.andThen, addr_at]
  obtain ⟨v, hv⟩ : ∃ v, Value.slice (some ⟨g, 0, none⟩) n cap0 = v := ⟨_, rfl⟩
  rw [hv] at hll hixo ⊢
  clear hv
  have hixo := Lib.hid hixo
  have hbv := Lib.hid hbv
  have hF := Lib.hid hF
  have hbg := Lib.hid hbg
  go_enter Tryz.func29, Tryz.ntmps29
  go_wp2_with (go_at_call 50; refine (texts_any _ _ _).mono ?_; rintro e w1 ⟨q, rfl, hq, hql, hb1⟩)
  have hb1 := then_call (below_box1 w _) hb1
  clear hq hql
  go_loopw [6, 16] (fun o' t wr => ∃ (c a0 : Nat) (T : Nat → List ByteArray) (D : Nat → OpV), o' = .int .i64 (a0 : Nat) ∧ t = .int .i64 c ∧ c ≤ 3 ∧ Hid (a0 = (texPre T c).length) ∧ Hid (texPre T c <+: b) ∧ Hid (∀ T', TexOf b n T' → ∀ j, j < c → T' j = T j) ∧ Hid (Fld wr g n D) ∧ Hid (∀ c', c' < c → (T c').length = n ∧ ∀ t, t < n → (T c')[t]? = some (txt (D t) c')) ∧ Hid (∀ t, (∀ j, j < 21 → fld (D t) j = fld (D0 t) j) ∧ ∀ c, truV (D t) c = truV (D0 t) c) ∧ Hid (Turns [g] w wr)) (fun _ t _ => 3 - (intOf t).toNat)
  case atStart => exact ⟨0, 0, fun _ => [], D0, rfl, rfl, by omega, Lib.hid rfl, Lib.hid (List.nil_prefix), Lib.hid (fun _ _ j hj => absurd hj (Nat.not_lt_zero j)), Lib.hid (hF.out.turns (F := []) (Turns.of_below hb1) (by simp)), Lib.hid (fun c hc => absurd hc (Nat.not_lt_zero c)), Lib.hid (fun t => ⟨fun _ _ => rfl, fun _ => rfl⟩), Lib.hid (Turns.of_below hb1)⟩
  case round =>
    clear hb1
    obtain ⟨c, a0, T, D, rfl, rfl, hc, ha0, hpre, huni, hFD, htex, hsame, hT⟩ := hrel
    by_cases hlt : c < 3
    · have hc4 : (c : Int) < 3 := by omega
      obtain ⟨wa, hwa⟩ : ∃ wa, wa = wr := ⟨_, rfl⟩
      subst hwa
      have ha0l : a0 ≤ b.length := by rw [ha0.out]; exact hpre.out.length_le
      have hba := hbv.out.turns hT.out hbg.out
      obtain ⟨bv2, hcut, hbv2⟩ := hba.cut ha0l
      obtain ⟨x, a, e5, hK⟩ := takenR_any (b.drop a0) n
      have hbv2 := Lib.hid hbv2
      have hal : a ≤ (b.drop a0).length := by
        rcases hK with ⟨h1, h2, _⟩ | ⟨_, _, h2, _⟩
        · rw [h2]; exact h1.2.2.length_le
        · omega
      rw [List.length_drop] at hal
      have hsum : (a0 : Int) + (a : Int) ≤ 9223372036854775807 := by omega
      have HC : ∀ W, BytesAt W bv2 (b.drop a0) → Calls Tryz.prog 55 #[bv2, .int .i64 n] W (GivesI x a e5 W) := fun W h => cTakeRuns_any bv2 _ n x a e5 W h (by omega) hK
      have HC := Lib.hid HC
      rcases hK with ⟨hcol, ha, he⟩ | ⟨hno, hc0, ha, he⟩
      · have hg5 : ((e5 : Int) != 0) = false := by rw [he]; rfl
        clear he
        have hxl : Hid (x.length = n) := Lib.hid hcol.1
        obtain ⟨a1, ha1⟩ : ∃ a1 : Nat, a0 + a = a1 := ⟨_, rfl⟩
        have ha1l : a1 ≤ b.length := by omega
        have ha1i : (a0 : Int) + (a : Int) = (a1 : Int) := by omega
        replace ha1 := Lib.hid ha1
        replace hcol := Lib.hid hcol
        replace ha := Lib.hid ha
        clear hal
        go_wp2_with (go_at_call 55; refine (HC.out _ hbv2.out).mono ?_; rintro e' w5 ⟨v5, rfl, hown5, hb5⟩; have hlv := fun W => IntsAt.len (show IntsAt w5 v5 x from hown5.row) (ty := 3) W; rw [hxl.out] at hlv)
        have hrow5 := Lib.hid (show IntsAt w5 v5 x from hown5.row)
        have hbk5 := Lib.hid (OwnRow.blk hown5)
        have hF5 : Hid (Fld w5 g n D) := Lib.hid (hFD.out.turns (F := []) (Turns.of_below hb5) (by simp))
        have hT5 := Lib.hid (hT.out.call hb5)
        have hgwa : Hid (g < wa.heap.size) := Lib.hid hFD.out.lt
        clear hown5 HC ha1i
        go_loopw [6, 38] (fun z' t wx => ∃ (i z0 : Nat) (s : List ByteArray) (D' : Nat → OpV), z' = .int .i64 (z0 : Nat) ∧ t = .int .i64 i ∧ i ≤ n ∧ Hid (s.length = i) ∧ Hid (z0 = a1 + (allS s).length) ∧ Hid (allS s <+: b.drop a1) ∧ Hid (lensS s = x.take i) ∧ Hid (Fld wx g n D') ∧ Hid (∀ t, t < i → txt (D' t) c = s.getD t ByteArray.empty) ∧ Hid (∀ t, (∀ j, j < 21 → fld (D' t) j = fld (D t) j) ∧ (∀ c', truV (D' t) c' = truV (D t) c') ∧ ∀ c', c' < 3 → c' ≠ c → txt (D' t) c' = txt (D t) c') ∧ Hid (Turns [g] w5 wx)) (fun _ t _ => n - (intOf t).toNat)
        case atStart => exact ⟨0, a1, [], D, rfl, rfl, Nat.zero_le _, Lib.hid rfl, Lib.hid (by simp [allS]), Lib.hid (List.nil_prefix), Lib.hid (by simp [lensS]), hF5, Lib.hid (fun t ht => absurd ht (Nat.not_lt_zero t)), Lib.hid (fun t => ⟨fun _ _ => rfl, fun _ => rfl, fun _ _ _ => rfl⟩), Lib.hid (Turns.refl _ _)⟩
        case round =>
          obtain ⟨i, z0, s, D', rfl, rfl, hi, hsl, hz0, hpr, hls, hFi, hdone, hrest, hTi⟩ := hrel
          have hz0l : z0 ≤ b.length := by
            have := hpr.out.length_le
            rw [List.length_drop] at this
            rw [hz0.out]; omega
          by_cases hin : i < n
          · have hin4 : (i : Int) < (n : Int) := by omega
            obtain ⟨wx, hwx⟩ : ∃ wx, wx = wr := ⟨_, rfl⟩
            subst hwx
            have hrx : IntsAt wx v5 x := RowAt.turns hrow5.out hTi.out (fun k hk => by have := (hbk5.out k hk).1; have := hgwa.out; simp; omega)
            obtain ⟨ad, e1, e2, e3⟩ := IntsAt.index hrx (k := i) (by rw [hxl.out]; exact hin)
            obtain ⟨m', hm'⟩ : ∃ m', x.getD i 0 = m' := ⟨_, rfl⟩
            have hxi : Hid (x[i]? = some m') := Lib.hid (by
              rw [← hm', List.getD, List.getElem?_eq_getElem (by rw [hxl.out]; exact hin)]; rfl)
            have hroom : Hid (∀ T', TexOf b n T' → 0 ≤ m' ∧ (z0 : Int) + m' ≤ b.length) := Lib.hid (fun T' h' => by
              have h1 := h'.col hlt (huni.out T' h')
              rw [← ha0.out] at h1
              have h2 := TexOf.runs (h'.1 c hlt) h1 (by rw [List.length_drop]; omega)
              have h3 := h2.unique hcol.out
              have h4 := allS_room h3 hls.out hxi.out
              have h5 := h1.length_le
              unfold texCol at h5
              rw [List.length_append, h3, ← ha.out, List.length_drop] at h5
              have h6 := hz0.out
              have h7 := ha1.out
              omega)
            rw [hm'] at e2
            clear hm'
            rcases Int.lt_or_le m' 0 with hneg | hpos
            · have hg1 : decide (m' < 0) = true := decide_eq_true hneg
              replace hneg := Lib.hid hneg
              go_wp2_with (go_at_call 26; refine (not_any 52 _).mono ?_; rintro e w6 ⟨rfl, rfl⟩)
              refine bodyPost_ret (results_tmp2 rfl _ _ _) rfl ⟨hT5.out.trans hTi.out (fun b hb => .inl hb), .inr ⟨fun L' h' => ?_, 52, rfl⟩⟩
              have := (hroom.out L' h').1
              have := hneg.out
              omega
            · obtain ⟨m, rfl⟩ : ∃ m : Nat, m' = (m : Int) := ⟨m'.toNat, by omega⟩
              have hg1 : decide ((m : Int) < 0) = false := decide_eq_false (by omega)
              have hz0i : (z0 : Int) ≤ (b.length : Int) := by omega
              rcases Nat.lt_or_ge (b.length - z0) m with hbig | hfit
              · have hg2 : decide ((b.length : Int) - (z0 : Int) < (m : Int)) = true := decide_eq_true (by omega)
                replace hbig := Lib.hid hbig
                go_wp2_with (go_at_call 26; refine (not_any 52 _).mono ?_; rintro e w6 ⟨rfl, rfl⟩)
                refine bodyPost_ret (results_tmp2 rfl _ _ _) rfl ⟨hT5.out.trans hTi.out (fun b hb => .inl hb), .inr ⟨fun L' h' => ?_, 52, rfl⟩⟩
                have := (hroom.out L' h').2
                have := hbig.out
                omega
              · have hg2 : decide ((b.length : Int) - (z0 : Int) < (m : Int)) = false := decide_eq_false (by omega)
                have hzm : z0 + m ≤ b.length := by omega
                have hix := hixo.out i hin
                have hbx : BytesAt wx bv b := hbv.out.turns ((hT5.out.trans hTi.out (fun b hb => .inl hb)) : Turns [g] w wx) hbg.out
                obtain ⟨bv3, hsp, hb3, hb3o⟩ := hbx.span (a := z0) (b := z0 + m) (by omega) hzm
                have hb3g : ∀ k, bv3.ownBlock = some k → k ∉ [g] := fun k hk => hbg.out k (hb3o k hk)
                obtain ⟨txs, htxs⟩ : ∃ txs, (b.drop z0).take (z0 + m - z0) = txs := ⟨_, rfl⟩
                rw [htxs] at hb3
                have htl : txs.length = m := by rw [← htxs]; simp; omega
                obtain ⟨y, hy⟩ : ∃ y, strB txs = y := ⟨_, rfl⟩
                have hyt : Hid (strN y = txs) := Lib.hid (by rw [← hy]; exact strN_strB hb3.byte)
                have hys : Hid (y.size = m) := Lib.hid (by rw [← strN_len, hyt.out]; exact htl)
                have hcv : ∀ X, BytesAt X bv3 txs → (convert 22 9 bv3).run Tryz.prog X = .ok (.string y) X := fun X h => by rw [← hy]; exact run_bytes h
                have hadd : IntKind.i64.wrap ((z0 : Int) + (m : Int)) = ((z0 + m : Nat) : Int) := by rw [IntKind.wrap_i64]; omega
                obtain ⟨o', ho'⟩ := set_tex (D' i) hlt y
                have ho' := Lib.hid ho'
                have hixp := fun (q : Nat) (W : World) => ix_one (P := Tryz.prog) (t := 102) (e := 104) (g := q) (n := 3) (cap := 3) Tryz.underlying102 (fun W => by kernel_rfl) hlt W
                have hFi' := Lib.hid hFi.out
                replace htl := Lib.hid htl
                replace htxs := Lib.hid htxs
                have hsumz : (z0 : Int) + (m : Int) ≤ 9223372036854775807 := by omega
                have hsp2 : ∀ W, (Instr.slice 22 bv (some (.int .i64 (z0 : Int))) (some (.int .i64 ((z0 : Int) + (m : Int)))) none).run Tryz.prog W = .ok bv3 W := fun W => by
                  have := hsp W
                  rwa [Int.natCast_add] at this
                clear hy hbx hrx hsp
                go_wp2_with fail
                refine wp_region_held_drew (S := fun X => BytesAt X bv3 txs) (by kernel_rfl) hb3 (fun hH => ?_)
                refine wpAnyH_take (i := 0) (oi := ⟨some 54, .move (.tmp 0), _, _, _, none⟩) (v := v) rfl (by decide +kernel) (by decide +kernel) (by decide +kernel) (fun _ _ _ h => h) (.inl ⟨rfl, fun X hX => rfl⟩) hH ?_
                try simp only [Act.put, List.setIfInBounds_toArray, List.set_cons_succ, List.set_cons_zero]
                refine wpAnyH_take (i := 1) (oi := ⟨some 55, .move (.tmp 11), _, _, _, none⟩) (v := (.int .i64 (i : Nat))) rfl (by decide +kernel) (by decide +kernel) (by decide +kernel) (fun _ _ _ h => h) (.inl ⟨rfl, fun X hX => rfl⟩) hH ?_
                try simp only [Act.put, List.setIfInBounds_toArray, List.set_cons_succ, List.set_cons_zero]
                refine wpAnyH_take (i := 2) (oi := ⟨some 56, .indexAddr 24 (.tmp 54) (.tmp 55), _, _, _, none⟩) (v := (.pointer (some ⟨g, i * 26, none⟩))) rfl (by decide +kernel) (by decide +kernel) (by decide +kernel) (fun _ _ _ h => h) (.inl ⟨rfl, fun X hX => by have e := hix; go_simp⟩) hH ?_
                try simp only [Act.put, List.setIfInBounds_toArray, List.set_cons_succ, List.set_cons_zero]
                refine wpAnyH_take (i := 4) (oi := ⟨some 58, .move (.tmp 7), _, _, _, none⟩) (v := (.int .i64 (c : Nat))) rfl (by decide +kernel) (by decide +kernel) (by decide +kernel) (fun _ _ _ h => h) (.inl ⟨rfl, fun X hX => rfl⟩) hH ?_
                try simp only [Act.put, List.setIfInBounds_toArray, List.set_cons_succ, List.set_cons_zero]
                refine wpAnyH_take (i := 7) (oi := ⟨some 61, .move (.tmp 1), _, _, _, none⟩) (v := bv) rfl (by decide +kernel) (by decide +kernel) (by decide +kernel) (fun _ _ _ h => h) (.inl ⟨rfl, fun X hX => rfl⟩) hH ?_
                try simp only [Act.put, List.setIfInBounds_toArray, List.set_cons_succ, List.set_cons_zero]
                refine wpAnyH_take (i := 8) (oi := ⟨some 62, .move (.tmp 6), _, _, _, none⟩) (v := (.int .i64 (z0 : Nat))) rfl (by decide +kernel) (by decide +kernel) (by decide +kernel) (fun _ _ _ h => h) (.inl ⟨rfl, fun X hX => rfl⟩) hH ?_
                try simp only [Act.put, List.setIfInBounds_toArray, List.set_cons_succ, List.set_cons_zero]
                refine wpAnyH_take (i := 9) (oi := ⟨some 63, .move (.tmp 6), _, _, _, none⟩) (v := (.int .i64 (z0 : Nat))) rfl (by decide +kernel) (by decide +kernel) (by decide +kernel) (fun _ _ _ h => h) (.inl ⟨rfl, fun X hX => rfl⟩) hH ?_
                try simp only [Act.put, List.setIfInBounds_toArray, List.set_cons_succ, List.set_cons_zero]
                refine wpAnyH_take (i := 10) (oi := ⟨some 64, .move (.tmp 12), _, _, _, none⟩) (v := (.int .i64 (m : Nat))) rfl (by decide +kernel) (by decide +kernel) (by decide +kernel) (fun _ _ _ h => h) (.inl ⟨rfl, fun X hX => rfl⟩) hH ?_
                try simp only [Act.put, List.setIfInBounds_toArray, List.set_cons_succ, List.set_cons_zero]
                refine wpAnyH_take (i := 11) (oi := ⟨some 65, .binOp .add 3 (.tmp 63) (.tmp 64) 3, _, _, _, none⟩) (v := (.int .i64 ((z0 + m : Nat) : Int))) rfl (by decide +kernel) (by decide +kernel) (by decide +kernel) (fun _ _ _ h => h) (.inl ⟨rfl, fun X hX => by have e := hadd; go_simp⟩) hH ?_
                try simp only [Act.put, List.setIfInBounds_toArray, List.set_cons_succ, List.set_cons_zero]
                refine wpAnyH_take (i := 12) (oi := ⟨some 66, .slice 22 (.tmp 61) (some (.tmp 62)) (some (.tmp 65)) none, _, _, _, none⟩) (v := bv3) rfl (by decide +kernel) (by decide +kernel) (by decide +kernel) (fun _ _ _ h => h) (.inl ⟨rfl, fun X hX => by have e := hsp2; go_simp⟩) hH ?_
                try simp only [Act.put, List.setIfInBounds_toArray, List.set_cons_succ, List.set_cons_zero]
                refine wpAnyH_take (i := 13) (oi := ⟨some 67, .convert 22 9 (.tmp 66), _, _, _, none⟩) (v := (.string y)) rfl (by decide +kernel) (by decide +kernel) (by decide +kernel) (fun _ _ _ h => h) (.inl ⟨rfl, fun X hX => by have e := hcv X hX; go_simp⟩) hH ?_
                try simp only [Act.put, List.setIfInBounds_toArray, List.set_cons_succ, List.set_cons_zero]
                refine wpAnyH_ready (rs := [3]) (by decide +kernel) (by simp) (AllReadyH.cons (o := ⟨some 57, .call { callee := .value (.func 50), args := #[.tmp 56], argTypes := #[92] }, _, _, _, none⟩) rfl (fun K hK => ?_) AllReadyH.nil)
                go_simp
                go_at_call 50
                refine (texts_any g (i * 26) _).mono ?_
                rintro e w3 ⟨q, rfl, hq, hql, hbe3⟩
                have p1 : w3.cell? ⟨q, c, none⟩ = some (.pointer (some ⟨g, i * 26 + (17 + c), none⟩)) := cell_held hq (tex_ptr hlt)
                have hFd : Fld wx.drew g n D' := Fld.turns (F := []) hFi'.out (Turns.of_below (below_drewN (Below.refl _ wx) 1)) (by simp)
                have hF3 := Lib.hid (Fld.turns (F := []) hFd (Turns.of_below hbe3) (by simp))
                obtain ⟨p2, p3⟩ := hF3.out.cell hin (by omega : 17 + c < 26) (texC_cell (D' i) hlt)
                have hixq := hixp q
                have hb33 : BytesAt w3 bv3 txs := BytesAt.turns (F := []) (show BytesAt wx.drew bv3 txs from hb3) (Turns.of_below hbe3) (by simp)
                clear hq
                refine hK.out _ _ hb33 (fun hH5 => ?_)
                clear hK K
                try simp only [Act.put, List.setIfInBounds_toArray, List.set_cons_succ, List.set_cons_zero]
                refine wpAnyH_take (i := 5) (oi := ⟨some 59, .indexAddr 102 (.tmp 57) (.tmp 58), _, _, _, none⟩) (v := (.pointer (some ⟨q, c, none⟩))) rfl (by decide +kernel) (by decide +kernel) (by decide +kernel) (fun _ _ _ h => h) (.inl ⟨rfl, fun X hX => by have e := hixq; go_simp⟩) hH5 ?_
                try simp only [Act.put, List.setIfInBounds_toArray, List.set_cons_succ, List.set_cons_zero]
                refine wpAnyH_ready (rs := [6]) (by decide +kernel) (by simp) (AllReadyH.cons (o := ⟨some 60, .load 104 (.tmp 59), _, _, _, none⟩) rfl (fun K hK => ?_) AllReadyH.nil)
                go_simp
                refine hK.out _ _ hb33 (fun hH6 => ?_)
                clear hK K
                try simp only [Act.put, List.setIfInBounds_toArray, List.set_cons_succ, List.set_cons_zero]
                refine wpAnyH_take (i := 14) (oi := ⟨some 68, .nilCheck (.tmp 60), _, _, _, none⟩) (v := (.pointer (some ⟨g, i * 26 + (17 + c), none⟩))) rfl (by decide +kernel) (by decide +kernel) (by decide +kernel) (fun _ _ _ h => h) (.inl ⟨rfl, fun X hX => by go_simp⟩) hH6 ?_
                try simp only [Act.put, List.setIfInBounds_toArray, List.set_cons_succ, List.set_cons_zero]
                refine wpAnyH_ready (rs := [15]) (by decide +kernel) (by simp) (AllReadyH.cons (o := ⟨none, .store 9 (.tmp 68) (.tmp 67), _, _, _, none⟩) rfl (fun K hK => ?_) AllReadyH.nil)
                go_simp
                have hst : Turns [g] w3 (w3.setCell ⟨g, i * 26 + (17 + c), none⟩ (.string y)) := Turns.set w3 _ (by simp)
                have hF4 := hF3.out.set hin (by omega : 17 + c < 26) ho'.out
                have hb34 := hb33.turns hst hb3g
                obtain ⟨w4, hw4⟩ : ∃ w4, w3.setCell ⟨g, i * 26 + (17 + c), none⟩ (.string y) = w4 := ⟨_, rfl⟩
                rw [hw4] at hst hF4 hb34 ⊢
                clear hw4
                refine hK.out _ _ hb34 (fun hH7 => ?_)
                clear hK K
                try simp only [Act.put, List.setIfInBounds_toArray, List.set_cons_succ, List.set_cons_zero]
                refine wpAnyH_done (by decide +kernel) ?_ _
                go_wp2_with fail
                have hdr : Hid (b.drop z0 = (b.drop a1).drop (allS s).length) := Lib.hid (by rw [List.drop_drop, hz0.out])
                refine ⟨⟨i + 1, z0 + m, s ++ [y], fun t => if t = i then o' else D' t, by go_num, by go_num, hin, Lib.hid (by rw [List.length_append, hsl.out]; rfl), Lib.hid ?_, Lib.hid ?_, Lib.hid ?_, Lib.hid hF4, Lib.hid fun t ht => ?_, Lib.hid fun t => ?_, Lib.hid ?_⟩, by simp [intOf]; omega⟩
                · rw [allS_append, List.length_append, hz0.out, ← Nat.add_assoc]
                  simp [allS, strN_len, hys.out]
                · rw [allS_append]
                  refine pre_join hpr.out ?_
                  rw [← hdr.out]
                  simp only [allS, List.append_nil]
                  rw [hyt.out, ← htxs.out]
                  exact List.take_prefix _ _
                · rw [List.take_add_one, hxi.out, ← hls.out]
                  simp [lensS, hys.out]
                · show txt (if t = i then o' else D' t) c = _
                  have hsl' := hsl.out
                  by_cases e : t = i
                  · subst e
                    rw [if_pos rfl, List.getD, List.getElem?_append_right (by omega), hsl']
                    simp only [Nat.sub_self, List.getElem?_cons_zero, Option.getD_some]
                    exact tex_is hlt (cells_new ho'.out (by omega))
                  · rw [if_neg e, hdone.out t (by omega), List.getD, List.getD, List.getElem?_append_left (by omega)]
                · show (∀ j, j < 21 → fld (if t = i then o' else D' t) j = _) ∧ (∀ c', truV (if t = i then o' else D' t) c' = _) ∧ ∀ c', c' < 3 → c' ≠ c → txt (if t = i then o' else D' t) c' = _
                  by_cases e : t = i
                  · subst e
                    rw [if_pos rfl]
                    exact ⟨fun j hj => (fld_of hj (cells_same ho'.out (texO_num hlt hj))).trans ((hrest.out t).1 j hj), fun c' => (tru_of c' (cells_same ho'.out (texO_tru hlt))).trans ((hrest.out t).2.1 c'), fun c' hc' hne => (tex_of hc' (cells_same ho'.out (by omega))).trans ((hrest.out t).2.2 c' hc' hne)⟩
                  · rw [if_neg e]
                    exact hrest.out t
                · exact ((hTi.out.drew).call hbe3).trans hst (fun b hb => .inl hb)
          · have hin4 : ¬ (i : Int) < (n : Int) := by omega
            have hin' : i = n := by omega
            rw [hin'] at hdone hsl hls
            clear hin'
            have hls2 : Hid (lensS s = x) := Lib.hid (by rw [hls.out]; exact List.take_of_length_le (by rw [hxl.out]; exact Nat.le_refl _))
            have hcol2 : Hid (texCol s <+: b.drop a0) := Lib.hid (by
              unfold texCol
              rw [hls2.out]
              refine pre_join hcol.out.2.2 ?_
              rw [← ha.out, List.drop_drop, ha1.out]
              exact hpr.out)
            have hcl2 : Hid ((texCol s).length = a + (allS s).length) := Lib.hid (by unfold texCol; rw [List.length_append, hls2.out, ← ha.out])
            have hcong : Hid (texPre (fun k => if k = c then s else T k) (c + 1) = texPre T c ++ texCol s) := Lib.hid (by
              rw [texPre, texPre_congr (L' := T) (fun j hj => by rw [if_neg (by omega)]), if_pos rfl])
            go_wp2
            refine ⟨⟨c + 1, z0, fun k => if k = c then s else T k, D', by go_num, by go_num, hlt, Lib.hid ?_, Lib.hid ?_, Lib.hid ?_, hFi, Lib.hid fun c' hc' => ?_, Lib.hid fun t => ⟨fun j hj => ((hrest.out t).1 j hj).trans ((hsame.out t).1 j hj), fun c' => ((hrest.out t).2.1 c').trans ((hsame.out t).2 c')⟩, Lib.hid (hT5.out.trans hTi.out (fun b hb => .inl hb))⟩, by simp [intOf]; omega⟩
            · rw [hcong.out, List.length_append, ← ha0.out, hcl2.out, hz0.out, ← ha1.out]; omega
            · rw [hcong.out]
              refine pre_join hpre.out ?_
              rw [← ha0.out]
              exact hcol2.out
            · intro L' h' j hj
              show L' j = if j = c then s else T j
              by_cases e : j = c
              · subst e
                rw [if_pos rfl]
                have h1 := h'.col hlt (huni.out L' h')
                rw [← ha0.out] at h1
                have h3 := (TexOf.runs (h'.1 j hlt) h1 (by rw [List.length_drop]; omega)).unique hcol.out
                refine texts_same (d := b.drop a1) (by rw [h3, hls2.out]) ?_ hpr.out
                unfold texCol at h1
                have h4 := pre_drop h1
                rwa [h3, ← ha.out, List.drop_drop, ha1.out] at h4
              · rw [if_neg e]
                exact huni.out L' h' j (by omega)
            · show (if c' = c then s else T c').length = n ∧ ∀ t, t < n → (if c' = c then s else T c')[t]? = some (txt (D' t) c')
              by_cases e : c' = c
              · subst e
                rw [if_pos rfl]
                refine ⟨hsl.out, fun t ht => ?_⟩
                have hsl := hsl.out
                rw [hdone.out t ht, List.getD, List.getElem?_eq_getElem (by omega)]; rfl
              · rw [if_neg e]
                refine ⟨(htex.out c' (by omega)).1, fun t ht => ?_⟩
                rw [(hrest.out t).2.2 c' (by omega) e]
                exact (htex.out c' (by omega)).2 t ht
      · have hg5 : ((e5 : Int) != 0) = true := by rw [he]; rfl
        clear he
        have hno := Lib.hid hno
        go_wp2_with (first
          | (go_at_call 55; refine (HC.out _ hbv2.out).mono ?_; rintro e' w5 ⟨v5, rfl, hown5, hb5⟩)
          | (go_at_call 26; refine (not_any e5 _).mono ?_; rintro e w6 ⟨rfl, rfl⟩))
        refine bodyPost_ret (results_tmp2 rfl _ _ _) rfl ⟨hT.out.call hb5, .inr ⟨fun L' h' => ?_, e5, rfl⟩⟩
        have h1 := h'.col hlt (huni.out L' h')
        rw [← ha0.out] at h1
        exact hno.out _ (TexOf.runs (h'.1 c hlt) h1 (by rw [List.length_drop]; omega))
    · have hc4 : ¬ (c : Int) < 3 := by omega
      have hc2 : c = 3 := by omega
      rw [hc2] at ha0 hpre huni htex
      clear hc2 hlt hc
      go_wp2
      refine bodyPost_ret (results_tmp2 rfl _ _ _) rfl ⟨hT.out, .inl ⟨T, D, ⟨fun k hk => (htex.out k hk).1, hpre.out⟩, by rw [← ha0.out]; rfl, hFD.out, fun k hk => (htex.out k hk).2, hsame.out⟩⟩
end Go.Proofs.YthpgfnhecfgiaaaGreatDoor
