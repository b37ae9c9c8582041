/-
  The document's taker of a column of texts.
-/
import Derived.Test.YthpgfnhecfgiaaaGreatDoorBaTkx
import Derived.Test.YthpgfnhecfgiaaaGreatDoorMCoTake
namespace Go.Proofs.YthpgfnhecfgiaaaGreatDoor
open Go.RowKit Go.Sort
set_option maxRecDepth 20000

/-- What the document's taker of texts leaves. -/
def RTexPost (b : List Nat) (n g c : Nat) (D0 : Nat → OpV) (w : World) : Ending → World → Prop := fun e w' => Turns [g] w w' ∧
  ((∃ s D, s.length = n ∧ texCol s <+: b ∧ e = .returned (.int .i64 ((texCol s).length : Nat)) ∧ Fld w' g n D ∧ (∀ t, t < n → s[t]? = some (txt (D t) c)) ∧ ∀ t, (∀ j, j < 21 → fld (D t) j = fld (D0 t) j) ∧ (∀ c', truV (D t) c' = truV (D0 t) c') ∧ ∀ c', c' < 3 → c' ≠ c → txt (D t) c' = txt (D0 t) c') ∨
   ((∀ s, s.length = n → ¬ texCol s <+: b) ∧ e = .returned (.int .i64 (-1))))

theorem texCol_room {b : List Nat} {n a : Nat} {x : List Int} {s s' : List ByteArray} {i : Nat} {m : Int} (hx : RunsOf b n x) (ha : a = (bytesR x).length) (hb : (b.length : Int) ≤ 9223372036854775807) (hs' : s'.length = n) (hp : texCol s' <+: b) (hs : lensS s = x.take i) (hm : x[i]? = some m) :
    0 ≤ m ∧ ((a + (allS s).length : Nat) : Int) + m ≤ b.length := by
  have h3 := (TexOf.runs hs' hp hb).unique hx
  have h4 := allS_room h3 hs hm
  have h5 := hp.length_le
  unfold texCol at h5
  rw [List.length_append, h3, ← ha] at h5
  omega

set_option maxHeartbeats 4000000 in
theorem refTexts0_any {g n cap0 : Nat} {bv : Value} {b : List Nat} {D0 : Nat → OpV} (w : World) (hF : Fld w g n D0) (hbv : BytesAt w bv b) (hbg : ∀ k, bv.ownBlock = some k → k ∉ [g]) (hn : n ≤ 200) (hnc : n ≤ cap0) (hcm : cap0 ≤ maxLen) :
    Calls Tryz.prog 18 #[.slice (some ⟨g, 0, none⟩) n cap0, bv, .int .i64 0] w (RTexPost b n g 0 D0 w) := by
  have hgl := hF.lt
  have hlt : 0 < 3 := by omega
  have hll : ∀ W, (Builtin.len_ #[24] 3 #[.slice (some ⟨g, 0, none⟩) n cap0]).run Tryz.prog W = .ok (.int .i64 (n : Nat)) W := fun W => by
    have := (hF.ops hnc hcm).len 3 W
    simpa using this
  have hixo : ∀ (j : Nat), j < n → ∀ X, (Instr.indexAt 24 (.slice (some ⟨g, 0, none⟩) n cap0) (.int .i64 (j : Int))).run Tryz.prog X = .ok (.pointer (some ⟨g, j * 26, none⟩)) X := fun j hj X => by
    have he : Tryz.prog.elem 24 = 42 := by kernel_rfl
    rw [run_indexAt_slice (P := Tryz.prog) X _ _ n cap0 .i64 (j : Int) (by kernel_rfl), if_pos (by omega), he, elemO.hs]
    simp [Result.andThen, addr_at]
  obtain ⟨v, hv⟩ : ∃ v, Value.slice (some ⟨g, 0, none⟩) n cap0 = v := ⟨_, rfl⟩
  rw [hv] at hll hixo ⊢
  clear hv
  have hixo := Lib.hid hixo
  have hbl : (b.length : Int) ≤ 9223372036854775807 := by have := hbv.row.le; rwa [bvals_length] at this
  have hlb := fun W => hbv.len (ty := 3) W
  obtain ⟨x, a, e5, hK⟩ := takenR_any b n
  have hal : a ≤ b.length := by
    rcases hK with ⟨h1, h2, _⟩ | ⟨_, _, h2, _⟩
    · rw [h2]; exact h1.2.2.length_le
    · omega
  have HC : ∀ W, BytesAt W bv b → Calls Tryz.prog 13 #[bv, .int .i64 n] W (GivesI x a e5 W) := fun W h => refTakeRuns_given h (.inr ⟨⟨by omega, by omega⟩, by simpa using hK⟩)
  have hbv := Lib.hid hbv
  have hF := Lib.hid hF
  have hbg := Lib.hid hbg
  rcases hK with ⟨hcol, ha, he⟩ | ⟨hno, _, _, he⟩
  · have hg5 : ((e5 : Int) != 0) = false := by rw [he]; rfl
    have hxl : Hid (x.length = n) := Lib.hid hcol.1
    clear he
    replace hcol := Lib.hid hcol
    replace ha := Lib.hid ha
    go_enter Tryz.func18, Tryz.ntmps18
    go_wp2_with fail
    refine (HC _ hbv.out).mono ?_
    rintro e w5 ⟨v5, rfl, hown5, hb5⟩
    have hrow5 := Lib.hid (show IntsAt w5 v5 x from hown5.row)
    have hbk5 := Lib.hid (OwnRow.blk hown5)
    have hF5 : Hid (Fld w5 g n D0) := Lib.hid (hF.out.turns (F := []) (Turns.of_below hb5) (by simp))
    have hT5 := Lib.hid (Turns.of_below (F := [g]) hb5)
    clear hown5 HC hb5
    go_wp2
    go_loopw [8, 10] (fun z' t wx => ∃ (i z0 : Nat) (s : List ByteArray) (D' : Nat → OpV), z' = .int .i64 (z0 : Nat) ∧ t = .int .i64 i ∧ i ≤ n ∧ Hid (s.length = i) ∧ Hid (z0 = a + (allS s).length) ∧ Hid (allS s <+: b.drop a) ∧ Hid (lensS s = x.take i) ∧ Hid (Fld wx g n D') ∧ Hid (∀ t, t < i → txt (D' t) 0 = s.getD t ByteArray.empty) ∧ Hid (∀ t, (∀ j, j < 21 → fld (D' t) j = fld (D0 t) j) ∧ (∀ c', truV (D' t) c' = truV (D0 t) c') ∧ ∀ c', c' < 3 → c' ≠ 0 → txt (D' t) c' = txt (D0 t) c') ∧ Hid (Turns [g] w5 wx)) (fun _ t _ => n - (intOf t).toNat)
    case atStart => exact ⟨0, a, [], D0, rfl, rfl, Nat.zero_le _, Lib.hid rfl, Lib.hid (by simp [allS]), Lib.hid (List.nil_prefix), Lib.hid (by simp [lensS]), hF5, Lib.hid (fun t ht => absurd ht (Nat.not_lt_zero t)), Lib.hid (fun t => ⟨fun _ _ => rfl, fun _ => rfl, fun _ _ _ => rfl⟩), Lib.hid (Turns.refl _ _)⟩
    case round =>
      obtain ⟨i, z0, s, D', rfl, rfl, hi, hsl, hz0, hpr, hls, hFi, hdone, hrest, hTi⟩ := hrel
      have hz0l : z0 ≤ b.length := by
        have := hpr.out.length_le
        rw [List.length_drop] at this
        rw [hz0.out]; omega
      by_cases hin : i < n
      · have hin4 : (i : Int) < (n : Int) := by omega
        obtain ⟨wx, hwx⟩ : ∃ wx, wx = wr := ⟨_, rfl⟩
        subst hwx
        have hrx : IntsAt wx v5 x := RowAt.turns hrow5.out hTi.out (fun k hk => by have := (hbk5.out k hk).1; simp; omega)
        obtain ⟨ad, e1, e2, e3⟩ := IntsAt.index hrx (k := i) (by rw [hxl.out]; exact hin)
        obtain ⟨m', hm'⟩ : ∃ m', x.getD i 0 = m' := ⟨_, rfl⟩
        have hxi : Hid (x[i]? = some m') := Lib.hid (by
          rw [← hm', List.getD, List.getElem?_eq_getElem (by rw [hxl.out]; exact hin)]; rfl)
        have hroom : Hid (∀ s', s'.length = n → texCol s' <+: b → 0 ≤ m' ∧ (z0 : Int) + m' ≤ b.length) := Lib.hid (fun s' h1 h2 => by
          rw [hz0.out]
          exact texCol_room hcol.out ha.out hbl h1 h2 hls.out hxi.out)
        rw [hm'] at e2
        clear hm'
        rcases Int.lt_or_le m' 0 with hneg | hpos
        · have hg1 : decide (m' < 0) = true := decide_eq_true hneg
          replace hneg := Lib.hid hneg
          go_wp2
          go_ret
          refine ⟨hT5.out.trans hTi.out (fun b hb => .inl hb), .inr ⟨fun s' h1 h2 => ?_, rfl⟩⟩
          have := (hroom.out s' h1 h2).1
          have := hneg.out
          omega
        · obtain ⟨m, rfl⟩ : ∃ m : Nat, m' = (m : Int) := ⟨m'.toNat, by omega⟩
          have hg1 : decide ((m : Int) < 0) = false := decide_eq_false (by omega)
          have hz0i : (z0 : Int) ≤ (b.length : Int) := by omega
          rcases Nat.lt_or_ge (b.length - z0) m with hbig | hfit
          · have hg2 : decide ((b.length : Int) - (z0 : Int) < (m : Int)) = true := decide_eq_true (by omega)
            replace hbig := Lib.hid hbig
            go_wp2
            go_ret
            refine ⟨hT5.out.trans hTi.out (fun b hb => .inl hb), .inr ⟨fun s' h1 h2 => ?_, rfl⟩⟩
            have := (hroom.out s' h1 h2).2
            have := hbig.out
            omega
          · have hg2 : decide ((b.length : Int) - (z0 : Int) < (m : Int)) = false := decide_eq_false (by omega)
            have hzm : z0 + m ≤ b.length := by omega
            have hix := hixo.out i hin
            have hbx : BytesAt wx bv b := hbv.out.turns ((hT5.out.trans hTi.out (fun b hb => .inl hb)) : Turns [g] w wx) hbg.out
            obtain ⟨bv3, hsp, hb3, hb3o⟩ := hbx.span (a := z0) (b := z0 + m) (by omega) hzm
            obtain ⟨txs, htxs⟩ : ∃ txs, (b.drop z0).take (z0 + m - z0) = txs := ⟨_, rfl⟩
            rw [htxs] at hb3
            have htl : txs.length = m := by rw [← htxs]; simp; omega
            obtain ⟨y, hy⟩ : ∃ y, strB txs = y := ⟨_, rfl⟩
            have hyt : Hid (strN y = txs) := Lib.hid (by rw [← hy]; exact strN_strB hb3.byte)
            have hys : Hid (y.size = m) := Lib.hid (by rw [← strN_len, hyt.out]; exact htl)
            have hcv : (convert 22 9 bv3).run Tryz.prog wx = .ok (.string y) wx := by rw [← hy]; exact run_bytes hb3
            obtain ⟨o', ho'⟩ := set_tex (D' i) hlt y
            obtain ⟨t1, t2⟩ := hFi.out.cell hin (by omega : 17 + 0 < 26) (texC_cell (D' i) hlt)
            have hF' := hFi.out.set hin (by omega : 17 + 0 < 26) ho'
            have hT' : Turns [g] wx (wx.setCell ⟨g, i * 26 + (17 + 0), none⟩ (.string y)) := Turns.set wx _ (by simp)
            have hrx' : IntsAt _ v5 x := RowAt.turns hrx hT' (fun k hk => by have := (hbk5.out k hk).1; simp; omega)
            obtain ⟨ad2, f1, f2, f3⟩ := IntsAt.index hrx' (k := i) (by rw [hxl.out]; exact hin)
            have f2' : x.getD i 0 = (m : Int) := by have := hxi.out; rw [List.getD, this]; rfl
            rw [f2'] at f2
            obtain rfl : ad = ad2 := by have := (e1 wx).symm.trans (f1 wx); injection this with h1 _; injection h1 with h1; injection h1
            clear f1
            rw [show i * 26 + (17 + 0) = i * 26 + 17 from rfl] at t1 t2 hF' hT' f2
            have ho' := Lib.hid ho'
            replace hF' := Lib.hid hF'
            replace hT' := Lib.hid hT'
            replace htl := Lib.hid htl
            replace htxs := Lib.hid htxs
            have hsumz : (z0 : Int) + (m : Int) ≤ 9223372036854775807 := by omega
            have hsp2 : ∀ W, (Instr.slice 22 bv (some (.int .i64 (z0 : Int))) (some (.int .i64 ((z0 : Int) + (m : Int)))) none).run Tryz.prog W = .ok bv3 W := fun W => by
              have := hsp W
              rwa [Int.natCast_add] at this
            clear hy hbx hrx hrx' hsp f2' f3 hb3o
            replace hb3 := Lib.hid hb3
            go_wp2
            have hdr : Hid (b.drop z0 = (b.drop a).drop (allS s).length) := Lib.hid (by rw [List.drop_drop, hz0.out])
            refine ⟨⟨i + 1, z0 + m, s ++ [y], fun t => if t = i then o' else D' t, by go_num, by go_num, hin, Lib.hid (by rw [List.length_append, hsl.out]; rfl), Lib.hid ?_, Lib.hid ?_, Lib.hid ?_, hF', Lib.hid fun t ht => ?_, Lib.hid fun t => ?_, Lib.hid (hTi.out.trans hT'.out (fun b hb => .inl hb))⟩, by simp [intOf]; omega⟩
            · rw [allS_append, List.length_append, hz0.out, ← Nat.add_assoc]
              simp [allS, strN_len, hys.out]
            · rw [allS_append]
              refine pre_join hpr.out ?_
              rw [← hdr.out]
              simp only [allS, List.append_nil]
              rw [hyt.out, ← htxs.out]
              exact List.take_prefix _ _
            · rw [List.take_add_one, hxi.out, ← hls.out]
              simp [lensS, hys.out]
            · show txt (if t = i then o' else D' t) 0 = _
              have hsl' := hsl.out
              by_cases e : t = i
              · subst e
                rw [if_pos rfl, List.getD, List.getElem?_append_right (by omega), hsl']
                simp only [Nat.sub_self, List.getElem?_cons_zero, Option.getD_some]
                exact tex_is hlt (cells_new ho'.out (by omega))
              · rw [if_neg e, hdone.out t (by omega), List.getD, List.getD, List.getElem?_append_left (by omega)]
            · show (∀ j, j < 21 → fld (if t = i then o' else D' t) j = _) ∧ (∀ c', truV (if t = i then o' else D' t) c' = _) ∧ ∀ c', c' < 3 → c' ≠ 0 → txt (if t = i then o' else D' t) c' = _
              by_cases e : t = i
              · subst e
                rw [if_pos rfl]
                exact ⟨fun j hj => (fld_of hj (cells_same ho'.out (texO_num hlt hj))).trans ((hrest.out t).1 j hj), fun c' => (tru_of c' (cells_same ho'.out (texO_tru hlt))).trans ((hrest.out t).2.1 c'), fun c' hc' hne => (tex_of hc' (cells_same ho'.out (by omega))).trans ((hrest.out t).2.2 c' hc' hne)⟩
              · rw [if_neg e]
                exact hrest.out t
      · have hin4 : ¬ (i : Int) < (n : Int) := by omega
        have hin' : i = n := by omega
        rw [hin'] at hdone hsl hls
        clear hin'
        have hls2 : Hid (lensS s = x) := Lib.hid (by rw [hls.out]; exact List.take_of_length_le (by rw [hxl.out]; exact Nat.le_refl _))
        have hcol2 : Hid (texCol s <+: b) := Lib.hid (by
          unfold texCol
          rw [hls2.out]
          refine pre_join hcol.out.2.2 ?_
          rw [← ha.out]
          exact hpr.out)
        have hcl2 : Hid ((texCol s).length = z0) := Lib.hid (by unfold texCol; rw [List.length_append, hls2.out, ← ha.out, hz0.out])
        go_wp2
        go_ret
        refine ⟨hT5.out.trans hTi.out (fun b hb => .inl hb), .inl ⟨s, D', hsl.out, hcol2.out, by rw [hcl2.out]; rfl, hFi.out, fun t ht => ?_, hrest.out⟩⟩
        have hsl := hsl.out
        rw [hdone.out t ht, List.getD, List.getElem?_eq_getElem (by omega)]; rfl
  · have hg5 : ((e5 : Int) != 0) = true := by rw [he]; rfl
    clear he
    have hno := Lib.hid hno
    go_enter Tryz.func18, Tryz.ntmps18
    go_wp2_with fail
    refine (HC _ hbv.out).mono ?_
    rintro e w5 ⟨v5, rfl, hown5, hb5⟩
    clear hown5 HC
    go_wp2
    go_ret
    exact ⟨Turns.of_below hb5, .inr ⟨fun s' h1 h2 => hno.out _ (TexOf.runs h1 h2 hbl), rfl⟩⟩

set_option maxHeartbeats 4000000 in
theorem refTexts1_any {g n cap0 : Nat} {bv : Value} {b : List Nat} {D0 : Nat → OpV} (w : World) (hF : Fld w g n D0) (hbv : BytesAt w bv b) (hbg : ∀ k, bv.ownBlock = some k → k ∉ [g]) (hn : n ≤ 200) (hnc : n ≤ cap0) (hcm : cap0 ≤ maxLen) :
    Calls Tryz.prog 18 #[.slice (some ⟨g, 0, none⟩) n cap0, bv, .int .i64 1] w (RTexPost b n g 1 D0 w) := by
  have hgl := hF.lt
  have hlt : 1 < 3 := by omega
  have hll : ∀ W, (Builtin.len_ #[24] 3 #[.slice (some ⟨g, 0, none⟩) n cap0]).run Tryz.prog W = .ok (.int .i64 (n : Nat)) W := fun W => by
    have := (hF.ops hnc hcm).len 3 W
    simpa using this
  have hixo : ∀ (j : Nat), j < n → ∀ X, (Instr.indexAt 24 (.slice (some ⟨g, 0, none⟩) n cap0) (.int .i64 (j : Int))).run Tryz.prog X = .ok (.pointer (some ⟨g, j * 26, none⟩)) X := fun j hj X => by
    have he : Tryz.prog.elem 24 = 42 := by kernel_rfl
    rw [run_indexAt_slice (P := Tryz.prog) X _ _ n cap0 .i64 (j : Int) (by kernel_rfl), if_pos (by omega), he, elemO.hs]
    simp [Result.andThen, addr_at]
  obtain ⟨v, hv⟩ : ∃ v, Value.slice (some ⟨g, 0, none⟩) n cap0 = v := ⟨_, rfl⟩
  rw [hv] at hll hixo ⊢
  clear hv
  have hixo := Lib.hid hixo
  have hbl : (b.length : Int) ≤ 9223372036854775807 := by have := hbv.row.le; rwa [bvals_length] at this
  have hlb := fun W => hbv.len (ty := 3) W
  obtain ⟨x, a, e5, hK⟩ := takenR_any b n
  have hal : a ≤ b.length := by
    rcases hK with ⟨h1, h2, _⟩ | ⟨_, _, h2, _⟩
    · rw [h2]; exact h1.2.2.length_le
    · omega
  have HC : ∀ W, BytesAt W bv b → Calls Tryz.prog 13 #[bv, .int .i64 n] W (GivesI x a e5 W) := fun W h => refTakeRuns_given h (.inr ⟨⟨by omega, by omega⟩, by simpa using hK⟩)
  have hbv := Lib.hid hbv
  have hF := Lib.hid hF
  have hbg := Lib.hid hbg
  rcases hK with ⟨hcol, ha, he⟩ | ⟨hno, _, _, he⟩
  · have hg5 : ((e5 : Int) != 0) = false := by rw [he]; rfl
    have hxl : Hid (x.length = n) := Lib.hid hcol.1
    clear he
    replace hcol := Lib.hid hcol
    replace ha := Lib.hid ha
    go_enter Tryz.func18, Tryz.ntmps18
    go_wp2_with fail
    refine (HC _ hbv.out).mono ?_
    rintro e w5 ⟨v5, rfl, hown5, hb5⟩
    have hrow5 := Lib.hid (show IntsAt w5 v5 x from hown5.row)
    have hbk5 := Lib.hid (OwnRow.blk hown5)
    have hF5 : Hid (Fld w5 g n D0) := Lib.hid (hF.out.turns (F := []) (Turns.of_below hb5) (by simp))
    have hT5 := Lib.hid (Turns.of_below (F := [g]) hb5)
    clear hown5 HC hb5
    go_wp2
    go_loopw [8, 10] (fun z' t wx => ∃ (i z0 : Nat) (s : List ByteArray) (D' : Nat → OpV), z' = .int .i64 (z0 : Nat) ∧ t = .int .i64 i ∧ i ≤ n ∧ Hid (s.length = i) ∧ Hid (z0 = a + (allS s).length) ∧ Hid (allS s <+: b.drop a) ∧ Hid (lensS s = x.take i) ∧ Hid (Fld wx g n D') ∧ Hid (∀ t, t < i → txt (D' t) 1 = s.getD t ByteArray.empty) ∧ Hid (∀ t, (∀ j, j < 21 → fld (D' t) j = fld (D0 t) j) ∧ (∀ c', truV (D' t) c' = truV (D0 t) c') ∧ ∀ c', c' < 3 → c' ≠ 1 → txt (D' t) c' = txt (D0 t) c') ∧ Hid (Turns [g] w5 wx)) (fun _ t _ => n - (intOf t).toNat)
    case atStart => exact ⟨0, a, [], D0, rfl, rfl, Nat.zero_le _, Lib.hid rfl, Lib.hid (by simp [allS]), Lib.hid (List.nil_prefix), Lib.hid (by simp [lensS]), hF5, Lib.hid (fun t ht => absurd ht (Nat.not_lt_zero t)), Lib.hid (fun t => ⟨fun _ _ => rfl, fun _ => rfl, fun _ _ _ => rfl⟩), Lib.hid (Turns.refl _ _)⟩
    case round =>
      obtain ⟨i, z0, s, D', rfl, rfl, hi, hsl, hz0, hpr, hls, hFi, hdone, hrest, hTi⟩ := hrel
      have hz0l : z0 ≤ b.length := by
        have := hpr.out.length_le
        rw [List.length_drop] at this
        rw [hz0.out]; omega
      by_cases hin : i < n
      · have hin4 : (i : Int) < (n : Int) := by omega
        obtain ⟨wx, hwx⟩ : ∃ wx, wx = wr := ⟨_, rfl⟩
        subst hwx
        have hrx : IntsAt wx v5 x := RowAt.turns hrow5.out hTi.out (fun k hk => by have := (hbk5.out k hk).1; simp; omega)
        obtain ⟨ad, e1, e2, e3⟩ := IntsAt.index hrx (k := i) (by rw [hxl.out]; exact hin)
        obtain ⟨m', hm'⟩ : ∃ m', x.getD i 0 = m' := ⟨_, rfl⟩
        have hxi : Hid (x[i]? = some m') := Lib.hid (by
          rw [← hm', List.getD, List.getElem?_eq_getElem (by rw [hxl.out]; exact hin)]; rfl)
        have hroom : Hid (∀ s', s'.length = n → texCol s' <+: b → 0 ≤ m' ∧ (z0 : Int) + m' ≤ b.length) := Lib.hid (fun s' h1 h2 => by
          rw [hz0.out]
          exact texCol_room hcol.out ha.out hbl h1 h2 hls.out hxi.out)
        rw [hm'] at e2
        clear hm'
        rcases Int.lt_or_le m' 0 with hneg | hpos
        · have hg1 : decide (m' < 0) = true := decide_eq_true hneg
          replace hneg := Lib.hid hneg
          go_wp2
          go_ret
          refine ⟨hT5.out.trans hTi.out (fun b hb => .inl hb), .inr ⟨fun s' h1 h2 => ?_, rfl⟩⟩
          have := (hroom.out s' h1 h2).1
          have := hneg.out
          omega
        · obtain ⟨m, rfl⟩ : ∃ m : Nat, m' = (m : Int) := ⟨m'.toNat, by omega⟩
          have hg1 : decide ((m : Int) < 0) = false := decide_eq_false (by omega)
          have hz0i : (z0 : Int) ≤ (b.length : Int) := by omega
          rcases Nat.lt_or_ge (b.length - z0) m with hbig | hfit
          · have hg2 : decide ((b.length : Int) - (z0 : Int) < (m : Int)) = true := decide_eq_true (by omega)
            replace hbig := Lib.hid hbig
            go_wp2
            go_ret
            refine ⟨hT5.out.trans hTi.out (fun b hb => .inl hb), .inr ⟨fun s' h1 h2 => ?_, rfl⟩⟩
            have := (hroom.out s' h1 h2).2
            have := hbig.out
            omega
          · have hg2 : decide ((b.length : Int) - (z0 : Int) < (m : Int)) = false := decide_eq_false (by omega)
            have hzm : z0 + m ≤ b.length := by omega
            have hix := hixo.out i hin
            have hbx : BytesAt wx bv b := hbv.out.turns ((hT5.out.trans hTi.out (fun b hb => .inl hb)) : Turns [g] w wx) hbg.out
            obtain ⟨bv3, hsp, hb3, hb3o⟩ := hbx.span (a := z0) (b := z0 + m) (by omega) hzm
            obtain ⟨txs, htxs⟩ : ∃ txs, (b.drop z0).take (z0 + m - z0) = txs := ⟨_, rfl⟩
            rw [htxs] at hb3
            have htl : txs.length = m := by rw [← htxs]; simp; omega
            obtain ⟨y, hy⟩ : ∃ y, strB txs = y := ⟨_, rfl⟩
            have hyt : Hid (strN y = txs) := Lib.hid (by rw [← hy]; exact strN_strB hb3.byte)
            have hys : Hid (y.size = m) := Lib.hid (by rw [← strN_len, hyt.out]; exact htl)
            have hcv : (convert 22 9 bv3).run Tryz.prog wx = .ok (.string y) wx := by rw [← hy]; exact run_bytes hb3
            obtain ⟨o', ho'⟩ := set_tex (D' i) hlt y
            obtain ⟨t1, t2⟩ := hFi.out.cell hin (by omega : 17 + 1 < 26) (texC_cell (D' i) hlt)
            have hF' := hFi.out.set hin (by omega : 17 + 1 < 26) ho'
            have hT' : Turns [g] wx (wx.setCell ⟨g, i * 26 + (17 + 1), none⟩ (.string y)) := Turns.set wx _ (by simp)
            have hrx' : IntsAt _ v5 x := RowAt.turns hrx hT' (fun k hk => by have := (hbk5.out k hk).1; simp; omega)
            obtain ⟨ad2, f1, f2, f3⟩ := IntsAt.index hrx' (k := i) (by rw [hxl.out]; exact hin)
            have f2' : x.getD i 0 = (m : Int) := by have := hxi.out; rw [List.getD, this]; rfl
            rw [f2'] at f2
            obtain rfl : ad = ad2 := by have := (e1 wx).symm.trans (f1 wx); injection this with h1 _; injection h1 with h1; injection h1
            clear f1
            rw [show i * 26 + (17 + 1) = i * 26 + 18 from rfl] at t1 t2 hF' hT' f2
            have ho' := Lib.hid ho'
            replace hF' := Lib.hid hF'
            replace hT' := Lib.hid hT'
            replace htl := Lib.hid htl
            replace htxs := Lib.hid htxs
            have hsumz : (z0 : Int) + (m : Int) ≤ 9223372036854775807 := by omega
            have hsp2 : ∀ W, (Instr.slice 22 bv (some (.int .i64 (z0 : Int))) (some (.int .i64 ((z0 : Int) + (m : Int)))) none).run Tryz.prog W = .ok bv3 W := fun W => by
              have := hsp W
              rwa [Int.natCast_add] at this
            clear hy hbx hrx hrx' hsp f2' f3 hb3o
            replace hb3 := Lib.hid hb3
            go_wp2
            have hdr : Hid (b.drop z0 = (b.drop a).drop (allS s).length) := Lib.hid (by rw [List.drop_drop, hz0.out])
            refine ⟨⟨i + 1, z0 + m, s ++ [y], fun t => if t = i then o' else D' t, by go_num, by go_num, hin, Lib.hid (by rw [List.length_append, hsl.out]; rfl), Lib.hid ?_, Lib.hid ?_, Lib.hid ?_, hF', Lib.hid fun t ht => ?_, Lib.hid fun t => ?_, Lib.hid (hTi.out.trans hT'.out (fun b hb => .inl hb))⟩, by simp [intOf]; omega⟩
            · rw [allS_append, List.length_append, hz0.out, ← Nat.add_assoc]
              simp [allS, strN_len, hys.out]
            · rw [allS_append]
              refine pre_join hpr.out ?_
              rw [← hdr.out]
              simp only [allS, List.append_nil]
              rw [hyt.out, ← htxs.out]
              exact List.take_prefix _ _
            · rw [List.take_add_one, hxi.out, ← hls.out]
              simp [lensS, hys.out]
            · show txt (if t = i then o' else D' t) 1 = _
              have hsl' := hsl.out
              by_cases e : t = i
              · subst e
                rw [if_pos rfl, List.getD, List.getElem?_append_right (by omega), hsl']
                simp only [Nat.sub_self, List.getElem?_cons_zero, Option.getD_some]
                exact tex_is hlt (cells_new ho'.out (by omega))
              · rw [if_neg e, hdone.out t (by omega), List.getD, List.getD, List.getElem?_append_left (by omega)]
            · show (∀ j, j < 21 → fld (if t = i then o' else D' t) j = _) ∧ (∀ c', truV (if t = i then o' else D' t) c' = _) ∧ ∀ c', c' < 3 → c' ≠ 1 → txt (if t = i then o' else D' t) c' = _
              by_cases e : t = i
              · subst e
                rw [if_pos rfl]
                exact ⟨fun j hj => (fld_of hj (cells_same ho'.out (texO_num hlt hj))).trans ((hrest.out t).1 j hj), fun c' => (tru_of c' (cells_same ho'.out (texO_tru hlt))).trans ((hrest.out t).2.1 c'), fun c' hc' hne => (tex_of hc' (cells_same ho'.out (by omega))).trans ((hrest.out t).2.2 c' hc' hne)⟩
              · rw [if_neg e]
                exact hrest.out t
      · have hin4 : ¬ (i : Int) < (n : Int) := by omega
        have hin' : i = n := by omega
        rw [hin'] at hdone hsl hls
        clear hin'
        have hls2 : Hid (lensS s = x) := Lib.hid (by rw [hls.out]; exact List.take_of_length_le (by rw [hxl.out]; exact Nat.le_refl _))
        have hcol2 : Hid (texCol s <+: b) := Lib.hid (by
          unfold texCol
          rw [hls2.out]
          refine pre_join hcol.out.2.2 ?_
          rw [← ha.out]
          exact hpr.out)
        have hcl2 : Hid ((texCol s).length = z0) := Lib.hid (by unfold texCol; rw [List.length_append, hls2.out, ← ha.out, hz0.out])
        go_wp2
        go_ret
        refine ⟨hT5.out.trans hTi.out (fun b hb => .inl hb), .inl ⟨s, D', hsl.out, hcol2.out, by rw [hcl2.out]; rfl, hFi.out, fun t ht => ?_, hrest.out⟩⟩
        have hsl := hsl.out
        rw [hdone.out t ht, List.getD, List.getElem?_eq_getElem (by omega)]; rfl
  · have hg5 : ((e5 : Int) != 0) = true := by rw [he]; rfl
    clear he
    have hno := Lib.hid hno
    go_enter Tryz.func18, Tryz.ntmps18
    go_wp2_with fail
    refine (HC _ hbv.out).mono ?_
    rintro e w5 ⟨v5, rfl, hown5, hb5⟩
    clear hown5 HC
    go_wp2
    go_ret
    exact ⟨Turns.of_below hb5, .inr ⟨fun s' h1 h2 => hno.out _ (TexOf.runs h1 h2 hbl), rfl⟩⟩

set_option maxHeartbeats 4000000 in
theorem refTexts2_any {g n cap0 : Nat} {bv : Value} {b : List Nat} {D0 : Nat → OpV} (w : World) (hF : Fld w g n D0) (hbv : BytesAt w bv b) (hbg : ∀ k, bv.ownBlock = some k → k ∉ [g]) (hn : n ≤ 200) (hnc : n ≤ cap0) (hcm : cap0 ≤ maxLen) :
    Calls Tryz.prog 18 #[.slice (some ⟨g, 0, none⟩) n cap0, bv, .int .i64 2] w (RTexPost b n g 2 D0 w) := by
  have hgl := hF.lt
  have hlt : 2 < 3 := by omega
  have hll : ∀ W, (Builtin.len_ #[24] 3 #[.slice (some ⟨g, 0, none⟩) n cap0]).run Tryz.prog W = .ok (.int .i64 (n : Nat)) W := fun W => by
    have := (hF.ops hnc hcm).len 3 W
    simpa using this
  have hixo : ∀ (j : Nat), j < n → ∀ X, (Instr.indexAt 24 (.slice (some ⟨g, 0, none⟩) n cap0) (.int .i64 (j : Int))).run Tryz.prog X = .ok (.pointer (some ⟨g, j * 26, none⟩)) X := fun j hj X => by
    have he : Tryz.prog.elem 24 = 42 := by kernel_rfl
    rw [run_indexAt_slice (P := Tryz.prog) X _ _ n cap0 .i64 (j : Int) (by kernel_rfl), if_pos (by omega), he, elemO.hs]
    simp [Result.andThen, addr_at]
  obtain ⟨v, hv⟩ : ∃ v, Value.slice (some ⟨g, 0, none⟩) n cap0 = v := ⟨_, rfl⟩
  rw [hv] at hll hixo ⊢
  clear hv
  have hixo := Lib.hid hixo
  have hbl : (b.length : Int) ≤ 9223372036854775807 := by have := hbv.row.le; rwa [bvals_length] at this
  have hlb := fun W => hbv.len (ty := 3) W
  obtain ⟨x, a, e5, hK⟩ := takenR_any b n
  have hal : a ≤ b.length := by
    rcases hK with ⟨h1, h2, _⟩ | ⟨_, _, h2, _⟩
    · rw [h2]; exact h1.2.2.length_le
    · omega
  have HC : ∀ W, BytesAt W bv b → Calls Tryz.prog 13 #[bv, .int .i64 n] W (GivesI x a e5 W) := fun W h => refTakeRuns_given h (.inr ⟨⟨by omega, by omega⟩, by simpa using hK⟩)
  have hbv := Lib.hid hbv
  have hF := Lib.hid hF
  have hbg := Lib.hid hbg
  rcases hK with ⟨hcol, ha, he⟩ | ⟨hno, _, _, he⟩
  · have hg5 : ((e5 : Int) != 0) = false := by rw [he]; rfl
    have hxl : Hid (x.length = n) := Lib.hid hcol.1
    clear he
    replace hcol := Lib.hid hcol
    replace ha := Lib.hid ha
    go_enter Tryz.func18, Tryz.ntmps18
    go_wp2_with fail
    refine (HC _ hbv.out).mono ?_
    rintro e w5 ⟨v5, rfl, hown5, hb5⟩
    have hrow5 := Lib.hid (show IntsAt w5 v5 x from hown5.row)
    have hbk5 := Lib.hid (OwnRow.blk hown5)
    have hF5 : Hid (Fld w5 g n D0) := Lib.hid (hF.out.turns (F := []) (Turns.of_below hb5) (by simp))
    have hT5 := Lib.hid (Turns.of_below (F := [g]) hb5)
    clear hown5 HC hb5
    go_wp2
    go_loopw [8, 10] (fun z' t wx => ∃ (i z0 : Nat) (s : List ByteArray) (D' : Nat → OpV), z' = .int .i64 (z0 : Nat) ∧ t = .int .i64 i ∧ i ≤ n ∧ Hid (s.length = i) ∧ Hid (z0 = a + (allS s).length) ∧ Hid (allS s <+: b.drop a) ∧ Hid (lensS s = x.take i) ∧ Hid (Fld wx g n D') ∧ Hid (∀ t, t < i → txt (D' t) 2 = s.getD t ByteArray.empty) ∧ Hid (∀ t, (∀ j, j < 21 → fld (D' t) j = fld (D0 t) j) ∧ (∀ c', truV (D' t) c' = truV (D0 t) c') ∧ ∀ c', c' < 3 → c' ≠ 2 → txt (D' t) c' = txt (D0 t) c') ∧ Hid (Turns [g] w5 wx)) (fun _ t _ => n - (intOf t).toNat)
    case atStart => exact ⟨0, a, [], D0, rfl, rfl, Nat.zero_le _, Lib.hid rfl, Lib.hid (by simp [allS]), Lib.hid (List.nil_prefix), Lib.hid (by simp [lensS]), hF5, Lib.hid (fun t ht => absurd ht (Nat.not_lt_zero t)), Lib.hid (fun t => ⟨fun _ _ => rfl, fun _ => rfl, fun _ _ _ => rfl⟩), Lib.hid (Turns.refl _ _)⟩
    case round =>
      obtain ⟨i, z0, s, D', rfl, rfl, hi, hsl, hz0, hpr, hls, hFi, hdone, hrest, hTi⟩ := hrel
      have hz0l : z0 ≤ b.length := by
        have := hpr.out.length_le
        rw [List.length_drop] at this
        rw [hz0.out]; omega
      by_cases hin : i < n
      · have hin4 : (i : Int) < (n : Int) := by omega
        obtain ⟨wx, hwx⟩ : ∃ wx, wx = wr := ⟨_, rfl⟩
        subst hwx
        have hrx : IntsAt wx v5 x := RowAt.turns hrow5.out hTi.out (fun k hk => by have := (hbk5.out k hk).1; simp; omega)
        obtain ⟨ad, e1, e2, e3⟩ := IntsAt.index hrx (k := i) (by rw [hxl.out]; exact hin)
        obtain ⟨m', hm'⟩ : ∃ m', x.getD i 0 = m' := ⟨_, rfl⟩
        have hxi : Hid (x[i]? = some m') := Lib.hid (by
          rw [← hm', List.getD, List.getElem?_eq_getElem (by rw [hxl.out]; exact hin)]; rfl)
        have hroom : Hid (∀ s', s'.length = n → texCol s' <+: b → 0 ≤ m' ∧ (z0 : Int) + m' ≤ b.length) := Lib.hid (fun s' h1 h2 => by
          rw [hz0.out]
          exact texCol_room hcol.out ha.out hbl h1 h2 hls.out hxi.out)
        rw [hm'] at e2
        clear hm'
        rcases Int.lt_or_le m' 0 with hneg | hpos
        · have hg1 : decide (m' < 0) = true := decide_eq_true hneg
          replace hneg := Lib.hid hneg
          go_wp2
          go_ret
          refine ⟨hT5.out.trans hTi.out (fun b hb => .inl hb), .inr ⟨fun s' h1 h2 => ?_, rfl⟩⟩
          have := (hroom.out s' h1 h2).1
          have := hneg.out
          omega
        · obtain ⟨m, rfl⟩ : ∃ m : Nat, m' = (m : Int) := ⟨m'.toNat, by omega⟩
          have hg1 : decide ((m : Int) < 0) = false := decide_eq_false (by omega)
          have hz0i : (z0 : Int) ≤ (b.length : Int) := by omega
          rcases Nat.lt_or_ge (b.length - z0) m with hbig | hfit
          · have hg2 : decide ((b.length : Int) - (z0 : Int) < (m : Int)) = true := decide_eq_true (by omega)
            replace hbig := Lib.hid hbig
            go_wp2
            go_ret
            refine ⟨hT5.out.trans hTi.out (fun b hb => .inl hb), .inr ⟨fun s' h1 h2 => ?_, rfl⟩⟩
            have := (hroom.out s' h1 h2).2
            have := hbig.out
            omega
          · have hg2 : decide ((b.length : Int) - (z0 : Int) < (m : Int)) = false := decide_eq_false (by omega)
            have hzm : z0 + m ≤ b.length := by omega
            have hix := hixo.out i hin
            have hbx : BytesAt wx bv b := hbv.out.turns ((hT5.out.trans hTi.out (fun b hb => .inl hb)) : Turns [g] w wx) hbg.out
            obtain ⟨bv3, hsp, hb3, hb3o⟩ := hbx.span (a := z0) (b := z0 + m) (by omega) hzm
            obtain ⟨txs, htxs⟩ : ∃ txs, (b.drop z0).take (z0 + m - z0) = txs := ⟨_, rfl⟩
            rw [htxs] at hb3
            have htl : txs.length = m := by rw [← htxs]; simp; omega
            obtain ⟨y, hy⟩ : ∃ y, strB txs = y := ⟨_, rfl⟩
            have hyt : Hid (strN y = txs) := Lib.hid (by rw [← hy]; exact strN_strB hb3.byte)
            have hys : Hid (y.size = m) := Lib.hid (by rw [← strN_len, hyt.out]; exact htl)
            have hcv : (convert 22 9 bv3).run Tryz.prog wx = .ok (.string y) wx := by rw [← hy]; exact run_bytes hb3
            obtain ⟨o', ho'⟩ := set_tex (D' i) hlt y
            obtain ⟨t1, t2⟩ := hFi.out.cell hin (by omega : 17 + 2 < 26) (texC_cell (D' i) hlt)
            have hF' := hFi.out.set hin (by omega : 17 + 2 < 26) ho'
            have hT' : Turns [g] wx (wx.setCell ⟨g, i * 26 + (17 + 2), none⟩ (.string y)) := Turns.set wx _ (by simp)
            have hrx' : IntsAt _ v5 x := RowAt.turns hrx hT' (fun k hk => by have := (hbk5.out k hk).1; simp; omega)
            obtain ⟨ad2, f1, f2, f3⟩ := IntsAt.index hrx' (k := i) (by rw [hxl.out]; exact hin)
            have f2' : x.getD i 0 = (m : Int) := by have := hxi.out; rw [List.getD, this]; rfl
            rw [f2'] at f2
            obtain rfl : ad = ad2 := by have := (e1 wx).symm.trans (f1 wx); injection this with h1 _; injection h1 with h1; injection h1
            clear f1
            rw [show i * 26 + (17 + 2) = i * 26 + 19 from rfl] at t1 t2 hF' hT' f2
            have ho' := Lib.hid ho'
            replace hF' := Lib.hid hF'
            replace hT' := Lib.hid hT'
            replace htl := Lib.hid htl
            replace htxs := Lib.hid htxs
            have hsumz : (z0 : Int) + (m : Int) ≤ 9223372036854775807 := by omega
            have hsp2 : ∀ W, (Instr.slice 22 bv (some (.int .i64 (z0 : Int))) (some (.int .i64 ((z0 : Int) + (m : Int)))) none).run Tryz.prog W = .ok bv3 W := fun W => by
              have := hsp W
              rwa [Int.natCast_add] at this
            clear hy hbx hrx hrx' hsp f2' f3 hb3o
            replace hb3 := Lib.hid hb3
            go_wp2
            have hdr : Hid (b.drop z0 = (b.drop a).drop (allS s).length) := Lib.hid (by rw [List.drop_drop, hz0.out])
            refine ⟨⟨i + 1, z0 + m, s ++ [y], fun t => if t = i then o' else D' t, by go_num, by go_num, hin, Lib.hid (by rw [List.length_append, hsl.out]; rfl), Lib.hid ?_, Lib.hid ?_, Lib.hid ?_, hF', Lib.hid fun t ht => ?_, Lib.hid fun t => ?_, Lib.hid (hTi.out.trans hT'.out (fun b hb => .inl hb))⟩, by simp [intOf]; omega⟩
            · rw [allS_append, List.length_append, hz0.out, ← Nat.add_assoc]
              simp [allS, strN_len, hys.out]
            · rw [allS_append]
              refine pre_join hpr.out ?_
              rw [← hdr.out]
              simp only [allS, List.append_nil]
              rw [hyt.out, ← htxs.out]
              exact List.take_prefix _ _
            · rw [List.take_add_one, hxi.out, ← hls.out]
              simp [lensS, hys.out]
            · show txt (if t = i then o' else D' t) 2 = _
              have hsl' := hsl.out
              by_cases e : t = i
              · subst e
                rw [if_pos rfl, List.getD, List.getElem?_append_right (by omega), hsl']
                simp only [Nat.sub_self, List.getElem?_cons_zero, Option.getD_some]
                exact tex_is hlt (cells_new ho'.out (by omega))
              · rw [if_neg e, hdone.out t (by omega), List.getD, List.getD, List.getElem?_append_left (by omega)]
            · show (∀ j, j < 21 → fld (if t = i then o' else D' t) j = _) ∧ (∀ c', truV (if t = i then o' else D' t) c' = _) ∧ ∀ c', c' < 3 → c' ≠ 2 → txt (if t = i then o' else D' t) c' = _
              by_cases e : t = i
              · subst e
                rw [if_pos rfl]
                exact ⟨fun j hj => (fld_of hj (cells_same ho'.out (texO_num hlt hj))).trans ((hrest.out t).1 j hj), fun c' => (tru_of c' (cells_same ho'.out (texO_tru hlt))).trans ((hrest.out t).2.1 c'), fun c' hc' hne => (tex_of hc' (cells_same ho'.out (by omega))).trans ((hrest.out t).2.2 c' hc' hne)⟩
              · rw [if_neg e]
                exact hrest.out t
      · have hin4 : ¬ (i : Int) < (n : Int) := by omega
        have hin' : i = n := by omega
        rw [hin'] at hdone hsl hls
        clear hin'
        have hls2 : Hid (lensS s = x) := Lib.hid (by rw [hls.out]; exact List.take_of_length_le (by rw [hxl.out]; exact Nat.le_refl _))
        have hcol2 : Hid (texCol s <+: b) := Lib.hid (by
          unfold texCol
          rw [hls2.out]
          refine pre_join hcol.out.2.2 ?_
          rw [← ha.out]
          exact hpr.out)
        have hcl2 : Hid ((texCol s).length = z0) := Lib.hid (by unfold texCol; rw [List.length_append, hls2.out, ← ha.out, hz0.out])
        go_wp2
        go_ret
        refine ⟨hT5.out.trans hTi.out (fun b hb => .inl hb), .inl ⟨s, D', hsl.out, hcol2.out, by rw [hcl2.out]; rfl, hFi.out, fun t ht => ?_, hrest.out⟩⟩
        have hsl := hsl.out
        rw [hdone.out t ht, List.getD, List.getElem?_eq_getElem (by omega)]; rfl
  · have hg5 : ((e5 : Int) != 0) = true := by rw [he]; rfl
    clear he
    have hno := Lib.hid hno
    go_enter Tryz.func18, Tryz.ntmps18
    go_wp2_with fail
    refine (HC _ hbv.out).mono ?_
    rintro e w5 ⟨v5, rfl, hown5, hb5⟩
    clear hown5 HC
    go_wp2
    go_ret
    exact ⟨Turns.of_below hb5, .inr ⟨fun s' h1 h2 => hno.out _ (TexOf.runs h1 h2 hbl), rfl⟩⟩
theorem refTexts_any {g n cap0 c : Nat} {bv : Value} {b : List Nat} {D0 : Nat → OpV} (hc : c < 3) (w : World) (hF : Fld w g n D0) (hbv : BytesAt w bv b) (hbg : ∀ k, bv.ownBlock = some k → k ∉ [g]) (hn : n ≤ 200) (hnc : n ≤ cap0) (hcm : cap0 ≤ maxLen) :
    Calls Tryz.prog 18 #[.slice (some ⟨g, 0, none⟩) n cap0, bv, .int .i64 (c : Int)] w (RTexPost b n g c D0 w) := by
  rcases (by omega : c = 0 ∨ c = 1 ∨ c = 2) with rfl | rfl | rfl
  · exact refTexts0_any w hF hbv hbg hn hnc hcm
  · exact refTexts1_any w hF hbv hbg hn hnc hcm
  · exact refTexts2_any w hF hbv hbg hn hnc hcm
end Go.Proofs.YthpgfnhecfgiaaaGreatDoor
