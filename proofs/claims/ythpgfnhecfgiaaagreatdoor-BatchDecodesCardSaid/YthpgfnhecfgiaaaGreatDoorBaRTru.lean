/-
  The document's taker of the columns of truths.
-/
import Derived.Test.YthpgfnhecfgiaaaGreatDoorBaTkt
import Derived.Test.YthpgfnhecfgiaaaGreatDoorMCoTake
namespace Go.Proofs.YthpgfnhecfgiaaaGreatDoor
open Go.RowKit Go.Sort
set_option maxRecDepth 20000

/-- What the document's taker of truths leaves. -/
def RTruPost (b : List Nat) (n g : Nat) (D0 : Nat → OpV) (w : World) : Ending → World → Prop := fun e w' => Turns [g] w w' ∧
  ((∃ T D, TruOf b n T ∧ e = .returned (.int .i64 ((truPre T 2).length : Nat)) ∧ Fld w' g n D ∧ (∀ c, c < 2 → ∀ t, t < n → (T c)[t]? = some (truV (D t) c)) ∧ ∀ t, (∀ j, j < 21 → fld (D t) j = fld (D0 t) j) ∧ ∀ c, c < 3 → txt (D t) c = txt (D0 t) c) ∨
   ((∀ T, ¬ TruOf b n T) ∧ e = .returned (.int .i64 (-1))))

theorem TruOf.first {b : List Nat} {n : Nat} {T : Nat → List Bool} (h : TruOf b n T) : TruthsOf b n (T 0) := by
  have := h.col (L := T) (i := 0) (by omega) (fun _ h => absurd h (Nat.not_lt_zero _))
  simpa [truPre] using this
theorem TruOf.second {b : List Nat} {n : Nat} {T : Nat → List Bool} (h : TruOf b n T) : TruthsOf (b.drop (bytesB (T 0)).length) n (T 1) := by
  have := h.col (L := T) (i := 1) (by omega) (fun _ _ => rfl)
  simpa [truPre] using this

set_option maxHeartbeats 4000000 in
theorem refTruths_any {g n cap0 : Nat} {bv : Value} {b : List Nat} {D0 : Nat → OpV} (w : World) (hF : Fld w g n D0) (hbv : BytesAt w bv b) (hn : n ≤ 200) (hnc : n ≤ cap0) (hcm : cap0 ≤ maxLen) :
    Calls Tryz.prog 17 #[.slice (some ⟨g, 0, none⟩) n cap0, bv] w (RTruPost b n g D0 w) := by
  have hgl := hF.lt
  have hll : ∀ W, (Builtin.len_ #[24] 3 #[.slice (some ⟨g, 0, none⟩) n cap0]).run Tryz.prog W = .ok (.int .i64 (n : Nat)) W := fun W => by
    have := (hF.ops hnc hcm).len 3 W
    simpa using this
  have hixo : ∀ (j : Nat), j < n → ∀ X, (Instr.indexAt 24 (.slice (some ⟨g, 0, none⟩) n cap0) (.int .i64 (j : Int))).run Tryz.prog X = .ok (.pointer (some ⟨g, j * 26, none⟩)) X := fun j hj X => by
    have he : Tryz.prog.elem 24 = 42 := by kernel_rfl
    rw [run_indexAt_slice (P := Tryz.prog) X _ _ n cap0 .i64 (j : Int) (by kernel_rfl), if_pos (by omega), he, elemO.hs]
    simp [Result.andThen, addr_at]
  obtain ⟨v, hv⟩ : ∃ v, Value.slice (some ⟨g, 0, none⟩) n cap0 = v := ⟨_, rfl⟩
  rw [hv] at hll hixo ⊢
  clear hv
  have hixo := Lib.hid hixo
  have hbl : b.length ≤ 9223372036854775807 := by have := hbv.row.le; rw [bvals_length] at this; omega
  obtain ⟨x, a, e5, hK⟩ := takenB_any b n
  have hal : a ≤ b.length := by
    rcases hK with ⟨h1, h2, _⟩ | ⟨_, _, h2, _⟩
    · rw [h2]; exact h1.2.length_le
    · omega
  have HC : ∀ W, BytesAt W bv b → Calls Tryz.prog 37 #[bv, .int .i64 n] W (GivesT x a e5 W) := fun W h => refTakeBools_given h (.inr ⟨⟨by omega, by omega⟩, by simpa using hK⟩)
  have hbv := Lib.hid hbv
  have hF := Lib.hid hF
  rcases hK with ⟨hcol, ha, he⟩ | ⟨hno, _, _, he⟩
  · have hg5 : ((e5 : Int) != 0) = false := by rw [he]; rfl
    have hxl : Hid (x.length = n) := Lib.hid hcol.1
    clear he
    replace hcol := Lib.hid hcol
    replace ha := Lib.hid ha
    obtain ⟨y, a2, e6, hK2⟩ := takenB_any (b.drop a) n
    have hal2 : a2 ≤ (b.drop a).length := by
      rcases hK2 with ⟨h1, h2, _⟩ | ⟨_, _, h2, _⟩
      · rw [h2]; exact h1.2.length_le
      · omega
    have hsum : (a : Int) + (a2 : Int) ≤ 9223372036854775807 := by rw [List.length_drop] at hal2; omega
    clear hal2
    obtain ⟨bv2, hcut, hbv2⟩ := hbv.out.cut hal
    have hbv2 := Lib.hid hbv2
    have HC2 : ∀ W, BytesAt W bv2 (b.drop a) → Calls Tryz.prog 37 #[bv2, .int .i64 n] W (GivesT y a2 e6 W) := fun W h => refTakeBools_given h (.inr ⟨⟨by omega, by omega⟩, by simpa using hK2⟩)
    rcases hK2 with ⟨hcol2, ha2, he⟩ | ⟨hno, _, _, he⟩
    · have hg6 : ((e6 : Int) != 0) = false := by rw [he]; rfl
      have hyl : Hid (y.length = n) := Lib.hid hcol2.1
      clear he
      replace hcol2 := Lib.hid hcol2
      replace ha2 := Lib.hid ha2
      go_enter Tryz.func17, Tryz.ntmps17
      go_wp2_with fail
      refine (HC _ hbv.out).mono ?_
      rintro e w5 ⟨v5, rfl, hown5, hb5⟩
      have hrow5 := Lib.hid (show TruthsAt w5 v5 x from hown5.row)
      have hbk5 := Lib.hid (OwnRow.blk hown5)
      have hF5 : Hid (Fld w5 g n D0) := Lib.hid (hF.out.turns (F := []) (Turns.of_below hb5) (by simp))
      have hbw2 := Lib.hid (hbv2.out.below hb5)
      have hb5 := Lib.hid hb5
      clear hown5 HC
      go_wp2_with fail
      refine (HC2 _ hbw2.out).mono ?_
      rintro e w6 ⟨v6, rfl, hown6, hb6⟩
      have hrow6 := Lib.hid (show TruthsAt w6 v6 y from hown6.row)
      have hbk6 := Lib.hid (OwnRow.blk hown6)
      have hrow56 := Lib.hid (show TruthsAt w6 v5 x from RowAt.below hrow5.out hb6)
      have hF6 : Hid (Fld w6 g n D0) := Lib.hid (hF5.out.turns (F := []) (Turns.of_below hb6) (by simp))
      have hT6 : Hid (Turns [g] w w6) := Lib.hid ((Turns.of_below (F := [g]) hb5.out).call hb6)
      have hgw5 : Hid (g < w5.heap.size) := Lib.hid (by have := hb5.out.size; omega)
      clear hown6 HC2 hbw2
      go_wp2
      go_loopw [11] (fun t wx => ∃ (i : Nat) (D' : Nat → OpV), t = .int .i64 i ∧ i ≤ n ∧ Hid (Fld wx g n D') ∧ Hid (∀ t, t < i → truV (D' t) 0 = x.getD t false ∧ truV (D' t) 1 = y.getD t false) ∧ Hid (∀ t, (∀ j, j < 21 → fld (D' t) j = fld (D0 t) j) ∧ ∀ c', c' < 3 → txt (D' t) c' = txt (D0 t) c') ∧ Hid (Turns [g] w6 wx)) (fun t _ => n - (intOf t).toNat)
      case atStart => exact ⟨0, D0, rfl, Nat.zero_le _, hF6, Lib.hid (fun t ht => absurd ht (Nat.not_lt_zero t)), Lib.hid (fun t => ⟨fun _ _ => rfl, fun _ _ => rfl⟩), Lib.hid (Turns.refl _ _)⟩
      case round =>
        obtain ⟨i, D', rfl, hi, hFi, hdone, hrest, hTi⟩ := hrel
        by_cases hin : i < n
        · have hin4 : (i : Int) < (n : Int) := by omega
          obtain ⟨wx, hwx⟩ : ∃ wx, wx = wr := ⟨_, rfl⟩
          subst hwx
          have hix := hixo.out i hin
          have hrx : TruthsAt wx v5 x := RowAt.turns hrow56.out hTi.out (fun k hk => by have := (hbk5.out k hk).1; simp; omega)
          have hry : TruthsAt wx v6 y := RowAt.turns hrow6.out hTi.out (fun k hk => by have := (hbk6.out k hk).1; have := hgw5.out; simp; omega)
          obtain ⟨ad, e1, e2, e3⟩ := TruthsAt.index hrx (k := i) (by rw [hxl.out]; exact hin)
          have hgl' := hFi.out.lt
          obtain ⟨p, hp⟩ : ∃ p, x.getD i false = p := ⟨_, rfl⟩
          obtain ⟨q, hq⟩ : ∃ q, y.getD i false = q := ⟨_, rfl⟩
          obtain ⟨o', ho'⟩ := set_tru (D' i) 0 p
          obtain ⟨o2, ho2⟩ := set_tru o' 1 q
          obtain ⟨t1, t2⟩ := hFi.out.cell hin (truO_lt 0) (tru_cell (D' i) 0)
          have hF' := hFi.out.set hin (truO_lt 0) ho'
          have hT' : Turns [g] wx (wx.setCell ⟨g, i * 26 + truO 0, none⟩ (.bool p)) := Turns.set wx _ (by simp)
          rw [show i * 26 + truO 0 = i * 26 + 20 + 2 from rfl] at t1 t2 hF' hT'
          obtain ⟨s1, s2⟩ := hF'.cell hin (truO_lt 1) (tru_cell _ 1)
          have hF2 := hF'.set (x := o2) hin (truO_lt 1) (by rw [if_pos rfl]; exact ho2)
          have hT2 : Turns [g] wx _ := hT'.trans' (Turns.set _ (a := ⟨g, i * 26 + truO 1, none⟩) (.bool q) (by simp))
          have hry1 : TruthsAt _ v6 y := RowAt.turns hry hT' (fun k hk => by have := (hbk6.out k hk).1; have := hgw5.out; simp; omega)
          obtain ⟨ad2, f1, f2, f3⟩ := TruthsAt.index hry1 (k := i) (by rw [hyl.out]; exact hin)
          rw [show i * 26 + truO 1 = i * 26 + 23 + 2 from rfl] at s1 s2 hF2 hT2
          rw [if_pos rfl] at s1
          have ho' := Lib.hid ho'
          have ho2 := Lib.hid ho2
          have hF2 := Lib.hid hF2
          have hT2 := Lib.hid hT2
          rw [hp] at e2
          rw [hq] at f2
          replace hp := Lib.hid hp
          replace hq := Lib.hid hq
          clear hF' hT' hrx hry hry1 f3
          go_wp2
          refine ⟨⟨i + 1, _, by go_num, hin, hF2, Lib.hid fun t ht => ?_, Lib.hid fun t => ?_, Lib.hid (hTi.out.trans hT2.out (fun b hb => .inl hb))⟩, by simp [intOf]; omega⟩
          · show truV (if t = i then o2 else if t = i then o' else D' t) 0 = _ ∧ truV (if t = i then o2 else if t = i then o' else D' t) 1 = _
            by_cases e : t = i
            · subst e
              rw [if_pos rfl, hp.out, hq.out]
              exact ⟨(tru_of 0 (cells_same ho2.out (truO_apart (by omega) (by omega) (by omega)))).trans (tru_is (cells_new ho'.out (truO_lt 0))), tru_is (cells_new ho2.out (truO_lt 1))⟩
            · rw [if_neg e, if_neg e]
              exact hdone.out t (by omega)
          · show (∀ j, j < 21 → fld (if t = i then o2 else if t = i then o' else D' t) j = _) ∧ ∀ c', c' < 3 → txt (if t = i then o2 else if t = i then o' else D' t) c' = _
            by_cases e : t = i
            · subst e
              rw [if_pos rfl]
              exact ⟨fun j hj => ((fld_of hj (cells_same ho2.out (truO_num hj))).trans (fld_of hj (cells_same ho'.out (truO_num hj)))).trans ((hrest.out t).1 j hj), fun c' hc' => ((tex_of hc' (cells_same ho2.out (truO_tex hc'))).trans (tex_of hc' (cells_same ho'.out (truO_tex hc')))).trans ((hrest.out t).2 c' hc')⟩
            · rw [if_neg e, if_neg e]
              exact hrest.out t
        · have hin4 : ¬ (i : Int) < (n : Int) := by omega
          have hin' : i = n := by omega
          rw [hin'] at hdone
          clear hin'
          have hall : Hid (truPre (fun c => if c = 0 then x else y) 2 = bytesB x ++ bytesB y) := Lib.hid (by simp [truPre])
          go_wp2
          go_ret
          refine ⟨hT6.out.trans hTi.out (fun b hb => .inl hb), .inl ⟨fun c => if c = 0 then x else y, D', ⟨fun c _ => ?_, ?_⟩, ?_, hFi.out, fun c hc t ht => ?_, hrest.out⟩⟩
          · show (if c = 0 then x else y).length = n
            split
            · exact hxl.out
            · exact hyl.out
          · rw [hall.out]
            refine pre_join hcol.out.2 ?_
            rw [← ha.out]; exact hcol2.out.2
          · rw [hall.out, List.length_append, ← ha.out, ← ha2.out]; rfl
          · have hxl := hxl.out
            have hyl := hyl.out
            show (if c = 0 then x else y)[t]? = some (truV (D' t) c)
            rcases (by omega : c = 0 ∨ c = 1) with rfl | rfl
            · rw [if_pos rfl, (hdone.out t ht).1, List.getD, List.getElem?_eq_getElem (by omega)]; rfl
            · rw [if_neg (by omega), (hdone.out t ht).2, List.getD, List.getElem?_eq_getElem (by omega)]; rfl
    · obtain rfl : e6 = 41 := he
      have hno := Lib.hid hno
      go_enter Tryz.func17, Tryz.ntmps17
      go_wp2_with fail
      refine (HC _ hbv.out).mono ?_
      rintro e w5 ⟨v5, rfl, hown5, hb5⟩
      have hbw2 := hbv2.out.below hb5
      have hb5 := Lib.hid hb5
      clear hown5 HC
      go_wp2_with fail
      refine (HC2 _ hbw2).mono ?_
      rintro e w6 ⟨v6, rfl, hown6, hb6⟩
      clear hown6 HC2 hbw2
      go_wp2
      go_ret
      refine ⟨(Turns.of_below (F := [g]) hb5.out).call hb6, .inr ⟨fun T h => ?_, rfl⟩⟩
      have h0 := h.first
      have h1 := h.second
      rw [TruthsOf.unique h0 hcol.out, ← ha.out] at h1
      exact hno.out _ h1
  · obtain rfl : e5 = 41 := he
    have hno := Lib.hid hno
    go_enter Tryz.func17, Tryz.ntmps17
    go_wp2_with fail
    refine (HC _ hbv.out).mono ?_
    rintro e w5 ⟨v5, rfl, hown5, hb5⟩
    clear hown5 HC
    go_wp2
    go_ret
    exact ⟨Turns.of_below hb5, .inr ⟨fun T h => hno.out _ h.first, rfl⟩⟩
end Go.Proofs.YthpgfnhecfgiaaaGreatDoor
