/-
  The columns of truths taken from bytes, and given to operations.
-/
import Derived.Test.YthpgfnhecfgiaaaGreatDoorBaTkm
namespace Go.Proofs.YthpgfnhecfgiaaaGreatDoor
open Go.RowKit Go.Sort
set_option maxRecDepth 20000

theorem BytesAt.turns {w w' : World} {v : Value} {l : List Nat} {F : List Nat} (h : BytesAt w v l) (ht : Turns F w w') (hF : ∀ k, v.ownBlock = some k → k ∉ F) : BytesAt w' v l := by
  obtain ⟨A, c, h1, h2, h3, h4, h5, h6⟩ := h
  refine ⟨A, c, h1, h2, h3, h4, fun hl => ?_, h6⟩
  obtain ⟨b, off, h7, h8, h9⟩ := h5 hl
  have hb : b ∉ F := hF b (by rw [h1, h7]; rfl)
  exact ⟨b, off, h7, Nat.lt_of_lt_of_le h8 ht.size, fun i hi => (ht.cell (a := ⟨b, off + i, none⟩) h8 hb).trans (h9 i hi)⟩

def truPre (T : Nat → List Bool) : Nat → List Nat
  | 0 => []
  | k + 1 => truPre T k ++ bytesB (T k)
def TruOf (b : List Nat) (n : Nat) (T : Nat → List Bool) : Prop := (∀ c, c < 2 → (T c).length = n) ∧ truPre T 2 <+: b
theorem truPre_congr {L L' : Nat → List Bool} : ∀ {k : Nat}, (∀ j, j < k → L j = L' j) → truPre L k = truPre L' k
  | 0, _ => rfl
  | k + 1, h => by rw [truPre, truPre, truPre_congr (fun j hj => h j (by omega)), h k (by omega)]
theorem truPre_up (L : Nat → List Bool) {j : Nat} : ∀ {k : Nat}, j ≤ k → truPre L j <+: truPre L k
  | 0, h => by obtain rfl : j = 0 := by omega
               exact List.prefix_refl _
  | k + 1, h => by
    rcases Nat.lt_or_ge j (k + 1) with h' | h'
    · exact (truPre_up L (k := k) (by omega)).trans (List.prefix_append _ _)
    · obtain rfl : j = k + 1 := by omega
      exact List.prefix_refl _
theorem TruOf.col {b : List Nat} {n : Nat} {L L' : Nat → List Bool} (h : TruOf b n L') {i : Nat} (hi : i < 2) (hs : ∀ j, j < i → L' j = L j) : TruthsOf (b.drop (truPre L i).length) n (L' i) := by
  refine ⟨h.1 i hi, ?_⟩
  have h1 : truPre L' (i + 1) <+: b := (truPre_up L' (by omega)).trans h.2
  rw [truPre] at h1
  have h2 := pre_drop h1
  rwa [truPre_congr hs] at h2

/-- What the taker of truths leaves. -/
def TruPost (b : List Nat) (n g : Nat) (D0 : Nat → OpV) (w : World) : Ending → World → Prop := fun e w' => Turns [g] w w' ∧
  ((∃ T D, TruOf b n T ∧ e = .returned (.tuple #[.int .i64 ((truPre T 2).length : Nat), .nilIface]) ∧ Fld w' g n D ∧ (∀ c, c < 2 → ∀ t, t < n → (T c)[t]? = some (truV (D t) c)) ∧ ∀ t, (∀ j, j < 21 → fld (D t) j = fld (D0 t) j) ∧ ∀ c, c < 3 → txt (D t) c = txt (D0 t) c) ∨
   ((∀ T, ¬ TruOf b n T) ∧ ∃ k : Int, e = .returned (.tuple #[.int .i64 0, .iface 49 (.agg #[.int .i64 k])])))

theorem truO_apart {c c' : Nat} (hc : c < 2) (hc' : c' < 2) (h : c' ≠ c) : truO c' ≠ truO c := by
  unfold truO; split <;> split <;> omega
theorem truO_num {c k : Nat} (hk : k < 21) : offN k ≠ truO c := fun h => (offN_apart hk).1 c h.symm
theorem truO_tex {c c' : Nat} (hc' : c' < 3) : 17 + c' ≠ truO c := by unfold truO; split <;> omega

set_option maxHeartbeats 4000000 in
theorem takeTruths_any {g n cap0 : Nat} {bv : Value} {b : List Nat} {D0 : Nat → OpV} (w : World) (hF : Fld w g n D0) (hbv : BytesAt w bv b) (hbg : ∀ k, bv.ownBlock = some k → k ∉ [g]) (hn : n ≤ 200) (hnc : n ≤ cap0) (hcm : cap0 ≤ maxLen) :
    Calls Tryz.prog 28 #[.slice (some ⟨g, 0, none⟩) n cap0, bv] w (TruPost b n g D0 w) := by
  have hgl := hF.lt
  have hll : ∀ W, (Builtin.len_ #[24] 3 #[.slice (some ⟨g, 0, none⟩) n cap0]).run Tryz.prog W = .ok (.int .i64 (n : Nat)) W := fun W => by
    have := (hF.ops hnc hcm).len 3 W
    simpa using this
  have hbl : (b.length : Int) ≤ 9223372036854775807 := by have := hbv.row.le; rwa [bvals_length] at this
  have hixo : ∀ (j : Nat), j < n → ∀ X, (Instr.indexAt 24 (.slice (some ⟨g, 0, none⟩) n cap0) (.int .i64 (j : Int))).run Tryz.prog X = .ok (.pointer (some ⟨g, j * 26, none⟩)) X := fun j hj X => by
    have he : Tryz.prog.elem 24 = 42 := by kernel_rfl
    rw [run_indexAt_slice (P := Tryz.prog) X _ _ n cap0 .i64 (j : Int) (by kernel_rfl), if_pos (by omega), he, elemO.hs]
    simp [Result.andThen, addr_at]
  obtain ⟨v, hv⟩ : ∃ v, Value.slice (some ⟨g, 0, none⟩) n cap0 = v := ⟨_, rfl⟩
  rw [hv] at hll hixo ⊢
  clear hv
  have hixo := Lib.hid hixo
  have hbv := Lib.hid hbv
  have hF := Lib.hid hF
  have hbg := Lib.hid hbg
  go_enter Tryz.func28, Tryz.ntmps28
  go_wp2_with (go_at_call 48; refine (truths_any _ _ _).mono ?_; rintro e w1 ⟨q, rfl, hq, hql, hb1⟩)
  have hb1 := then_call (below_box1 w _) hb1
  clear hq hql
  go_loopw [6, 16] (fun o' t wr => ∃ (c a0 : Nat) (T : Nat → List Bool) (D : Nat → OpV), o' = .int .i64 (a0 : Nat) ∧ t = .int .i64 c ∧ c ≤ 2 ∧ Hid (a0 = (truPre T c).length) ∧ Hid (truPre T c <+: b) ∧ Hid (∀ T', TruOf b n T' → ∀ j, j < c → T' j = T j) ∧ Hid (Fld wr g n D) ∧ Hid (∀ c', c' < c → (T c').length = n ∧ ∀ t, t < n → (T c')[t]? = some (truV (D t) c')) ∧ Hid (∀ t, (∀ j, j < 21 → fld (D t) j = fld (D0 t) j) ∧ ∀ c, c < 3 → txt (D t) c = txt (D0 t) c) ∧ Hid (Turns [g] w wr)) (fun _ t _ => 2 - (intOf t).toNat)
  case atStart => exact ⟨0, 0, fun _ => [], D0, rfl, rfl, by omega, Lib.hid rfl, Lib.hid (List.nil_prefix), Lib.hid (fun _ _ j hj => absurd hj (Nat.not_lt_zero j)), Lib.hid (hF.out.turns (F := []) (Turns.of_below hb1) (by simp)), Lib.hid (fun c hc => absurd hc (Nat.not_lt_zero c)), Lib.hid (fun t => ⟨fun _ _ => rfl, fun _ _ => rfl⟩), Lib.hid (Turns.of_below hb1)⟩
  case round =>
    clear hb1
    obtain ⟨c, a0, T, D, rfl, rfl, hc, ha0, hpre, huni, hFD, htru, hsame, hT⟩ := hrel
    by_cases hlt : c < 2
    · have hc4 : (c : Int) < 2 := by omega
      obtain ⟨wa, hwa⟩ : ∃ wa, wa = wr := ⟨_, rfl⟩
      subst hwa
      have ha0l : a0 ≤ b.length := by rw [ha0.out]; exact hpre.out.length_le
      have hba := hbv.out.turns hT.out hbg.out
      obtain ⟨bv2, hcut, hbv2⟩ := hba.cut ha0l
      obtain ⟨x, a, e5, hK⟩ := takenB_any (b.drop a0) n
      have hbv2 := Lib.hid hbv2
      clear hba
      have hal : a ≤ (b.drop a0).length := by
        rcases hK with ⟨h1, h2, _⟩ | ⟨_, _, h2, _⟩
        · rw [h2]; exact h1.2.length_le
        · omega
      have hsum : (a0 : Int) + (a : Int) ≤ 9223372036854775807 := by rw [List.length_drop] at hal; omega
      clear hal
      have HC : ∀ W, BytesAt W bv2 (b.drop a0) → Calls Tryz.prog 54 #[bv2, .int .i64 n] W (GivesT x a e5 W) := fun W h => cTakeBools_any bv2 _ n x a e5 W h (by omega) hK
      have HC := Lib.hid HC
      rcases hK with ⟨hcol, ha, he⟩ | ⟨hno, hc0, ha, he⟩
      · have hg5 : ((e5 : Int) != 0) = false := by rw [he]; rfl
        clear he
        have hxl : Hid (x.length = n) := Lib.hid hcol.1
        replace hcol := Lib.hid hcol
        replace ha := Lib.hid ha
        go_wp2_with (go_at_call 54; refine (HC.out _ hbv2.out).mono ?_; rintro e' w5 ⟨v5, rfl, hown5, hb5⟩; have hlv := fun W => TruthsAt.len (show TruthsAt w5 v5 x from hown5.row) (ty := 3) W; rw [hxl.out] at hlv)
        have hrow5 := Lib.hid (show TruthsAt w5 v5 x from hown5.row)
        have hbk5 := Lib.hid (OwnRow.blk hown5)
        have hF5 : Hid (Fld w5 g n D) := Lib.hid (hFD.out.turns (F := []) (Turns.of_below hb5) (by simp))
        have hT5 := Lib.hid (hT.out.call hb5)
        have hgwa : Hid (g < wa.heap.size) := Lib.hid hFD.out.lt
        clear hown5 HC
        go_loopw [35] (fun t wx => ∃ (i : Nat) (D' : Nat → OpV), t = .int .i64 i ∧ i ≤ n ∧ Hid (Fld wx g n D') ∧ Hid (∀ t, t < i → truV (D' t) c = x.getD t false) ∧ Hid (∀ t, (∀ j, j < 21 → fld (D' t) j = fld (D t) j) ∧ (∀ c', c' < 3 → txt (D' t) c' = txt (D t) c') ∧ ∀ c', c' < 2 → c' ≠ c → truV (D' t) c' = truV (D t) c') ∧ Hid (Turns [g] w5 wx)) (fun t _ => n - (intOf t).toNat)
        case atStart => exact ⟨0, D, rfl, Nat.zero_le _, hF5, Lib.hid (fun t ht => absurd ht (Nat.not_lt_zero t)), Lib.hid (fun t => ⟨fun _ _ => rfl, fun _ _ => rfl, fun _ _ _ => rfl⟩), Lib.hid (Turns.refl _ _)⟩
        case round =>
          obtain ⟨i, D', rfl, hi, hFi, hdone, hrest, hTi⟩ := hrel
          by_cases hin : i < n
          · have hin4 : (i : Int) < (n : Int) := by omega
            obtain ⟨wx, hwx⟩ : ∃ wx, wx = wr := ⟨_, rfl⟩
            subst hwx
            have hix := hixo.out i hin
            have hrx : TruthsAt wx v5 x := RowAt.turns hrow5.out hTi.out (fun k hk => by have := (hbk5.out k hk).1; have := hgwa.out; simp; omega)
            obtain ⟨ad, e1, e2, e3⟩ := TruthsAt.index hrx (k := i) (by rw [hxl.out]; exact hin)
            have hgl' := hFi.out.lt
            obtain ⟨t1, t2⟩ := hFi.out.cell hin (truO_lt c) (tru_cell (D' i) c)
            obtain ⟨y, hy⟩ : ∃ y, x.getD i false = y := ⟨_, rfl⟩
            obtain ⟨o', ho'⟩ := set_tru (D' i) c y
            have ho' := Lib.hid ho'
            have hixp := fun (q : Nat) (W : World) => ix_one (P := Tryz.prog) (t := 98) (e := 100) (g := q) (n := 2) (cap := 2) Tryz.underlying98 (fun W => by kernel_rfl) hlt W
            rw [hy] at e2
            have hFi' := Lib.hid hFi.out
            clear t1 t2 hrx
            go_wp2_with (go_at_call 48; refine (truths_any g (i * 26) _).mono ?_; rintro e w3 ⟨q, rfl, hq, hql, hb3⟩; have p1 : w3.cell? ⟨q, c, none⟩ = _ := cell_held hq (tru_ptr hlt); have hF3 := Lib.hid (Fld.turns (F := []) hFi'.out (Turns.of_below hb3) (by simp)); obtain ⟨p2, p3⟩ := hF3.out.cell hin (truO_lt c) (tru_cell (D' i) c); have hixq := hixp q; clear hq)
            refine ⟨⟨i + 1, fun s => if s = i then o' else D' s, by go_num, hin, Lib.hid (hF3.out.set hin (truO_lt c) ho'.out), Lib.hid fun t ht => ?_, Lib.hid fun t => ?_, Lib.hid ((hTi.out.call hb3).trans (Turns.set _ _ (by simp)) (fun b hb => .inl hb))⟩, by simp [intOf]; omega⟩
            · show truV (if t = i then o' else D' t) c = _
              by_cases e : t = i
              · subst e
                rw [if_pos rfl, hy]
                exact tru_is (cells_new ho'.out (truO_lt c))
              · rw [if_neg e]
                exact hdone.out t (by omega)
            · show (∀ j, j < 21 → fld (if t = i then o' else D' t) j = _) ∧ (∀ c', c' < 3 → txt (if t = i then o' else D' t) c' = _) ∧ ∀ c', c' < 2 → c' ≠ c → truV (if t = i then o' else D' t) c' = _
              by_cases e : t = i
              · subst e
                rw [if_pos rfl]
                exact ⟨fun j hj => (fld_of hj (cells_same ho'.out (truO_num hj))).trans ((hrest.out t).1 j hj), fun c' hc' => (tex_of hc' (cells_same ho'.out (truO_tex hc'))).trans ((hrest.out t).2.1 c' hc'), fun c' hc' hne => (tru_of c' (cells_same ho'.out (truO_apart hlt hc' hne))).trans ((hrest.out t).2.2 c' hc' hne)⟩
              · rw [if_neg e]
                exact hrest.out t
          · have hin4 : ¬ (i : Int) < (n : Int) := by omega
            have hin' : i = n := by omega
            rw [hin'] at hdone
            clear hin'
            have hcong : Hid (truPre (fun k => if k = c then x else T k) (c + 1) = truPre T c ++ bytesB x) := Lib.hid (by
              rw [truPre, truPre_congr (L' := T) (fun j hj => by rw [if_neg (by omega)]), if_pos rfl])
            go_wp2
            refine ⟨⟨c + 1, a0 + a, fun k => if k = c then x else T k, D', by go_num, by go_num, hlt, Lib.hid ?_, Lib.hid ?_, Lib.hid ?_, hFi, Lib.hid fun c' hc' => ?_, Lib.hid fun t => ⟨fun j hj => ((hrest.out t).1 j hj).trans ((hsame.out t).1 j hj), fun c' hc' => ((hrest.out t).2.1 c' hc').trans ((hsame.out t).2 c' hc')⟩, Lib.hid (hT5.out.trans hTi.out (fun b hb => .inl hb))⟩, by simp [intOf]; omega⟩
            · rw [hcong.out, List.length_append, ← ha0.out, ← ha.out]
            · rw [hcong.out]
              refine pre_join hpre.out ?_
              rw [← ha0.out]
              exact hcol.out.2
            · intro L' h' j hj
              show L' j = if j = c then x else T j
              by_cases e : j = c
              · subst e
                rw [if_pos rfl]
                have := h'.col hlt (huni.out L' h')
                rw [← ha0.out] at this
                exact TruthsOf.unique this hcol.out
              · rw [if_neg e]
                exact huni.out L' h' j (by omega)
            · show (if c' = c then x else T c').length = n ∧ ∀ t, t < n → (if c' = c then x else T c')[t]? = some (truV (D' t) c')
              by_cases e : c' = c
              · subst e
                rw [if_pos rfl]
                refine ⟨hxl.out, fun t ht => ?_⟩
                have hxl := hxl.out
                rw [hdone.out t ht, List.getD, List.getElem?_eq_getElem (by omega)]; rfl
              · rw [if_neg e]
                refine ⟨(htru.out c' (by omega)).1, fun t ht => ?_⟩
                rw [(hrest.out t).2.2 c' (by omega) e]
                exact (htru.out c' (by omega)).2 t ht
      · obtain rfl : e5 = 41 := he
        have hno := Lib.hid hno
        go_wp2_with (first
          | (go_at_call 54; refine (HC.out _ hbv2.out).mono ?_; rintro e' w5 ⟨v5, rfl, hown5, hb5⟩)
          | (go_at_call 26; refine (not_any 41 _).mono ?_; rintro e w6 ⟨rfl, rfl⟩))
        refine bodyPost_ret (results_tmp2 rfl _ _ _) rfl ⟨hT.out.call hb5, .inr ⟨fun L' h' => ?_, 41, rfl⟩⟩
        have := h'.col hlt (huni.out L' h')
        rw [← ha0.out] at this
        exact hno.out _ this
    · have hc4 : ¬ (c : Int) < 2 := by omega
      have hc2 : c = 2 := by omega
      rw [hc2] at ha0 hpre huni htru
      clear hc2 hlt hc
      go_wp2
      refine bodyPost_ret (results_tmp2 rfl _ _ _) rfl ⟨hT.out, .inl ⟨T, D, ⟨fun k hk => (htru.out k hk).1, hpre.out⟩, by rw [← ha0.out]; rfl, hFD.out, fun k hk => (htru.out k hk).2, hsame.out⟩⟩
end Go.Proofs.YthpgfnhecfgiaaaGreatDoor
