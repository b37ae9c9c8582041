/-
  The document's own Decode.
-/
import Derived.Test.YthpgfnhecfgiaaaGreatDoorBaRSt
import Derived.Test.YthpgfnhecfgiaaaGreatDoorBaRTru
import Derived.Test.YthpgfnhecfgiaaaGreatDoorBaRTex
import Derived.Test.YthpgfnhecfgiaaaGreatDoorBaRPut
import Derived.Test.YthpgfnhecfgiaaaGreatDoorBaDecode
namespace Go.Proofs.YthpgfnhecfgiaaaGreatDoor
open Go.RowKit Go.Sort
set_option maxRecDepth 20000

set_option maxHeartbeats 16000000 in
theorem refDecode_any (bv : Value) (b : List Nat) (w : World) (hbv : BytesAt w bv b) : Calls Tryz.prog 6 #[bv] w (DecPost b w) := by
  obtain ⟨n, k, e5, hT⟩ := taken_any b
  have hbl : (b.length : Int) ≤ 9223372036854775807 := by have := hbv.row.le; rwa [bvals_length] at this
  have HC := fun (W : World) (h : BytesAt W bv b) => refTake_at h hT
  have hbv := Lib.hid hbv
  have HC := Lib.hid HC
  rcases hT with ⟨h1, h2, h3, h4⟩ | ⟨h1, h2, h3, h4⟩
  · have hg5 : ((e5 : Int) != 0) = false := by rw [h4]; rfl
    replace h3 := Lib.hid h3
    clear h4
    rcases Nat.lt_or_ge 200 n with hbig | hsm
    · have hg1 : decide ((200 : Int) < (n : Int)) = true := decide_eq_true (by omega)
      go_enter Tryz.func6, Tryz.ntmps6
      go_wp2_with fail
      refine (HC.out _ hbv.out).mono ?_
      rintro e w1 ⟨rfl, hb1⟩
      go_wp2
      refine bodyPost_ret (results_tmp2 rfl _ _ _) rfl ⟨hb1, .inr ⟨fun l hl => ?_, rfl⟩⟩
      obtain ⟨q1, q2, q3⟩ := hl
      rw [q3] at h2
      unfold batchB at h2
      obtain ⟨r, hr⟩ := h2
      have := (putL_free _ _ _ _ hr).1
      omega
    · have hg1 : decide ((200 : Int) < (n : Int)) = false := decide_eq_false (by omega)
      have hkl : k ≤ b.length := by rw [h3.out]; exact h2.length_le
      have hparts : Hid (∀ l, IsBatch b l → n = l.length ∧ b.drop k = numB l 21 ++ (truB l 2 ++ texB l 3)) := Lib.hid (fun l hl => by rw [h3.out]; exact hl.parts h2)
      have hpre0 := Lib.hid h2
      clear h1 h2
      go_enter Tryz.func6, Tryz.ntmps6
      go_wp2_with fail
      refine (HC.out _ hbv.out).mono ?_
      rintro e w1 ⟨rfl, hb1⟩
      clear HC
      obtain ⟨wm, hmk, hFm, hbm⟩ := run_make_ops w1 n hsm
      obtain ⟨g, hg⟩ : ∃ g, w1.heap.size = g := ⟨_, rfl⟩
      have hgB : w.heap.size ≤ g := by rw [← hg]; exact hb1.size
      have hB0 : Hid (Below w.heap.size w wm) := Lib.hid (then_call hb1 hbm)
      rw [hg] at hmk hFm
      have hll : ∀ W, (Builtin.len_ #[24] 3 #[.slice (some ⟨g, 0, none⟩) n n]).run Tryz.prog W = .ok (.int .i64 (n : Nat)) W := fun W => by
        have := (hFm.ops (Nat.le_refl _) (by unfold maxLen; omega)).len 3 W
        simpa using this
      have hixo : ∀ (j : Nat), j < n → ∀ X, (Instr.indexAt 24 (.slice (some ⟨g, 0, none⟩) n n) (.int .i64 (j : Int))).run Tryz.prog X = .ok (.pointer (some ⟨g, j * 26, none⟩)) X := fun j hj X => by
        have he : Tryz.prog.elem 24 = 42 := by kernel_rfl
        rw [run_indexAt_slice (P := Tryz.prog) X _ _ n n .i64 (j : Int) (by kernel_rfl), if_pos (by omega), he, elemO.hs]
        simp [Result.andThen, addr_at]
      obtain ⟨sl, hsl⟩ : ∃ sl, Value.slice (some ⟨g, 0, none⟩) n n = sl := ⟨_, rfl⟩
      rw [hsl] at hmk hll hixo
      have hixo := Lib.hid hixo
      have hmk := Lib.hid hmk
      have hFm := Lib.hid hFm
      have hsl := Lib.hid hsl
      clear hg hbm
      go_wp2_with (at_make; refine wpList_make_run rfl (.tmp 29) (.tmp 29) _ rfl rfl rfl hmk.out ?_)
      go_loopw [5, 8] (fun o' t wr => ∃ (c z0 : Nat) (L : Nat → List Int) (D : Nat → OpV), o' = .int .i64 (z0 : Nat) ∧ t = .int .i64 c ∧ c ≤ 21 ∧ Hid (z0 = k + (prefB L c).length) ∧ Hid (prefB L c <+: b.drop k) ∧ Hid (∀ L', NumOf (b.drop k) n L' → ∀ j, j < c → L' j = L j) ∧ Hid (Fld wr g n D) ∧ Hid (∀ j, j < c → ((L j).length = n ∧ ∀ x ∈ L j, InR x) ∧ ∀ t, t < n → (L j)[t]? = some (fld (D t) j)) ∧ Hid (Below w.heap.size w wr)) (fun _ t _ => 21 - (intOf t).toNat)
      case atStart => exact ⟨0, k, fun _ => [], fun _ => zeroO, rfl, rfl, by omega, Lib.hid rfl, Lib.hid (List.nil_prefix), Lib.hid (fun _ _ j hj => absurd hj (Nat.not_lt_zero j)), hFm, Lib.hid (fun c hc => absurd hc (Nat.not_lt_zero c)), hB0⟩
      case round =>
        clear hmk hFm hB0 hb1
        obtain ⟨c, z0, L, D, rfl, rfl, hc, hz0, hpre, huni, hFD, hnum, hB⟩ := hrel
        have hz0l : z0 ≤ b.length := by
          have := hpre.out.length_le
          rw [List.length_drop] at this
          rw [hz0.out]; omega
        by_cases hlt : c < 21
        · have hc4 : (c : Int) ≤ 20 := by omega
          obtain ⟨wa, hwa⟩ : ∃ wa, wa = wr := ⟨_, rfl⟩
          subst hwa
          obtain ⟨bv2, hcut, hbv2⟩ := (hbv.out.below hB.out).cut hz0l
          obtain ⟨x, a, e6, hK⟩ := tookCol_any (b.drop z0) n c
          have hal := hK.len.1
          rw [List.length_drop] at hal
          have hsum : (z0 : Int) + (a : Int) ≤ 9223372036854775807 := by omega
          have hgwa : Hid (g < wa.heap.size) := Lib.hid hFD.out.lt
          have hFo := fun W => refForm_any hlt W
          clear hal
          by_cases hf : formN c = 1
          · obtain ⟨d, hd, hdx⟩ := hK.runs1 hf (by omega)
            have hge : (formN c == 1) = true := by rw [hf]; rfl
            rw [hge] at hFo
            have HA := Lib.hid (fun (W : World) (h : BytesAt W bv2 (b.drop z0)) => refTakeRuns_given h hd)
            have HD := Lib.hid (fun (W : World) (h : BytesAt W bv2 (b.drop z0)) => refTakeDeltas_given h hd)
            have hbv2 := Lib.hid hbv2
            replace hf := Lib.hid hf
            replace hd := Lib.hid hd
            replace hdx := Lib.hid hdx
            clear hge
            go_wp2_with fail
            refine (HA.out _ hbv2.out).mono ?_
            rintro e w4 ⟨v4, rfl, _, hb4⟩
            have hbv4 := Lib.hid (hbv2.out.below hb4)
            have hb4 := Lib.hid hb4
            clear HA
            go_wp2_with (go_at_call 14; refine (hFo _).mono ?_; rintro e w' ⟨rfl, rfl⟩)
            refine (HD.out _ hbv4.out).mono ?_
            rintro e w5 ⟨v5, rfl, hown5, hb5⟩
            have hb45 := hb4.out.trans (hb5.mono hb4.out.size)
            rw [hdx.out] at hown5
            have hrow5 := Lib.hid (show IntsAt w5 v5 x from hown5.row)
            have hbk5 : Hid (∀ q, v5.ownBlock = some q → g ≠ q) := Lib.hid (fun q hq => by have := (OwnRow.blk hown5 q hq).1; have := hb4.out.size; have := hgwa.out; omega)
            have hF5 : Hid (Fld w5 g n D) := Lib.hid (hFD.out.turns (F := []) (Turns.of_below hb45) (by simp))
            have hB5 : Hid (Below w.heap.size w w5) := Lib.hid (then_call hB.out hb45)
            clear hown5 HD hb45 hbv4 hb4 hb5 hFo
            rcases hK with ⟨hcol, ha, he⟩ | ⟨hno, _, _, he⟩
            · have hg5 : ((e6 : Int) != 0) = false := by rw [he]; rfl
              have hxl : Hid (x.length = n) := Lib.hid hcol.1
              clear he
              replace hcol := Lib.hid hcol
              replace ha := Lib.hid ha
              go_wp2
              go_loopw [12] (fun t wx => ∃ (i : Nat) (D' : Nat → OpV), t = .int .i64 i ∧ i ≤ n ∧ Hid (Fld wx g n D') ∧ Hid (∀ t, t < i → fld (D' t) c = x.getD t 0) ∧ Hid (∀ t j, j < 21 → j ≠ c → fld (D' t) j = fld (D t) j) ∧ Hid (Turns [g] w5 wx)) (fun t _ => n - (intOf t).toNat)
              case atStart => exact ⟨0, D, rfl, Nat.zero_le _, hF5, Lib.hid (fun t ht => absurd ht (Nat.not_lt_zero t)), Lib.hid (fun _ _ _ _ => rfl), Lib.hid (Turns.refl _ _)⟩
              case round =>
                obtain ⟨i, D', rfl, hi, hFi, hdone, hrest, hTi⟩ := hrel
                by_cases hin : i < n
                · have hin4 : (i : Int) < (n : Int) := by omega
                  obtain ⟨wx, hwx⟩ : ∃ wx, wx = wr := ⟨_, rfl⟩
                  subst hwx
                  have hix := hixo.out i hin
                  have hrx : IntsAt wx v5 x := RowAt.turns hrow5.out hTi.out (fun q hq => by have := hbk5.out q hq; simp; omega)
                  obtain ⟨ad, e1, e2, e3⟩ := IntsAt.index hrx (k := i) (by rw [hxl.out]; exact hin)
                  obtain ⟨y, hy⟩ : ∃ y, x.getD i 0 = y := ⟨_, rfl⟩
                  rw [hy] at e2
                  replace hy := Lib.hid hy
                  clear hrx e3
                  go_wp2_with fail
                  refine wp_region_any (by kernel_rfl) ?_
                  change wpAny _ _ _ _ _ _ _ (World.drew _)
                  have hd : Hid (Fld wx.drew g n D') := Lib.hid (Fld.turns (F := []) hFi.out (Turns.of_below (below_drewN (Below.refl _ wx) 1)) (by simp))
                  have e2d : wx.drew.cell? ad = some (.int .i64 y) := e2
                  refine wpAny_take (i := 0) (oi := ⟨some 65, .move (.tmp 7), _, _, _, none⟩) (v := sl) rfl (by decide +kernel) (by decide +kernel) (by decide +kernel) (fun _ _ _ h => h) (.inl ⟨rfl, fun X => rfl⟩) ?_
                  try simp only [Act.put, List.setIfInBounds_toArray, List.set_cons_succ, List.set_cons_zero]
                  refine wpAny_take (i := 1) (oi := ⟨some 66, .move (.tmp 12), _, _, _, none⟩) (v := .int .i64 ((i : Nat) : Int)) rfl (by decide +kernel) (by decide +kernel) (by decide +kernel) (fun _ _ _ h => h) (.inl ⟨rfl, fun X => rfl⟩) ?_
                  try simp only [Act.put, List.setIfInBounds_toArray, List.set_cons_succ, List.set_cons_zero]
                  refine wpAny_take (i := 2) (oi := ⟨some 67, .move (.tmp 7), _, _, _, none⟩) (v := sl) rfl (by decide +kernel) (by decide +kernel) (by decide +kernel) (fun _ _ _ h => h) (.inl ⟨rfl, fun X => rfl⟩) ?_
                  try simp only [Act.put, List.setIfInBounds_toArray, List.set_cons_succ, List.set_cons_zero]
                  refine wpAny_take (i := 3) (oi := ⟨some 68, .move (.tmp 12), _, _, _, none⟩) (v := .int .i64 ((i : Nat) : Int)) rfl (by decide +kernel) (by decide +kernel) (by decide +kernel) (fun _ _ _ h => h) (.inl ⟨rfl, fun X => rfl⟩) ?_
                  try simp only [Act.put, List.setIfInBounds_toArray, List.set_cons_succ, List.set_cons_zero]
                  refine wpAny_take (i := 4) (oi := ⟨some 69, .indexAddr 24 (.tmp 67) (.tmp 68), _, _, _, none⟩) (v := .pointer (some ⟨g, i * 26, none⟩)) rfl (by decide +kernel) (by decide +kernel) (by decide +kernel) (fun _ _ _ h => h) (.inl ⟨rfl, fun X => by have e := hix; go_simp⟩) ?_
                  try simp only [Act.put, List.setIfInBounds_toArray, List.set_cons_succ, List.set_cons_zero]
                  refine wpAny_take (i := 6) (oi := ⟨some 71, .move (.tmp 8), _, _, _, none⟩) (v := .int .i64 ((c : Nat) : Int)) rfl (by decide +kernel) (by decide +kernel) (by decide +kernel) (fun _ _ _ h => h) (.inl ⟨rfl, fun X => rfl⟩) ?_
                  try simp only [Act.put, List.setIfInBounds_toArray, List.set_cons_succ, List.set_cons_zero]
                  refine wpAny_take (i := 7) (oi := ⟨some 72, .move (.tmp 9), _, _, _, none⟩) (v := v5) rfl (by decide +kernel) (by decide +kernel) (by decide +kernel) (fun _ _ _ h => h) (.inl ⟨rfl, fun X => rfl⟩) ?_
                  try simp only [Act.put, List.setIfInBounds_toArray, List.set_cons_succ, List.set_cons_zero]
                  refine wpAny_take (i := 8) (oi := ⟨some 73, .move (.tmp 12), _, _, _, none⟩) (v := .int .i64 ((i : Nat) : Int)) rfl (by decide +kernel) (by decide +kernel) (by decide +kernel) (fun _ _ _ h => h) (.inl ⟨rfl, fun X => rfl⟩) ?_
                  try simp only [Act.put, List.setIfInBounds_toArray, List.set_cons_succ, List.set_cons_zero]
                  refine wpAny_take (i := 9) (oi := ⟨some 74, .indexAddr 55 (.tmp 72) (.tmp 73), _, _, _, none⟩) (v := .pointer (some ad)) rfl (by decide +kernel) (by decide +kernel) (by decide +kernel) (fun _ _ _ h => h) (.inl ⟨rfl, fun X => by have e := e1; go_simp⟩) ?_
                  try simp only [Act.put, List.setIfInBounds_toArray, List.set_cons_succ, List.set_cons_zero]
                  refine wpAny_ready (rs := [5, 10]) (by decide +kernel) (by simp) (AllReady.cons (o := ⟨some 70, .load 42 (.tmp 69), _, _, _, none⟩) rfl (fun K hK => ?_) (AllReady.cons (o := ⟨some 75, .load 3 (.tmp 74), _, _, _, none⟩) rfl (fun K hK => ?_) AllReady.nil))
                  · refine stepR_load (x := D' i) rfl (hd.out.range hin) ?_
                    refine hK _ _ ?_
                    clear hK K
                    try simp only [Act.put, List.setIfInBounds_toArray, List.set_cons_succ, List.set_cons_zero]
                    refine wpAny_ready (rs := [10]) (by decide +kernel) (by simp) (AllReady.cons (o := ⟨some 75, .load 3 (.tmp 74), _, _, _, none⟩) rfl (fun K hK => ?_) AllReady.nil)
                    go_simp
                    refine hK _ _ ?_
                    clear hK K
                    try simp only [Act.put, List.setIfInBounds_toArray, List.set_cons_succ, List.set_cons_zero]
                    refine wpAny_ready (rs := [11]) (by decide +kernel) (by simp) (AllReady.cons (o := ⟨some 76, .call { callee := .value (.func 16), args := #[.tmp 70, .tmp 71, .tmp 75], argTypes := #[42, 3, 3] }, _, _, _, none⟩) rfl (fun K hK => ?_) AllReady.nil)
                    go_simp
                    go_at_call 16
                    refine (refPutF_any (D' i) hlt y _).mono ?_
                    rintro e w3 ⟨o', ho', rfl, hb3⟩
                    have hF3 := Lib.hid (Fld.turns (F := []) hd.out (Turns.of_below hb3) (by simp))
                    refine hK _ _ ?_
                    clear hK K
                    try simp only [Act.put, List.setIfInBounds_toArray, List.set_cons_succ, List.set_cons_zero]
                    refine wpAny_take (i := 12) (oi := ⟨some 77, .indexAddr 24 (.tmp 65) (.tmp 66), _, _, _, none⟩) (v := .pointer (some ⟨g, i * 26, none⟩)) rfl (by decide +kernel) (by decide +kernel) (by decide +kernel) (fun _ _ _ h => h) (.inl ⟨rfl, fun X => by have e := hix; go_simp⟩) ?_
                    try simp only [Act.put, List.setIfInBounds_toArray, List.set_cons_succ, List.set_cons_zero]
                    refine wpAny_ready (rs := [13]) (by decide +kernel) (by simp) (AllReady.cons (o := ⟨none, .store 42 (.tmp 77) (.tmp 76), _, _, _, none⟩) rfl (fun K hK => ?_) AllReady.nil)
                    refine stepR_store (x := o') rfl rfl (hF3.out.there hin) ?_
                    intro w4 hw4
                    have hF4 := hF3.out.putO hin o'
                    rw [hw4] at hF4
                    have hF4 := Lib.hid hF4
                    have hT4 : Hid (Turns [g] w5 w4) := Lib.hid (by rw [← hw4]; exact ((hTi.out.drew).call hb3).trans' (turnsR w3 g (opL o') (i * 26)))
                    clear hw4
                    refine hK _ _ ?_
                    clear hK K
                    try simp only [Act.put, List.setIfInBounds_toArray, List.set_cons_succ, List.set_cons_zero]
                    refine wpAny_done (by decide +kernel) ?_ _
                    go_wp2_with fail
                    rw [← Array.set!_eq_setIfInBounds] at ho'
                    replace ho' := Lib.hid ho'
                    refine ⟨⟨i + 1, fun t => if t = i then o' else D' t, by go_num, hin, hF4, Lib.hid fun t ht => ?_, Lib.hid fun t j hj hne => ?_, hT4⟩, by simp [intOf]; omega⟩
                    · show fld (if t = i then o' else D' t) c = _
                      by_cases e : t = i
                      · subst e
                        rw [if_pos rfl, hy.out]
                        exact fld_is hlt (cells_new ho'.out (offN_lt hlt))
                      · rw [if_neg e]
                        exact hdone.out t (by omega)
                    · show fld (if t = i then o' else D' t) j = _
                      by_cases e : t = i
                      · subst e
                        rw [if_pos rfl]
                        exact (fld_of hj (cells_same ho'.out (fun h => hne (offN_inj hj hlt h)))).trans (hrest.out t j hj hne)
                      · rw [if_neg e]
                        exact hrest.out t j hj hne
                  · go_simp
                    refine hK _ _ ?_
                    clear hK K
                    try simp only [Act.put, List.setIfInBounds_toArray, List.set_cons_succ, List.set_cons_zero]
                    refine wpAny_ready (rs := [5]) (by decide +kernel) (by simp) (AllReady.cons (o := ⟨some 70, .load 42 (.tmp 69), _, _, _, none⟩) rfl (fun K hK => ?_) AllReady.nil)
                    refine stepR_load (x := D' i) rfl (hd.out.range hin) ?_
                    refine hK _ _ ?_
                    clear hK K
                    try simp only [Act.put, List.setIfInBounds_toArray, List.set_cons_succ, List.set_cons_zero]
                    refine wpAny_ready (rs := [11]) (by decide +kernel) (by simp) (AllReady.cons (o := ⟨some 76, .call { callee := .value (.func 16), args := #[.tmp 70, .tmp 71, .tmp 75], argTypes := #[42, 3, 3] }, _, _, _, none⟩) rfl (fun K hK => ?_) AllReady.nil)
                    go_simp
                    go_at_call 16
                    refine (refPutF_any (D' i) hlt y _).mono ?_
                    rintro e w3 ⟨o', ho', rfl, hb3⟩
                    have hF3 := Lib.hid (Fld.turns (F := []) hd.out (Turns.of_below hb3) (by simp))
                    refine hK _ _ ?_
                    clear hK K
                    try simp only [Act.put, List.setIfInBounds_toArray, List.set_cons_succ, List.set_cons_zero]
                    refine wpAny_take (i := 12) (oi := ⟨some 77, .indexAddr 24 (.tmp 65) (.tmp 66), _, _, _, none⟩) (v := .pointer (some ⟨g, i * 26, none⟩)) rfl (by decide +kernel) (by decide +kernel) (by decide +kernel) (fun _ _ _ h => h) (.inl ⟨rfl, fun X => by have e := hix; go_simp⟩) ?_
                    try simp only [Act.put, List.setIfInBounds_toArray, List.set_cons_succ, List.set_cons_zero]
                    refine wpAny_ready (rs := [13]) (by decide +kernel) (by simp) (AllReady.cons (o := ⟨none, .store 42 (.tmp 77) (.tmp 76), _, _, _, none⟩) rfl (fun K hK => ?_) AllReady.nil)
                    refine stepR_store (x := o') rfl rfl (hF3.out.there hin) ?_
                    intro w4 hw4
                    have hF4 := hF3.out.putO hin o'
                    rw [hw4] at hF4
                    have hF4 := Lib.hid hF4
                    have hT4 : Hid (Turns [g] w5 w4) := Lib.hid (by rw [← hw4]; exact ((hTi.out.drew).call hb3).trans' (turnsR w3 g (opL o') (i * 26)))
                    clear hw4
                    refine hK _ _ ?_
                    clear hK K
                    try simp only [Act.put, List.setIfInBounds_toArray, List.set_cons_succ, List.set_cons_zero]
                    refine wpAny_done (by decide +kernel) ?_ _
                    go_wp2_with fail
                    rw [← Array.set!_eq_setIfInBounds] at ho'
                    replace ho' := Lib.hid ho'
                    refine ⟨⟨i + 1, fun t => if t = i then o' else D' t, by go_num, hin, hF4, Lib.hid fun t ht => ?_, Lib.hid fun t j hj hne => ?_, hT4⟩, by simp [intOf]; omega⟩
                    · show fld (if t = i then o' else D' t) c = _
                      by_cases e : t = i
                      · subst e
                        rw [if_pos rfl, hy.out]
                        exact fld_is hlt (cells_new ho'.out (offN_lt hlt))
                      · rw [if_neg e]
                        exact hdone.out t (by omega)
                    · show fld (if t = i then o' else D' t) j = _
                      by_cases e : t = i
                      · subst e
                        rw [if_pos rfl]
                        exact (fld_of hj (cells_same ho'.out (fun h => hne (offN_inj hj hlt h)))).trans (hrest.out t j hj hne)
                      · rw [if_neg e]
                        exact hrest.out t j hj hne
                · have hin4 : ¬ (i : Int) < (n : Int) := by omega
                  have hin' : i = n := by omega
                  rw [hin'] at hdone
                  clear hin'
                  have hcong : Hid (prefB (fun j => if j = c then x else L j) (c + 1) = prefB L c ++ colBy c x) := Lib.hid (by
                    rw [prefB, prefB_congr (L' := L) (fun j hj => by rw [if_neg (by omega)]), if_pos rfl])
                  have hdr : Hid (b.drop z0 = (b.drop k).drop (prefB L c).length) := Lib.hid (by rw [List.drop_drop, hz0.out])
                  have hBz : Hid (Below w.heap.size w wr) := Lib.hid (hB5.out.trans (hTi.out.below (by have := hB5.out.size; omega) (fun q hq => by simp at hq; omega)))
                  go_wp2
                  refine ⟨⟨c + 1, z0 + a, fun j => if j = c then x else L j, D', by go_num, by go_num, hlt, Lib.hid ?_, Lib.hid ?_, Lib.hid ?_, hFi, Lib.hid fun j hj => ?_, hBz⟩, by simp [intOf]; omega⟩
                  · rw [hcong.out, List.length_append, hz0.out, ← ha.out]; omega
                  · rw [hcong.out]
                    refine pre_join hpre.out ?_
                    rw [← hdr.out]
                    exact hcol.out.2.2
                  · intro L' h' j hj
                    show L' j = if j = c then x else L j
                    by_cases e : j = c
                    · subst e
                      rw [if_pos rfl]
                      have := h'.col hlt (huni.out L' h')
                      rw [← hdr.out] at this
                      exact this.unique hcol.out
                    · rw [if_neg e]
                      exact huni.out L' h' j (by omega)
                  · show ((if j = c then x else L j).length = n ∧ ∀ x' ∈ (if j = c then x else L j), InR x') ∧ ∀ t, t < n → (if j = c then x else L j)[t]? = some (fld (D' t) j)
                    by_cases e : j = c
                    · subst e
                      rw [if_pos rfl]
                      have hxl := hxl.out
                      refine ⟨⟨hxl, hcol.out.2.1⟩, fun t ht => ?_⟩
                      rw [hdone.out t ht, List.getD, List.getElem?_eq_getElem (by omega)]; rfl
                    · rw [if_neg e]
                      refine ⟨(hnum.out j (by omega)).1, fun t ht => ?_⟩
                      rw [hrest.out t j (by omega) e]
                      exact (hnum.out j (by omega)).2 t ht
            · have hg5 : ((e6 : Int) != 0) = true := by rw [he]; rfl
              clear he
              have hno := Lib.hid hno
              have hdr : Hid (b.drop z0 = (b.drop k).drop (prefB L c).length) := Lib.hid (by rw [List.drop_drop, hz0.out])
              go_wp2
              refine bodyPost_ret (results_tmp2 rfl _ _ _) rfl ⟨hB5.out, .inr ⟨fun l hl => ?_, rfl⟩⟩
              obtain ⟨q1, q2⟩ := hparts.out l hl
              have hN : NumOf (b.drop k) n (colL l) := by rw [q1]; exact NumOf.of hl.nums q2.symm
              have := hN.col hlt (huni.out _ hN)
              rw [← hdr.out] at this
              exact hno.out _ this
          · have hd := hK.runs0 hf
            have hge : (formN c == 1) = false := by simpa using hf
            rw [hge] at hFo
            have HA := Lib.hid (fun (W : World) (h : BytesAt W bv2 (b.drop z0)) => refTakeRuns_given (n := (n : Int)) h (.inr ⟨⟨by omega, by omega⟩, by simpa using hd⟩))
            have hbv2 := Lib.hid hbv2
            replace hf := Lib.hid hf
            replace hd := Lib.hid hd
            clear hge
            go_wp2_with fail
            refine (HA.out _ hbv2.out).mono ?_
            rintro e w5 ⟨v5, rfl, hown5, hb5⟩
            have hrow5 := Lib.hid (show IntsAt w5 v5 x from hown5.row)
            have hbk5 : Hid (∀ q, v5.ownBlock = some q → g ≠ q) := Lib.hid (fun q hq => by have := (OwnRow.blk hown5 q hq).1; have := hgwa.out; omega)
            have hF5 : Hid (Fld w5 g n D) := Lib.hid (hFD.out.turns (F := []) (Turns.of_below hb5) (by simp))
            have hB5 : Hid (Below w.heap.size w w5) := Lib.hid (then_call hB.out hb5)
            clear hown5 HA hb5
            rcases hK with ⟨hcol, ha, he⟩ | ⟨hno, _, _, he⟩
            · have hg5 : ((e6 : Int) != 0) = false := by rw [he]; rfl
              have hxl : Hid (x.length = n) := Lib.hid hcol.1
              clear he
              replace hcol := Lib.hid hcol
              replace ha := Lib.hid ha
              go_wp2_with (go_at_call 14; refine (hFo _).mono ?_; rintro e w' ⟨rfl, h7⟩; obtain rfl := h7.symm)
              go_loopw [12] (fun t wx => ∃ (i : Nat) (D' : Nat → OpV), t = .int .i64 i ∧ i ≤ n ∧ Hid (Fld wx g n D') ∧ Hid (∀ t, t < i → fld (D' t) c = x.getD t 0) ∧ Hid (∀ t j, j < 21 → j ≠ c → fld (D' t) j = fld (D t) j) ∧ Hid (Turns [g] w5 wx)) (fun t _ => n - (intOf t).toNat)
              case atStart => exact ⟨0, D, rfl, Nat.zero_le _, hF5, Lib.hid (fun t ht => absurd ht (Nat.not_lt_zero t)), Lib.hid (fun _ _ _ _ => rfl), Lib.hid (Turns.refl _ _)⟩
              case round =>
                obtain ⟨i, D', rfl, hi, hFi, hdone, hrest, hTi⟩ := hrel
                by_cases hin : i < n
                · have hin4 : (i : Int) < (n : Int) := by omega
                  obtain ⟨wx, hwx⟩ : ∃ wx, wx = wr := ⟨_, rfl⟩
                  subst hwx
                  have hix := hixo.out i hin
                  have hrx : IntsAt wx v5 x := RowAt.turns hrow5.out hTi.out (fun q hq => by have := hbk5.out q hq; simp; omega)
                  obtain ⟨ad, e1, e2, e3⟩ := IntsAt.index hrx (k := i) (by rw [hxl.out]; exact hin)
                  obtain ⟨y, hy⟩ : ∃ y, x.getD i 0 = y := ⟨_, rfl⟩
                  rw [hy] at e2
                  replace hy := Lib.hid hy
                  clear hrx e3
                  go_wp2_with fail
                  refine wp_region_any (by kernel_rfl) ?_
                  change wpAny _ _ _ _ _ _ _ (World.drew _)
                  have hd : Hid (Fld wx.drew g n D') := Lib.hid (Fld.turns (F := []) hFi.out (Turns.of_below (below_drewN (Below.refl _ wx) 1)) (by simp))
                  have e2d : wx.drew.cell? ad = some (.int .i64 y) := e2
                  refine wpAny_take (i := 0) (oi := ⟨some 65, .move (.tmp 7), _, _, _, none⟩) (v := sl) rfl (by decide +kernel) (by decide +kernel) (by decide +kernel) (fun _ _ _ h => h) (.inl ⟨rfl, fun X => rfl⟩) ?_
                  try simp only [Act.put, List.setIfInBounds_toArray, List.set_cons_succ, List.set_cons_zero]
                  refine wpAny_take (i := 1) (oi := ⟨some 66, .move (.tmp 12), _, _, _, none⟩) (v := .int .i64 ((i : Nat) : Int)) rfl (by decide +kernel) (by decide +kernel) (by decide +kernel) (fun _ _ _ h => h) (.inl ⟨rfl, fun X => rfl⟩) ?_
                  try simp only [Act.put, List.setIfInBounds_toArray, List.set_cons_succ, List.set_cons_zero]
                  refine wpAny_take (i := 2) (oi := ⟨some 67, .move (.tmp 7), _, _, _, none⟩) (v := sl) rfl (by decide +kernel) (by decide +kernel) (by decide +kernel) (fun _ _ _ h => h) (.inl ⟨rfl, fun X => rfl⟩) ?_
                  try simp only [Act.put, List.setIfInBounds_toArray, List.set_cons_succ, List.set_cons_zero]
                  refine wpAny_take (i := 3) (oi := ⟨some 68, .move (.tmp 12), _, _, _, none⟩) (v := .int .i64 ((i : Nat) : Int)) rfl (by decide +kernel) (by decide +kernel) (by decide +kernel) (fun _ _ _ h => h) (.inl ⟨rfl, fun X => rfl⟩) ?_
                  try simp only [Act.put, List.setIfInBounds_toArray, List.set_cons_succ, List.set_cons_zero]
                  refine wpAny_take (i := 4) (oi := ⟨some 69, .indexAddr 24 (.tmp 67) (.tmp 68), _, _, _, none⟩) (v := .pointer (some ⟨g, i * 26, none⟩)) rfl (by decide +kernel) (by decide +kernel) (by decide +kernel) (fun _ _ _ h => h) (.inl ⟨rfl, fun X => by have e := hix; go_simp⟩) ?_
                  try simp only [Act.put, List.setIfInBounds_toArray, List.set_cons_succ, List.set_cons_zero]
                  refine wpAny_take (i := 6) (oi := ⟨some 71, .move (.tmp 8), _, _, _, none⟩) (v := .int .i64 ((c : Nat) : Int)) rfl (by decide +kernel) (by decide +kernel) (by decide +kernel) (fun _ _ _ h => h) (.inl ⟨rfl, fun X => rfl⟩) ?_
                  try simp only [Act.put, List.setIfInBounds_toArray, List.set_cons_succ, List.set_cons_zero]
                  refine wpAny_take (i := 7) (oi := ⟨some 72, .move (.tmp 9), _, _, _, none⟩) (v := v5) rfl (by decide +kernel) (by decide +kernel) (by decide +kernel) (fun _ _ _ h => h) (.inl ⟨rfl, fun X => rfl⟩) ?_
                  try simp only [Act.put, List.setIfInBounds_toArray, List.set_cons_succ, List.set_cons_zero]
                  refine wpAny_take (i := 8) (oi := ⟨some 73, .move (.tmp 12), _, _, _, none⟩) (v := .int .i64 ((i : Nat) : Int)) rfl (by decide +kernel) (by decide +kernel) (by decide +kernel) (fun _ _ _ h => h) (.inl ⟨rfl, fun X => rfl⟩) ?_
                  try simp only [Act.put, List.setIfInBounds_toArray, List.set_cons_succ, List.set_cons_zero]
                  refine wpAny_take (i := 9) (oi := ⟨some 74, .indexAddr 55 (.tmp 72) (.tmp 73), _, _, _, none⟩) (v := .pointer (some ad)) rfl (by decide +kernel) (by decide +kernel) (by decide +kernel) (fun _ _ _ h => h) (.inl ⟨rfl, fun X => by have e := e1; go_simp⟩) ?_
                  try simp only [Act.put, List.setIfInBounds_toArray, List.set_cons_succ, List.set_cons_zero]
                  refine wpAny_ready (rs := [5, 10]) (by decide +kernel) (by simp) (AllReady.cons (o := ⟨some 70, .load 42 (.tmp 69), _, _, _, none⟩) rfl (fun K hK => ?_) (AllReady.cons (o := ⟨some 75, .load 3 (.tmp 74), _, _, _, none⟩) rfl (fun K hK => ?_) AllReady.nil))
                  · refine stepR_load (x := D' i) rfl (hd.out.range hin) ?_
                    refine hK _ _ ?_
                    clear hK K
                    try simp only [Act.put, List.setIfInBounds_toArray, List.set_cons_succ, List.set_cons_zero]
                    refine wpAny_ready (rs := [10]) (by decide +kernel) (by simp) (AllReady.cons (o := ⟨some 75, .load 3 (.tmp 74), _, _, _, none⟩) rfl (fun K hK => ?_) AllReady.nil)
                    go_simp
                    refine hK _ _ ?_
                    clear hK K
                    try simp only [Act.put, List.setIfInBounds_toArray, List.set_cons_succ, List.set_cons_zero]
                    refine wpAny_ready (rs := [11]) (by decide +kernel) (by simp) (AllReady.cons (o := ⟨some 76, .call { callee := .value (.func 16), args := #[.tmp 70, .tmp 71, .tmp 75], argTypes := #[42, 3, 3] }, _, _, _, none⟩) rfl (fun K hK => ?_) AllReady.nil)
                    go_simp
                    go_at_call 16
                    refine (refPutF_any (D' i) hlt y _).mono ?_
                    rintro e w3 ⟨o', ho', rfl, hb3⟩
                    have hF3 := Lib.hid (Fld.turns (F := []) hd.out (Turns.of_below hb3) (by simp))
                    refine hK _ _ ?_
                    clear hK K
                    try simp only [Act.put, List.setIfInBounds_toArray, List.set_cons_succ, List.set_cons_zero]
                    refine wpAny_take (i := 12) (oi := ⟨some 77, .indexAddr 24 (.tmp 65) (.tmp 66), _, _, _, none⟩) (v := .pointer (some ⟨g, i * 26, none⟩)) rfl (by decide +kernel) (by decide +kernel) (by decide +kernel) (fun _ _ _ h => h) (.inl ⟨rfl, fun X => by have e := hix; go_simp⟩) ?_
                    try simp only [Act.put, List.setIfInBounds_toArray, List.set_cons_succ, List.set_cons_zero]
                    refine wpAny_ready (rs := [13]) (by decide +kernel) (by simp) (AllReady.cons (o := ⟨none, .store 42 (.tmp 77) (.tmp 76), _, _, _, none⟩) rfl (fun K hK => ?_) AllReady.nil)
                    refine stepR_store (x := o') rfl rfl (hF3.out.there hin) ?_
                    intro w4 hw4
                    have hF4 := hF3.out.putO hin o'
                    rw [hw4] at hF4
                    have hF4 := Lib.hid hF4
                    have hT4 : Hid (Turns [g] w5 w4) := Lib.hid (by rw [← hw4]; exact ((hTi.out.drew).call hb3).trans' (turnsR w3 g (opL o') (i * 26)))
                    clear hw4
                    refine hK _ _ ?_
                    clear hK K
                    try simp only [Act.put, List.setIfInBounds_toArray, List.set_cons_succ, List.set_cons_zero]
                    refine wpAny_done (by decide +kernel) ?_ _
                    go_wp2_with fail
                    rw [← Array.set!_eq_setIfInBounds] at ho'
                    replace ho' := Lib.hid ho'
                    refine ⟨⟨i + 1, fun t => if t = i then o' else D' t, by go_num, hin, hF4, Lib.hid fun t ht => ?_, Lib.hid fun t j hj hne => ?_, hT4⟩, by simp [intOf]; omega⟩
                    · show fld (if t = i then o' else D' t) c = _
                      by_cases e : t = i
                      · subst e
                        rw [if_pos rfl, hy.out]
                        exact fld_is hlt (cells_new ho'.out (offN_lt hlt))
                      · rw [if_neg e]
                        exact hdone.out t (by omega)
                    · show fld (if t = i then o' else D' t) j = _
                      by_cases e : t = i
                      · subst e
                        rw [if_pos rfl]
                        exact (fld_of hj (cells_same ho'.out (fun h => hne (offN_inj hj hlt h)))).trans (hrest.out t j hj hne)
                      · rw [if_neg e]
                        exact hrest.out t j hj hne
                  · go_simp
                    refine hK _ _ ?_
                    clear hK K
                    try simp only [Act.put, List.setIfInBounds_toArray, List.set_cons_succ, List.set_cons_zero]
                    refine wpAny_ready (rs := [5]) (by decide +kernel) (by simp) (AllReady.cons (o := ⟨some 70, .load 42 (.tmp 69), _, _, _, none⟩) rfl (fun K hK => ?_) AllReady.nil)
                    refine stepR_load (x := D' i) rfl (hd.out.range hin) ?_
                    refine hK _ _ ?_
                    clear hK K
                    try simp only [Act.put, List.setIfInBounds_toArray, List.set_cons_succ, List.set_cons_zero]
                    refine wpAny_ready (rs := [11]) (by decide +kernel) (by simp) (AllReady.cons (o := ⟨some 76, .call { callee := .value (.func 16), args := #[.tmp 70, .tmp 71, .tmp 75], argTypes := #[42, 3, 3] }, _, _, _, none⟩) rfl (fun K hK => ?_) AllReady.nil)
                    go_simp
                    go_at_call 16
                    refine (refPutF_any (D' i) hlt y _).mono ?_
                    rintro e w3 ⟨o', ho', rfl, hb3⟩
                    have hF3 := Lib.hid (Fld.turns (F := []) hd.out (Turns.of_below hb3) (by simp))
                    refine hK _ _ ?_
                    clear hK K
                    try simp only [Act.put, List.setIfInBounds_toArray, List.set_cons_succ, List.set_cons_zero]
                    refine wpAny_take (i := 12) (oi := ⟨some 77, .indexAddr 24 (.tmp 65) (.tmp 66), _, _, _, none⟩) (v := .pointer (some ⟨g, i * 26, none⟩)) rfl (by decide +kernel) (by decide +kernel) (by decide +kernel) (fun _ _ _ h => h) (.inl ⟨rfl, fun X => by have e := hix; go_simp⟩) ?_
                    try simp only [Act.put, List.setIfInBounds_toArray, List.set_cons_succ, List.set_cons_zero]
                    refine wpAny_ready (rs := [13]) (by decide +kernel) (by simp) (AllReady.cons (o := ⟨none, .store 42 (.tmp 77) (.tmp 76), _, _, _, none⟩) rfl (fun K hK => ?_) AllReady.nil)
                    refine stepR_store (x := o') rfl rfl (hF3.out.there hin) ?_
                    intro w4 hw4
                    have hF4 := hF3.out.putO hin o'
                    rw [hw4] at hF4
                    have hF4 := Lib.hid hF4
                    have hT4 : Hid (Turns [g] w5 w4) := Lib.hid (by rw [← hw4]; exact ((hTi.out.drew).call hb3).trans' (turnsR w3 g (opL o') (i * 26)))
                    clear hw4
                    refine hK _ _ ?_
                    clear hK K
                    try simp only [Act.put, List.setIfInBounds_toArray, List.set_cons_succ, List.set_cons_zero]
                    refine wpAny_done (by decide +kernel) ?_ _
                    go_wp2_with fail
                    rw [← Array.set!_eq_setIfInBounds] at ho'
                    replace ho' := Lib.hid ho'
                    refine ⟨⟨i + 1, fun t => if t = i then o' else D' t, by go_num, hin, hF4, Lib.hid fun t ht => ?_, Lib.hid fun t j hj hne => ?_, hT4⟩, by simp [intOf]; omega⟩
                    · show fld (if t = i then o' else D' t) c = _
                      by_cases e : t = i
                      · subst e
                        rw [if_pos rfl, hy.out]
                        exact fld_is hlt (cells_new ho'.out (offN_lt hlt))
                      · rw [if_neg e]
                        exact hdone.out t (by omega)
                    · show fld (if t = i then o' else D' t) j = _
                      by_cases e : t = i
                      · subst e
                        rw [if_pos rfl]
                        exact (fld_of hj (cells_same ho'.out (fun h => hne (offN_inj hj hlt h)))).trans (hrest.out t j hj hne)
                      · rw [if_neg e]
                        exact hrest.out t j hj hne
                · have hin4 : ¬ (i : Int) < (n : Int) := by omega
                  have hin' : i = n := by omega
                  rw [hin'] at hdone
                  clear hin'
                  have hcong : Hid (prefB (fun j => if j = c then x else L j) (c + 1) = prefB L c ++ colBy c x) := Lib.hid (by
                    rw [prefB, prefB_congr (L' := L) (fun j hj => by rw [if_neg (by omega)]), if_pos rfl])
                  have hdr : Hid (b.drop z0 = (b.drop k).drop (prefB L c).length) := Lib.hid (by rw [List.drop_drop, hz0.out])
                  have hBz : Hid (Below w.heap.size w wr) := Lib.hid (hB5.out.trans (hTi.out.below (by have := hB5.out.size; omega) (fun q hq => by simp at hq; omega)))
                  go_wp2
                  refine ⟨⟨c + 1, z0 + a, fun j => if j = c then x else L j, D', by go_num, by go_num, hlt, Lib.hid ?_, Lib.hid ?_, Lib.hid ?_, hFi, Lib.hid fun j hj => ?_, hBz⟩, by simp [intOf]; omega⟩
                  · rw [hcong.out, List.length_append, hz0.out, ← ha.out]; omega
                  · rw [hcong.out]
                    refine pre_join hpre.out ?_
                    rw [← hdr.out]
                    exact hcol.out.2.2
                  · intro L' h' j hj
                    show L' j = if j = c then x else L j
                    by_cases e : j = c
                    · subst e
                      rw [if_pos rfl]
                      have := h'.col hlt (huni.out L' h')
                      rw [← hdr.out] at this
                      exact this.unique hcol.out
                    · rw [if_neg e]
                      exact huni.out L' h' j (by omega)
                  · show ((if j = c then x else L j).length = n ∧ ∀ x' ∈ (if j = c then x else L j), InR x') ∧ ∀ t, t < n → (if j = c then x else L j)[t]? = some (fld (D' t) j)
                    by_cases e : j = c
                    · subst e
                      rw [if_pos rfl]
                      have hxl := hxl.out
                      refine ⟨⟨hxl, hcol.out.2.1⟩, fun t ht => ?_⟩
                      rw [hdone.out t ht, List.getD, List.getElem?_eq_getElem (by omega)]; rfl
                    · rw [if_neg e]
                      refine ⟨(hnum.out j (by omega)).1, fun t ht => ?_⟩
                      rw [hrest.out t j (by omega) e]
                      exact (hnum.out j (by omega)).2 t ht
            · have hg5 : ((e6 : Int) != 0) = true := by rw [he]; rfl
              clear he
              have hno := Lib.hid hno
              have hdr : Hid (b.drop z0 = (b.drop k).drop (prefB L c).length) := Lib.hid (by rw [List.drop_drop, hz0.out])
              go_wp2_with (go_at_call 14; refine (hFo _).mono ?_; rintro e w' ⟨rfl, h7⟩; obtain rfl := h7.symm)
              refine bodyPost_ret (results_tmp2 rfl _ _ _) rfl ⟨hB5.out, .inr ⟨fun l hl => ?_, rfl⟩⟩
              obtain ⟨q1, q2⟩ := hparts.out l hl
              have hN : NumOf (b.drop k) n (colL l) := by rw [q1]; exact NumOf.of hl.nums q2.symm
              have := hN.col hlt (huni.out _ hN)
              rw [← hdr.out] at this
              exact hno.out _ this
        · have hc4 : ¬ (c : Int) ≤ 20 := by omega
          have hc2 : c = 21 := by omega
          rw [hc2] at hz0 hpre huni hnum
          clear hc2 hlt hc
          have hob := Lib.hid (hbv.out.blk (by have := hpre0.out.length_le; have := putL_pos n; omega))
          obtain ⟨bv2, hcut, hbv2, ho2⟩ := (hbv.out.below hB.out).tail hz0l
          have hno0 : Hid (∀ l, IsBatch b l → n = l.length ∧ (∀ j, j < 21 → L j = colL l j) ∧ b.drop z0 = truB l 2 ++ texB l 3) := Lib.hid (fun l hl => by
            obtain ⟨q1, q2⟩ := hparts.out l hl
            have hu : ∀ j, j < 21 → L j = colL l j := fun j hj => (huni.out _ (by rw [q1]; exact NumOf.of hl.nums q2.symm : NumOf (b.drop k) n (colL l)) j hj).symm
            refine ⟨q1, hu, ?_⟩
            rw [hz0.out, ← List.drop_drop, prefB_congr hu, prefB_numB, q2, List.drop_left])
          have HN2 : Calls Tryz.prog 17 #[sl, bv2] wr (RTruPost (b.drop z0) n g D wr) := by
            rw [← hsl.out]; exact refTruths_any wr hFD.out hbv2 hsm (Nat.le_refl _) (by unfold maxLen; omega)
          have hgwr : Hid (g < wr.heap.size) := Lib.hid hFD.out.lt
          clear hbv2 ho2 hFD
          go_wp2_with fail
          refine HN2.mono ?_
          clear HN2
          rintro e w2 ⟨hT2, h⟩
          have hB2 : Hid (Below w.heap.size w w2) := Lib.hid (hB.out.trans (hT2.below (by have := hB.out.size; omega) (fun q hq => by simp at hq; omega)))
          rcases h with ⟨T, D2, hTr, rfl, hF2, htru2, hsame2⟩ | ⟨hno, rfl⟩
          · obtain ⟨m2, hm2⟩ : ∃ m2, (truPre T 2).length = m2 := ⟨_, rfl⟩
            have hm2l := hTr.2.length_le
            rw [List.length_drop] at hm2l
            have hno1 : Hid (∀ l, IsBatch b l → n = l.length ∧ (∀ j, j < 21 → L j = colL l j) ∧ (∀ c, c < 2 → T c = truL l c) ∧ b.drop (z0 + m2) = texB l 3) := Lib.hid (fun l hl => by
              obtain ⟨q1, q2, q3⟩ := hno0.out l hl
              have hu := hTr.unique (by rw [q1]; exact TruOf.of q3.symm : TruOf (b.drop z0) n (truL l))
              refine ⟨q1, q2, hu, ?_⟩
              rw [← hm2, ← List.drop_drop, truPre_congr hu, truPre_truB, q3, List.drop_left])
            rw [hm2] at hm2l ⊢
            have hm2i : (z0 : Int) + (m2 : Int) ≤ 9223372036854775807 := by omega
            have hgk : decide ((m2 : Int) < 0) = false := decide_eq_false (by omega)
            replace hm2 := Lib.hid hm2
            replace hTr := Lib.hid hTr
            replace htru2 := Lib.hid htru2
            replace hsame2 := Lib.hid hsame2
            have hF2 := Lib.hid hF2
            clear hT2
            go_wp2
            go_loopw [5, 14] (fun o' t wq => ∃ (c z1 : Nat) (S : Nat → List ByteArray) (D3 : Nat → OpV), o' = .int .i64 (z1 : Nat) ∧ t = .int .i64 c ∧ c ≤ 3 ∧ Hid (z1 = z0 + m2 + (texPre S c).length) ∧ Hid (texPre S c <+: b.drop (z0 + m2)) ∧ Hid (∀ S', TexOf (b.drop (z0 + m2)) n S' → ∀ j, j < c → S' j = S j) ∧ Hid (Fld wq g n D3) ∧ Hid (∀ c', c' < c → (S c').length = n ∧ ∀ t, t < n → (S c')[t]? = some (txt (D3 t) c')) ∧ Hid (∀ t, (∀ j, j < 21 → fld (D3 t) j = fld (D2 t) j) ∧ ∀ c', truV (D3 t) c' = truV (D2 t) c') ∧ Hid (Below w.heap.size w wq)) (fun _ t _ => 3 - (intOf t).toNat)
            case atStart => exact ⟨0, z0 + m2, fun _ => [], D2, by go_num, rfl, by omega, Lib.hid rfl, Lib.hid (List.nil_prefix), Lib.hid (fun _ _ j hj => absurd hj (Nat.not_lt_zero j)), hF2, Lib.hid (fun c hc => absurd hc (Nat.not_lt_zero c)), Lib.hid (fun t => ⟨fun _ _ => rfl, fun _ => rfl⟩), hB2⟩
            case round =>
              clear hF2 hB2 hm2i
              obtain ⟨c2, z1, S, D3, rfl, rfl, hc, hz1, hpr3, huni3, hFD3, htex3, hsame3, hB3⟩ := hrel
              have hz1l : z1 ≤ b.length := by
                have := hpr3.out.length_le
                rw [List.length_drop] at this
                rw [hz1.out]; omega
              obtain ⟨wq, hwq⟩ : ∃ wq, wq = wr := ⟨_, rfl⟩
              by_cases hlt : c2 < 3
              · have hc4 : (c2 : Int) < 3 := by omega
                obtain ⟨bv3, hcut3, hbv3, ho3⟩ := (hbv.out.below hB3.out).tail hz1l
                have HX := refTexts_any hlt _ hFD3.out hbv3 (fun q hq => by have := hob.out q (ho3 q hq); simp; omega) hsm (Nat.le_refl _) (by unfold maxLen; omega)
                rw [hsl.out] at HX
                have hdr : Hid (b.drop z1 = (b.drop (z0 + m2)).drop (texPre S c2).length) := Lib.hid (by rw [List.drop_drop, hz1.out])
                clear hbv3 ho3
                go_wp2_with fail
                refine HX.mono ?_
                clear HX
                rintro e w3 ⟨hT3, h⟩
                have hB4 : Hid (Below w.heap.size w w3) := Lib.hid (hB3.out.trans (hT3.below (by have := hB3.out.size; omega) (fun q hq => by simp at hq; omega)))
                rcases h with ⟨s, D4, hsn, hsp, rfl, hF4, htx4, hsame4⟩ | ⟨hno, rfl⟩
                · obtain ⟨m3, hm3⟩ : ∃ m3, (texCol s).length = m3 := ⟨_, rfl⟩
                  have hm3l := hsp.length_le
                  rw [List.length_drop] at hm3l
                  rw [hm3] at hm3l ⊢
                  have hm3i : (z1 : Int) + (m3 : Int) ≤ 9223372036854775807 := by omega
                  have hgk3 : decide ((m3 : Int) < 0) = false := decide_eq_false (by omega)
                  replace hm3 := Lib.hid hm3
                  replace hsn := Lib.hid hsn
                  replace hsp := Lib.hid hsp
                  replace htx4 := Lib.hid htx4
                  replace hsame4 := Lib.hid hsame4
                  have hF4 := Lib.hid hF4
                  have hcong : Hid (texPre (fun j => if j = c2 then s else S j) (c2 + 1) = texPre S c2 ++ texCol s) := Lib.hid (by
                    rw [texPre, texPre_congr (L' := S) (fun j hj => by rw [if_neg (by omega)]), if_pos rfl])
                  clear hT3 hm3l
                  go_wp2
                  refine ⟨⟨c2 + 1, z1 + m3, fun j => if j = c2 then s else S j, D4, by go_num, by go_num, hlt, Lib.hid ?_, Lib.hid ?_, Lib.hid ?_, hF4, Lib.hid fun c' hc' => ?_, Lib.hid fun t => ⟨fun j hj => ((hsame4.out t).1 j hj).trans ((hsame3.out t).1 j hj), fun c' => ((hsame4.out t).2.1 c').trans ((hsame3.out t).2 c')⟩, hB4⟩, by simp [intOf]; omega⟩
                  · rw [hcong.out, List.length_append, hm3.out, hz1.out]; omega
                  · rw [hcong.out]
                    refine pre_join hpr3.out ?_
                    rw [← hdr.out]
                    exact hsp.out
                  · intro S' h' j hj
                    show S' j = if j = c2 then s else S j
                    by_cases e : j = c2
                    · subst e
                      rw [if_pos rfl]
                      have h5 := h'.col hlt (huni3.out S' h')
                      rw [← hdr.out] at h5
                      have hbz : ((b.drop z1).length : Int) ≤ 9223372036854775807 := by rw [List.length_drop]; omega
                      have h6 := (TexOf.runs (h'.1 j hlt) h5 hbz).unique (TexOf.runs hsn.out hsp.out hbz)
                      have h7 := hsp.out
                      unfold texCol at h5 h7
                      have h8 := pre_drop h5
                      have h9 := pre_drop h7
                      rw [h6] at h8
                      exact texts_same h6 h8 h9
                    · rw [if_neg e]
                      exact huni3.out S' h' j (by omega)
                  · show (if c' = c2 then s else S c').length = n ∧ ∀ t, t < n → (if c' = c2 then s else S c')[t]? = some (txt (D4 t) c')
                    by_cases e : c' = c2
                    · subst e
                      rw [if_pos rfl]
                      exact ⟨hsn.out, htx4.out⟩
                    · rw [if_neg e]
                      refine ⟨(htex3.out c' (by omega)).1, fun t ht => ?_⟩
                      rw [(hsame4.out t).2.2 c' (by omega) e]
                      exact (htex3.out c' (by omega)).2 t ht
                · have hno := Lib.hid hno
                  clear hT3
                  go_wp2
                  refine bodyPost_ret (results_tmp2 rfl _ _ _) rfl ⟨hB4.out, .inr ⟨fun l hl => ?_, rfl⟩⟩
                  obtain ⟨q1, _, _, q4⟩ := hno1.out l hl
                  have hTx : TexOf (b.drop (z0 + m2)) n (texL l) := by rw [q1]; exact TexOf.of (r := []) (by rw [List.append_nil]; exact q4.symm)
                  have h5 := hTx.col hlt (huni3.out _ hTx)
                  rw [← hdr.out] at h5
                  exact hno.out _ (hTx.1 c2 hlt) h5
              · have hc4 : ¬ (c2 : Int) < 3 := by omega
                have hc2 : c2 = 3 := by omega
                rw [hc2] at hz1 hpr3 huni3 htex3
                clear hc2 hlt hc
                have hops := hFD3.out.ops (Nat.le_refl _) (by unfold maxLen; omega)
                rw [hsl.out] at hops
                obtain ⟨l, hl⟩ : ∃ l, (List.range n).map D3 = l := ⟨_, rfl⟩
                have hlen : Hid (l.length = n) := Lib.hid (by rw [← hl]; simp)
                have hcL : Hid (∀ j, j < 21 → L j = colL l j) := Lib.hid (fun j hj => by
                  rw [← hl]
                  exact eq_map (f := fun o => fld o j) (hnum.out j hj).1.1 (fun t ht => by rw [(hnum.out j hj).2 t ht, ← (hsame2.out t).1 j hj, ← (hsame3.out t).1 j hj]))
                have hcT : Hid (∀ c, c < 2 → T c = truL l c) := Lib.hid (fun c hc => by
                  rw [← hl]
                  exact eq_map (f := fun o => if c = 0 then o.fa else o.ta) (hTr.out.1 c hc) (fun t ht => by rw [htru2.out c hc t ht, ← (hsame3.out t).2 c]; rfl))
                have hcS : Hid (∀ c, c < 3 → S c = texL l c) := Lib.hid (fun c hc => by
                  rw [← hl]
                  exact eq_map (f := fun o => txt o c) (htex3.out c hc).1 (fun t ht => (htex3.out c hc).2 t ht))
                rw [hl] at hops
                have hS : TexOf (b.drop (z0 + m2)) n S := ⟨fun c hc => (htex3.out c hc).1, hpr3.out⟩
                have hb3l : ((b.drop (z0 + m2)).length : Int) ≤ 9223372036854775807 := by rw [List.length_drop]; omega
                have hno3 : Hid (∀ l', IsBatch b l' → l.map OpC = l'.map OpC ∧ b = batchB l) := Lib.hid (fun l' hl' => by
                  obtain ⟨q1, q2, q3, q4⟩ := hno1.out l' hl'
                  have hu := hS.unique (by rw [q1]; exact TexOf.of (r := []) (by rw [List.append_nil]; exact q4.symm) : TexOf (b.drop (z0 + m2)) n (texL l')) hb3l
                  refine ⟨cols_same (by rw [hlen.out]; exact q1) (fun j hj => by rw [← hcL.out j hj]; exact q2 j hj) (fun c hc => by rw [← hcT.out c hc]; exact q3 c hc) (fun c hc => by rw [← hcS.out c hc]; exact hu c hc), ?_⟩
                  have e1 : numB l 21 = numB l' 21 := by rw [← prefB_numB, ← prefB_numB]; exact prefB_congr fun j hj => by rw [← hcL.out j hj]; exact q2 j hj
                  have e2 : truB l 2 = truB l' 2 := by rw [← truPre_truB, ← truPre_truB]; exact truPre_congr fun c hc => by rw [← hcT.out c hc]; exact q3 c hc
                  have e3 : texB l 3 = texB l' 3 := by rw [← texPre_texB, ← texPre_texB]; exact texPre_congr fun c hc => by rw [← hcS.out c hc]; exact hu c hc
                  have e4 := hl'.2.2
                  unfold batchB at e4 ⊢
                  rw [e1, e2, e3, hlen.out, q1]
                  exact e4)
                have hfit := fits_of hS hcS.out hb3l
                have HE := fun W (h : OpsAt W sl l) => refEncode_any sl l W h hfit
                have hops := Lib.hid hops
                clear hS hb3l hl hfit
                cases hq : allB_ l with
                | false =>
                  have hE : encP l = ([], 71) := by
                    unfold encP
                    rw [if_neg (by rw [hlen.out]; omega), if_neg (by rw [hq]; decide)]
                  rw [hE] at HE
                  have hq := Lib.hid hq
                  clear hE
                  go_wp2_with fail
                  refine (HE _ hops.out).mono ?_
                  rintro e w5 ⟨v5, rfl, _, hb5⟩
                  clear HE
                  go_wp2
                  refine bodyPost_ret (results_tmp2 rfl _ _ _) rfl ⟨then_call hB3.out hb5, .inr ⟨fun l' hl' => ?_, rfl⟩⟩
                  have := allB_congr (hno3.out l' hl').1
                  rw [hq.out, hl'.2.1] at this
                  cases this
                | true =>
                  have hE : encP l = (batchB l, 0) := by
                    unfold encP
                    rw [if_neg (by rw [hlen.out]; omega), if_pos hq]
                  rw [hE] at HE
                  have hq := Lib.hid hq
                  clear hE
                  obtain ⟨p, hp⟩ : ∃ p, batchB l = p := ⟨_, rfl⟩
                  have hpb : Hid (∀ x ∈ p, x < 256) := Lib.hid (by rw [← hp]; exact batchB_byte l)
                  rw [hp] at HE
                  go_wp2_with fail
                  refine (HE _ hops.out).mono ?_
                  rintro e w5 ⟨v5, rfl, ho5, hb5⟩
                  have hbp := run_bytes (ho5.bytes hpb.out)
                  have hB5 := Lib.hid (then_call hB3.out hb5)
                  have hbb := run_bytes (hbv.out.below hB5.out)
                  have hops5 := Lib.hid (hops.out.below hb5)
                  obtain ⟨s1, hs1⟩ : ∃ s1, strB p = s1 := ⟨_, rfl⟩
                  obtain ⟨s2, hs2⟩ : ∃ s2, strB b = s2 := ⟨_, rfl⟩
                  rw [hs1] at hbp
                  rw [hs2] at hbb
                  clear HE ho5 hb5
                  by_cases hpe : p = b
                  · have hse : s1 = s2 := by rw [← hs1, ← hs2, hpe]
                    subst hse
                    have hbe : (s1.toList == s1.toList) = true := by simp
                    replace hs1 := Lib.hid hs1
                    replace hs2 := Lib.hid hs2
                    replace hpe := Lib.hid hpe
                    replace hp := Lib.hid hp
                    go_wp2
                    refine bodyPost_ret (results_tmp2 rfl _ _ _) rfl ⟨hB5.out, .inl ⟨l, sl, ⟨by rw [hlen.out]; exact hsm, hq.out, by rw [hp.out]; exact hpe.out.symm⟩, rfl, hops5.out⟩⟩
                  · have hse : ¬ s1 = s2 := fun h => hpe (by
                      have h3 := congrArg strN (by rw [hs1, hs2, h] : strB p = strB b)
                      rwa [strN_strB hpb.out, strN_strB hbv.out.byte] at h3)
                    have hbe := (Lib.bytes_beq_false_iff s1 s2).2 hse
                    replace hs1 := Lib.hid hs1
                    replace hs2 := Lib.hid hs2
                    replace hpe := Lib.hid hpe
                    replace hp := Lib.hid hp
                    replace hse := Lib.hid hse
                    go_wp2
                    refine bodyPost_ret (results_tmp2 rfl _ _ _) rfl ⟨hB5.out, .inr ⟨fun l' hl' => ?_, rfl⟩⟩
                    exact hpe.out (by rw [← hp.out]; exact (hno3.out l' hl').2.symm)
          · have hno := Lib.hid hno
            clear hT2
            go_wp2
            refine bodyPost_ret (results_tmp2 rfl _ _ _) rfl ⟨hB2.out, .inr ⟨fun l hl => ?_, rfl⟩⟩
            obtain ⟨q1, _, q3⟩ := hno0.out l hl
            exact hno.out (truL l) (by rw [q1]; exact TruOf.of q3.symm)
  · have hg5 : ((e5 : Int) != 0) = true := by rw [h4]; rfl
    clear h2 h3 h4
    go_enter Tryz.func6, Tryz.ntmps6
    go_wp2_with fail
    refine (HC.out _ hbv.out).mono ?_
    rintro e w1 ⟨rfl, hb1⟩
    go_wp2
    refine bodyPost_ret (results_tmp2 rfl _ _ _) rfl ⟨hb1, .inr ⟨fun l hl => ?_, rfl⟩⟩
    obtain ⟨q1, q2, q3⟩ := hl
    exact h1 l.length (by omega) (by rw [q3]; exact List.prefix_append _ _)
end Go.Proofs.YthpgfnhecfgiaaaGreatDoor
