/-
  What the program's own disk answers and leaves: Make, Rename, Remove.
-/
import Derived.Test.YtpkiapjcilapoaaFkCalls
namespace Go.Proofs.Ytpkiapjcilapoaa
open Go.RowKit Go.Sort Go.Maps

theorem keyL_inj {a b : ByteArray} (h : keyL a = keyL b) : a = b := by
  unfold keyL at h
  injection h with h
  cases a; cases b
  simp_all [Array.toList_inj]
theorem keyL_key (a : ByteArray) : WideAt.IsKeyLit (keyL a) := by simp [keyL, WideAt.IsKeyLit]
theorem isMap_doN {D : DW} (h : IsMap D) (a : Nam) : IsMap (doN D a) := by
  unfold doN
  split
  · exact h.del _
  · exact (h.del _).put _ _
theorem isMap_names : ∀ (l : List Nam), IsMap (namesOf l) := by
  suffices h : ∀ (l : List Nam) (D : DW), IsMap D → IsMap (l.foldl doN D) from fun l => h l _ isMap_empty
  intro l
  induction l with
  | nil => exact fun D h => h
  | cons a t ih => exact fun D h => ih _ (isMap_doN h a)

/-- Where a name's file lies, behind a change of names. -/
theorem fileAt_doN {D : DW} (h : IsMap D) (a : Nam) (nm : ByteArray) :
    fileAt (doN D a) nm = if nm = a.to ∧ a.to ≠ ByteArray.empty then some a.q else if nm = a.from_ then none else fileAt D nm := by
  have hd : ∀ x, fileAt (D.del (keyL a.from_)) x = if x = a.from_ then none else fileAt D x := by
    intro x
    by_cases hx : x = a.from_
    · rw [if_pos hx, hx]
      unfold fileAt
      rw [show (Lit.string a.from_.data.toList) = keyL a.from_ from rfl, atKey_del_same]
    · rw [if_neg hx]
      unfold fileAt
      rw [show (Lit.string x.data.toList) = keyL x from rfl, atKey_del_other (fun e => hx (keyL_inj e))]
  unfold doN
  by_cases ht : a.to = ByteArray.empty
  · rw [if_pos ht, if_neg (fun hh => hh.2 ht), hd]
  · rw [if_neg ht]
    by_cases hn : nm = a.to
    · rw [if_pos ⟨hn, ht⟩, hn]
      unfold fileAt
      rw [show (Lit.string a.to.data.toList) = keyL a.to from rfl, atKey_put_same (h.del _) (keyL_key _)]
      simp
    · rw [if_neg (fun hh => hn hh.1), ← hd]
      unfold fileAt
      rw [show (Lit.string nm.data.toList) = keyL nm from rfl, atKey_put_other (fun e => hn (keyL_inj e))]

theorem Named.doN {D : DW} {fs : List CFile} (h : Named D fs) (hD : IsMap D) (a : Nam) (hq : a.to ≠ ByteArray.empty → ∃ f ∈ fs, f.q = a.q) (hone : a.to ≠ ByteArray.empty → ∀ x, fileAt D x = some a.q → x = a.from_) : Named (Go.Proofs.Ytpkiapjcilapoaa.doN D a) fs := by
  refine ⟨fun nm q hn => ?_, fun x y q hx hy => ?_⟩
  · rw [fileAt_doN hD] at hn
    split at hn
    · rename_i k
      injection hn with hn
      subst hn
      exact hq k.2
    · split at hn
      · cases hn
      · exact h.file nm q hn
  · rw [fileAt_doN hD] at hx hy
    split at hx
    · rename_i k1
      injection hx with hx
      subst hx
      split at hy
      · rename_i k2
        rw [k1.1, k2.1]
      · split at hy
        · cases hy
        · rename_i k3
          exact absurd (hone k1.2 y hy) k3
    · split at hx
      · cases hx
      · rename_i k1
        split at hy
        · rename_i k2
          injection hy with hy
          subst hy
          exact absurd (hone k2.2 x hx) k1
        · split at hy
          · cases hy
          · exact h.one x y q hx hy

theorem right_ne {nm : ByteArray} (h : rightF nm = true) : nm ≠ ByteArray.empty := by
  rintro rfl
  have := of_decide_eq_true h
  simp at this
theorem right_size {nm : ByteArray} (h : rightF nm = true) : nm.size ≤ maxLen := by
  have := of_decide_eq_true h
  unfold maxLen; omega
theorem empty_size : ByteArray.empty.size ≤ maxLen := by simp [maxLen]

set_option maxRecDepth 20000 in
set_option maxHeartbeats 4000000 in
theorem remove_any {n p : Nat} {w : World} {d : CDisk} (h : DiskK n w p d) (hs : Small d) (nm : ByteArray) (hz : nm.size ≤ maxLen) :
    Calls Try.prog 40 #[.pointer (some ⟨p, 0, none⟩), .string nm] w fun e w' =>
      (findK d nm = none ∧ e = .returned (.int .i64 61) ∧ w' = w) ∨
      (∃ q mb' cv' kv', findK d nm = some q ∧ e = .returned (.int .i64 0) ∧ DidK n p d (changed (tick d) mb' cv' kv' ⟨q, nm, ByteArray.empty⟩) w w') := by
  have cF := Lib.hid (find_any h nm hz)
  cases hfk : findK d nm with
  | none =>
    rw [hfk] at cF
    simp only [ptrV, Option.isSome] at cF
    clear hs h
    go_enter Try.func40, Try.ntmps40
    go_wp2_with (go_at_call 47; refine cF.out.mono ?_; rintro e w2 ⟨rfl, rfl⟩)
    go_ret
    exact .inl ⟨by trivial, rfl, rfl⟩
  | some q =>
    rw [hfk] at cF
    simp only [ptrV, Option.isSome] at cF
    have c4 := h.c4
    have f4 := h.fz 4
    have hp := h.plt
    have hk := h.tick
    have hcl := hs.calls
    have hnl := hs.nam
    have hksl := hs.ks
    obtain ⟨W1, hW1⟩ : ∃ W1, (w.setCell ⟨p, 4, none⟩ (.int .i64 ((d.calls : Int) + 1))) = W1 := ⟨_, rfl⟩
    rw [hW1] at hk
    have cS := Lib.hid (change_any hk.1 (by show d.nam.length ≤ _; omega) (by show d.ks.length ≤ _; omega) ⟨q, nm, ByteArray.empty⟩ hz empty_size (by
      show Named (namesOf (d.nam ++ [_])) d.fs
      rw [namesOf_snoc]
      exact h.named.doN (isMap_names _) _ (fun hh => absurd rfl hh) (fun hh => absurd rfl hh)))
    have hk := Lib.hid hk
    clear hs h
    go_enter Try.func40, Try.ntmps40
    go_wp2_with (first
      | (go_at_call 47; refine cF.out.mono ?_; rintro e w2 ⟨rfl, rfl⟩)
      | (go_at_call 30; refine cS.out.mono ?_; rintro e w2 ⟨rfl, mb', cv', kv', j1, j2⟩))
    go_ret
    exact .inr ⟨q, mb', cv', kv', rfl, rfl, hk.out.trans j2⟩

set_option maxRecDepth 20000 in
set_option maxHeartbeats 4000000 in
theorem rename_any {n p : Nat} {w : World} {d : CDisk} (h : DiskK n w p d) (hs : Small d) (old nm : ByteArray) (hzo : old.size ≤ maxLen) (hz : nm.size ≤ 9223372036854775807) :
    Calls Try.prog 38 #[.pointer (some ⟨p, 0, none⟩), .string old, .string nm] w fun e w' =>
      (rightF nm = false ∧ e = .returned (.int .i64 63) ∧ Below w.heap.size w w') ∨ (rightF nm = true ∧ findK d old = none ∧ e = .returned (.int .i64 61) ∧ Below w.heap.size w w') ∨
      (∃ q mb' cv' kv', rightF nm = true ∧ findK d old = some q ∧ e = .returned (.int .i64 0) ∧ DidK n p d (changed (tick d) mb' cv' kv' ⟨q, old, nm⟩) w w') := by
  have cR := Lib.hid (nameRight_any nm w hz)
  rcases Bool.eq_false_or_eq_true (rightF nm) with hR | hR
  · rw [hR] at cR
    have hRH := Lib.hid hR
    have hnz := right_size hR
    have hne := right_ne hR
    clear hR
    have hfd := fun (W : World) (hW : Below w.heap.size w W) => find_any (h.below hW) old hzo
    cases hfk : findK d old with
    | none =>
      rw [hfk] at hfd
      simp only [ptrV, Option.isSome] at hfd
      have cF := Lib.hid hfd
      clear hs h hfd
      go_enter Try.func38, Try.ntmps38
      go_wp2_with (first
        | (go_at_call 50; refine cR.out.mono ?_; rintro e w1 ⟨rfl, hb1⟩)
        | (go_at_call 47; refine (cF.out _ hb1).mono ?_; rintro e w2 ⟨rfl, rfl⟩))
      go_ret
      exact .inr (.inl ⟨hRH.out, by trivial, rfl, hb1⟩)
    | some q =>
      rw [hfk] at hfd
      simp only [ptrV, Option.isSome] at hfd
      have cF := Lib.hid hfd
      have hcl := hs.calls
      have hnl := hs.nam
      have hksl := hs.ks
      have hN : Named (namesOf ((tick d).nam ++ [⟨q, old, nm⟩])) (tick d).fs := by
        show Named (namesOf (d.nam ++ [_])) d.fs
        rw [namesOf_snoc]
        exact h.named.doN (isMap_names _) _ (fun _ => h.named.file old q hfk) (fun _ x hx => h.named.one x old q hx hfk)
      have hK := Lib.hid (fun (W : World) (hW : Below w.heap.size w W) => (h.below hW).tick)
      have hC := Lib.hid (fun (W : World) (hW : DiskK n W p (tick d)) => change_any hW (by show d.nam.length ≤ _; omega) (by show d.ks.length ≤ _; omega) ⟨q, old, nm⟩ hzo hnz hN)
      have h := Lib.hid h
      clear hs hfd
      go_enter Try.func38, Try.ntmps38
      go_wp2_with (first
        | (go_at_call 50; refine cR.out.mono ?_; rintro e w1 ⟨rfl, hb1⟩; have c4 := (h.out.below hb1).c4; have f4 := (h.out.below hb1).fz 4; have hp := (h.out.below hb1).plt; have hk := Lib.hid (hK.out _ hb1))
        | (go_at_call 47; refine (cF.out _ hb1).mono ?_; rintro e w2 ⟨rfl, rfl⟩)
        | (go_at_call 30; refine (hC.out _ hk.out.1).mono ?_; rintro e w2 ⟨rfl, mb', cv', kv', j1, j2⟩))
      go_ret
      exact .inr (.inr ⟨q, mb', cv', kv', hRH.out, rfl, rfl, (DidK.below h.out hb1).trans (hk.out.trans j2)⟩)
  · rw [hR] at cR
    have hRH := Lib.hid hR
    clear hR hs h
    go_enter Try.func38, Try.ntmps38
    go_wp2_with (go_at_call 50; refine cR.out.mono ?_; rintro e w1 ⟨rfl, hb1⟩)
    go_ret
    exact .inl ⟨hRH.out, rfl, hb1⟩

theorem named_lt {n p : Nat} {w : World} {d : CDisk} (h : DiskK n w p d) {nm : ByteArray} {q : Nat} (hf : findK d nm = some q) : q < w.heap.size := by
  obtain ⟨f, hfs, rfl⟩ := h.named.file nm q hf
  exact h.wlt f.q (CDisk.wb_file hfs f.q (by simp [CFile.wb]))

theorem make_change {n p : Nat} {W : World} {d : CDisk} (hW : DiskK n W p (tick d)) (hnl : d.nam.length ≤ 8000) (hksl : d.ks.length ≤ 8000) (nm : ByteArray) (hnz : nm.size ≤ maxLen) (q : Nat) (hq : q = W.heap.size) :
    Calls Try.prog 30 #[.pointer (some ⟨p, 0, none⟩), .agg #[.pointer (some ⟨q, 0, none⟩), .string ByteArray.empty, .string nm]] (W.alloc (.cells #[.slice none 0 0, .slice none 0 0, .slice none 0 0, .int .i64 0] 77)) fun e w' => e = .returned (.tuple #[]) ∧
      ∃ mb' cv' kv', DidK n p (tick d) (changed { tick d with fs := d.fs ++ [newFile q] } mb' cv' kv' ⟨q, ByteArray.empty, nm⟩) W w' := by
  subst hq
  obtain ⟨k1, k2⟩ := hW.addFile (d' := { tick d with fs := d.fs ++ [newFile W.heap.size] }) rfl
  have hN : Named (namesOf (d.nam ++ [⟨W.heap.size, ByteArray.empty, nm⟩])) (d.fs ++ [newFile W.heap.size]) := by
    rw [namesOf_snoc]
    refine Named.doN ⟨fun x q hx => ?_, hW.named.one⟩ (isMap_names _) _ (fun _ => ⟨newFile W.heap.size, by simp, rfl⟩) (fun _ x hx => ?_)
    · obtain ⟨f, hf, e⟩ := hW.named.file x q hx
      exact ⟨f, List.mem_append_left _ hf, e⟩
    · have := named_lt hW (nm := x) hx
      simp only at this
      omega
  refine (change_any k1 (by show d.nam.length ≤ _; omega) (by show d.ks.length ≤ _; omega) ⟨W.heap.size, ByteArray.empty, nm⟩ empty_size hnz hN).mono ?_
  rintro e w2 ⟨rfl, mb', cv', kv', _, j⟩
  refine ⟨rfl, mb', cv', kv', ?_⟩
  have j0 : DidK n p (tick d) { tick d with fs := d.fs ++ [newFile W.heap.size] } W (W.alloc (.cells #[.slice none 0 0, .slice none 0 0, .slice none 0 0, .int .i64 0] 77)) := ⟨k1, .of_below (below_box1 _ _), k2⟩
  exact j0.trans j

set_option maxRecDepth 20000 in
set_option maxHeartbeats 1000000 in
theorem make_ok {n p : Nat} {w : World} {d : CDisk} (h : DiskK n w p d) (hs : Small d) (nm : ByteArray) (hz : nm.size ≤ 9223372036854775807) (hR : rightF nm = true) (hfk : findK d nm = none) (h8 : Maps.size (namesOf d.nam) < 8) :
    Calls Try.prog 21 #[.pointer (some ⟨p, 0, none⟩), .string nm] w fun e w' =>
      e = .returned (.int .i64 0) ∧ ∃ q mb' cv' kv', w.heap.size ≤ q ∧ DidK n p d (changed { tick d with fs := d.fs ++ [newFile q] } mb' cv' kv' ⟨q, ByteArray.empty, nm⟩) w w' := by
  have cR := Lib.hid (nameRight_any nm w hz)
  rw [hR] at cR
  have hnz := right_size hR
  have hne := right_ne hR
  clear hR
  have hlk := Lib.hid (fun (W : World) (hW : Below w.heap.size w W) => (h.below hW).map.look hnz)
  have hf0 : fileAt (namesOf d.nam) nm = none := hfk
  rw [hf0] at hlk
  simp only [ptrV] at hlk
  have hle := Lib.hid (fun (W : World) (hW : Below w.heap.size w W) (ty : TypeId) => (h.below hW).map.len ty)
  obtain ⟨N, hN⟩ : ∃ N, Maps.size (namesOf d.nam) = N := ⟨_, rfl⟩
  rw [hN] at hle h8
  have hcl := hs.calls
  have hnl := hs.nam
  have hksl := hs.ks
  have hK := Lib.hid (fun (W : World) (hW : Below w.heap.size w W) => (h.below hW).tick)
  have hC := Lib.hid (fun (W : World) (hW : DiskK n W p (tick d)) (q : Nat) (hq : q = W.heap.size) => make_change hW (by omega) (by omega) nm hnz q hq)
  have h := Lib.hid h
  clear hs hN hf0
  go_enter Try.func21, Try.ntmps21
  go_wp2_with (first
    | (go_at_call 50; refine cR.out.mono ?_; rintro e w1 ⟨rfl, hb1⟩; have c0 := (h.out.below hb1).c0; have c4 := (h.out.below hb1).c4; have f4 := (h.out.below hb1).fz 4; have hp := (h.out.below hb1).plt; have hk := Lib.hid (hK.out _ hb1); have hl1 := hlk.out _ hb1; have hl2 := hle.out _ hb1)
    | (go_at_call 30; refine (hC.out _ hk.out.1 _ (set_size _ _ _)).mono ?_; rintro e w2 ⟨rfl, mb', cv', kv', j2⟩))
  go_ret
  exact ⟨rfl, _, mb', cv', kv', hb1.size, (DidK.below h.out hb1).trans (hk.out.trans j2)⟩

set_option maxRecDepth 20000 in
set_option maxHeartbeats 1000000 in
theorem make_no {n p : Nat} {w : World} {d : CDisk} (h : DiskK n w p d) (nm : ByteArray) (hz : nm.size ≤ 9223372036854775807) {e0 : Nat}
    (hw : (rightF nm = false ∧ e0 = 63) ∨ (rightF nm = true ∧ (∃ q, findK d nm = some q) ∧ e0 = 1) ∨ (rightF nm = true ∧ findK d nm = none ∧ 8 ≤ Maps.size (namesOf d.nam) ∧ e0 = 62)) :
    Calls Try.prog 21 #[.pointer (some ⟨p, 0, none⟩), .string nm] w (Ret (.int .i64 (e0 : Nat)) w) := by
  have cR := Lib.hid (nameRight_any nm w hz)
  rcases hw with ⟨hR, rfl⟩ | ⟨hR, ⟨q, hfk⟩, rfl⟩ | ⟨hR, hfk, h8, rfl⟩
  · rw [hR] at cR
    clear hR h
    go_enter Try.func21, Try.ntmps21
    go_wp2_with (go_at_call 50; refine cR.out.mono ?_; rintro e w1 ⟨rfl, hb1⟩)
    go_ret
    exact ⟨rfl, hb1⟩
  · rw [hR] at cR
    have hnz := right_size hR
    have hlk := Lib.hid (fun (W : World) (hW : Below w.heap.size w W) => (h.below hW).map.look hnz)
    have hf0 : fileAt (namesOf d.nam) nm = some q := hfk
    rw [hf0] at hlk
    simp only [ptrV] at hlk
    have h := Lib.hid h
    clear hR hf0 hfk
    go_enter Try.func21, Try.ntmps21
    go_wp2_with (go_at_call 50; refine cR.out.mono ?_; rintro e w1 ⟨rfl, hb1⟩; have c0 := (h.out.below hb1).c0; have hl1 := hlk.out _ hb1)
    go_ret
    exact ⟨rfl, hb1⟩
  · rw [hR] at cR
    have hnz := right_size hR
    have hlk := Lib.hid (fun (W : World) (hW : Below w.heap.size w W) => (h.below hW).map.look hnz)
    have hf0 : fileAt (namesOf d.nam) nm = none := hfk
    rw [hf0] at hlk
    simp only [ptrV] at hlk
    have hle := Lib.hid (fun (W : World) (hW : Below w.heap.size w W) (ty : TypeId) => (h.below hW).map.len ty)
    obtain ⟨N, hN⟩ : ∃ N, Maps.size (namesOf d.nam) = N := ⟨_, rfl⟩
    rw [hN] at hle h8
    have h := Lib.hid h
    clear hR hf0 hfk hN
    go_enter Try.func21, Try.ntmps21
    go_wp2_with (go_at_call 50; refine cR.out.mono ?_; rintro e w1 ⟨rfl, hb1⟩; have c0 := (h.out.below hb1).c0; have hl1 := hlk.out _ hb1; have hl2 := hle.out _ hb1)
    go_ret
    exact ⟨rfl, hb1⟩
end Go.Proofs.Ytpkiapjcilapoaa
