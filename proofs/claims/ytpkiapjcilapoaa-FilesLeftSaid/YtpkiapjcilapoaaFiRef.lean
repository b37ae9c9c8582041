/-
  Names and steps, the document's own answer: find, without, named, now.
-/
import Derived.Test.YtpkiapjcilapoaaFiNum
import Derived.Deep.QuietTactic
import Derived.BigQuiet
import Derived.Lib.SlicesS
namespace Go.Proofs.Ytpkiapjcilapoaa
open Go.RowKit Go.Sort

theorem elemN : ElemK Try.prog 86 89 (.agg #[.string ByteArray.empty, .int .i64 0]) 2 24 := ⟨Try.underlying86, by kernel_rfl, rfl, by omega, by omega, fun W => by kernel_rfl⟩
theorem elemS : ElemK Try.prog 26 85 (.agg #[.int .i64 0, .int .i64 0, .string ByteArray.empty, .slice none 0 0]) 4 56 := ⟨Try.underlying26, by kernel_rfl, rfl, by omega, by omega, fun W => by kernel_rfl⟩

theorem NamesAt.len {w : World} {v : Value} {l : Nms} (h : NamesAt w v l) {ty : TypeId} (W : World) : (Builtin.len_ #[86] ty #[v]).run Try.prog W = .ok (.int .i64 (l.length : Nat)) W := by
  have := RowsAt.len h elemN.ht (ty := ty) W; rwa [List.length_map] at this
theorem StepsAt.len {w : World} {v : Value} {L : List FStep} (h : StepsAt w v L) {ty : TypeId} (W : World) : (Builtin.len_ #[26] ty #[v]).run Try.prog W = .ok (.int .i64 (L.length : Nat)) W := by
  have := RowsAt.len h elemS.ht (ty := ty) W; rwa [List.length_map] at this

set_option maxRecDepth 20000 in
set_option maxHeartbeats 1000000 in
theorem refFind_any (v : Value) (l : Nms) (n : ByteArray) (w : World) (hv : NamesAt w v l) :
    Calls Try.prog 63 #[v, .string n] w fun e w' => e = .returned (.int .i64 (findF l n)) ∧ w = w' := by
  have hlv := fun W => hv.len (ty := 3) W
  have hle := hv.le
  rw [List.length_map] at hle
  have hv := Lib.hid hv
  go_enter Try.func63, Try.ntmps63
  go_wp2
  go_loop [5] (fun t => ∃ i : Nat, t = .int .i64 i ∧ i ≤ l.length ∧ Hid (findF l n = findF (l.drop i) n)) (fun t => l.length - (intOf t).toNat)
  case atStart => exact ⟨0, rfl, by omega, Lib.hid (by simp)⟩
  case round =>
    obtain ⟨i, rfl, hi, hso⟩ := hrel
    rcases Nat.lt_or_ge i l.length with hil | hil
    · obtain ⟨p, hp⟩ : ∃ p, l[i]? = some p := ⟨_, List.getElem?_eq_getElem hil⟩
      obtain ⟨b, off, hix, hc, _, _⟩ := hv.out.index elemN.ht elemN.hs (names_at hp)
      have hc0 : w.cell? ⟨b, off, none⟩ = some (.string p.1) := hc 0 _ rfl
      have hc1 : w.cell? ⟨b, off + 1, none⟩ = some (.int .i64 (p.2 : Nat)) := hc 1 _ rfl
      have hd := findF_drop (n := n) hil hp
      obtain ⟨pn, pf⟩ := p
      dsimp only at hc0 hc1 hd
      clear hc hp
      by_cases hn : pn = n
      · subst hn
        rw [if_pos rfl] at hd
        have hres := Lib.hid (hso.out.trans hd)
        clear hd hso
        go_wp2
        go_ret
        exact ⟨by rw [hres.out]; rfl, rfl⟩
      · rw [if_neg hn] at hd
        have hnext := Lib.hid (hso.out.trans hd)
        clear hd hso
        have hq := str_ne hn
        have hq2 := (Lib.bytes_beq_false_iff pn n).2 hn
        go_wp2
        exact ⟨⟨i + 1, by go_num, by omega, hnext⟩, by simp [intOf]; omega⟩
    · have hres : Hid (findF l n = -1) := Lib.hid (by rw [hso.out, List.drop_eq_nil_of_le hil]; rfl)
      clear hso
      go_wp2
      go_ret
      exact ⟨by rw [hres.out]; rfl, rfl⟩
theorem own_below {k base : Nat} {w w' : World} {e : TypeId} {v : Value} {xs : List (List Value)} (h : OwnRows w base e k v xs) (ht : Turns v.ownBlock.toList w w') (hb : base ≤ w.heap.size) : Below base w w' :=
  ht.below hb (fun b hm => (h.block b (by simpa using hm)).1)

theorem nm_one (p : ByteArray × Nat) : ∀ y ∈ [nmCells p], ∀ u ∈ y, u.oneCell' = true := by
  intro y hy u hu
  simp at hy
  subst hy
  simp [nmCells] at hu
  rcases hu with rfl | rfl <;> rfl
theorem nm_box (w : World) (e : TypeId) (p : ByteArray × Nat) : RowsAt 2 (w.alloc (.cells #[.string p.1, .int .i64 (p.2 : Nat)] e)) (.slice (some ⟨w.heap.size, 0, none⟩) 1 1) [nmCells p] := rows_box w e (nmCells p) rfl _ rfl
theorem nms_app (l : Nms) (p : ByteArray × Nat) : (l ++ [p]).map nmCells = l.map nmCells ++ [nmCells p] := by simp
set_option maxRecDepth 20000 in
set_option maxHeartbeats 1000000 in
theorem refWithout_any (v : Value) (l : Nms) (n : ByteArray) (w : World) (hv : NamesAt w v l) (hl : l.length ≤ 100000) :
    Calls Try.prog 60 #[v, .string n] w fun e w' => ∃ v', e = .returned v' ∧ OwnRows w' w.heap.size 89 2 v' ((withoutF l n).map nmCells) ∧ Below w.heap.size w w' := by
  have hlv := fun W => hv.len (ty := 3) W
  have hv := Lib.hid hv
  go_enter Try.func60, Try.ntmps60
  go_wp2
  go_loopw [5, 6] (fun o' t wr => ∃ (o : Value) (i : Nat), o = o' ∧ t = .int .i64 i ∧ i ≤ l.length ∧ OwnRows wr w.heap.size 89 2 o ((withoutF (l.take i) n).map nmCells) ∧ Below w.heap.size w wr) (fun _ t _ => l.length - (intOf t).toNat)
  case atStart => exact ⟨_, 0, rfl, rfl, by omega, by simpa [withoutF] using OwnRows.none_ _ _ _ _, Below.refl _ _⟩
  case round =>
    obtain ⟨o, i, rfl, rfl, hi, hown, hbel⟩ := hrel
    rcases Nat.lt_or_ge i l.length with hil | hil
    · obtain ⟨p, hp⟩ : ∃ p, l[i]? = some p := ⟨_, List.getElem?_eq_getElem hil⟩
      obtain ⟨b, off, hix, hc, _, _⟩ := (RowsAt.below hv.out hbel).index elemN.ht elemN.hs (names_at hp)
      have hc0 : wr.cell? ⟨b, off, none⟩ = some (.string p.1) := hc 0 _ rfl
      have hc1 : wr.cell? ⟨b, off + 1, none⟩ = some (.int .i64 (p.2 : Nat)) := hc 1 _ rfl
      have hd := withoutF_snoc (l.take i) p n
      rw [← take_snoc hp] at hd
      have hlen : ((withoutF (l.take i) n).map nmCells).length ≤ 100000 := by have := withoutF_len (l.take i) n; rw [List.length_take] at this; rw [List.length_map]; omega
      obtain ⟨pn, pf⟩ := p
      dsimp only at hc0 hc1 hd
      clear hc hp
      by_cases hn : pn = n
      · rw [if_neg (fun h => h hn)] at hd
        have hd := Lib.hid hd
        subst hn
        have hq : (pn.toList == pn.toList) = true := by simp
        go_wp2
        go_roundw
        case rel => exact ⟨o, i + 1, rfl, by go_num, by omega, by rw [hd.out]; exact hown, hbel⟩
        case measure => simp [intOf]; omega
      · rw [if_pos hn] at hd
        have hd := Lib.hid hd
        have hq2 := (Lib.bytes_beq_false_iff pn n).2 hn
        go_wp2_with (at_builtin; refine append_rows elemN rfl (.tmp 20) (.tmp 25) rfl w.heap.size rfl (hown.alloc _) rfl (nm_box wr _ (pn, pf)) (by simp) (nm_one _) (by simp at hlen; simp; omega) (by have := hbel.size; simp; omega) ?_; intro v2 w2 hown2 ht2 _; have hbel2 : Below w.heap.size w w2 := (then_box hbel _).trans (own_below (hown.alloc _) ht2 (by have := hbel.size; simp; omega)))
        go_roundw
        case rel => exact ⟨v2, i + 1, rfl, by go_num, by omega, by rw [hd.out, nms_app]; exact hown2, hbel2⟩
        case measure => simp [intOf]; omega
    · have hd : l.take i = l := List.take_of_length_le hil
      rw [hd] at hown
      clear hd
      go_wp2
      go_ret
      exact ⟨_, rfl, hown, hbel⟩

set_option maxRecDepth 20000 in
set_option maxHeartbeats 2000000 in
theorem refNamed_1 (v bv : Value) (l : Nms) (f : Nat) (n : ByteArray) (w : World) (hv : NamesAt w v l) (hl : l.length ≤ 100000) :
    Calls Try.prog 33 #[v, .agg #[.int .i64 1, .int .i64 (f : Nat), .string n, bv]] w fun e w' => ∃ v', e = .returned v' ∧ NamesAt w' v' (apartF l f n ++ [(n, f)]) ∧ Below w.heap.size w w' := by
  have hlv := fun W => hv.len (ty := 3) W
  have hv := Lib.hid hv
  go_enter Try.func33, Try.ntmps33
  go_wp2
  go_loopw [5, 6] (fun o' t wr => ∃ (o : Value) (i : Nat), o = o' ∧ t = .int .i64 i ∧ i ≤ l.length ∧ OwnRows wr (w.heap.size + 1) 89 2 o ((apartF (l.take i) f n).map nmCells) ∧ Below (w.heap.size + 1) (w.alloc (.cells #[.int .i64 1, .int .i64 (f : Nat), .string n, bv] 85)) wr) (fun _ t _ => l.length - (intOf t).toNat)
  case atStart => exact ⟨_, 0, rfl, rfl, by omega, by simpa [apartF] using OwnRows.none_ _ _ _ _, Below.refl _ _⟩
  case round =>
    obtain ⟨o, i, rfl, rfl, hi, hown, hbelB⟩ := hrel
    have hbel : Below w.heap.size w wr := (below_box1 w _).trans (hbelB.mono (by omega))
    have hsz : w.heap.size + 1 ≤ wr.heap.size := by have := hbelB.size; simpa using this
    have hs1 : wr.cell? ⟨w.heap.size, 1, none⟩ = some (.int .i64 (f : Nat)) := (hbelB.cell (p := ⟨w.heap.size, 1, none⟩) (by simp)).trans (by go_simp)
    have hs2 : wr.cell? ⟨w.heap.size, 2, none⟩ = some (.string n) := (hbelB.cell (p := ⟨w.heap.size, 2, none⟩) (by simp)).trans (by go_simp)
    rcases Nat.lt_or_ge i l.length with hil | hil
    · obtain ⟨p, hp⟩ : ∃ p, l[i]? = some p := ⟨_, List.getElem?_eq_getElem hil⟩
      obtain ⟨b, off, hix, hc, _, _⟩ := (RowsAt.below hv.out hbel).index elemN.ht elemN.hs (names_at hp)
      have hc0 : wr.cell? ⟨b, off, none⟩ = some (.string p.1) := hc 0 _ rfl
      have hc1 : wr.cell? ⟨b, off + 1, none⟩ = some (.int .i64 (p.2 : Nat)) := hc 1 _ rfl
      have hd := apartF_snoc (l.take i) p f n
      rw [← take_snoc hp] at hd
      have hlen : ((apartF (l.take i) f n).map nmCells).length ≤ 100000 := by have := apartF_len (l.take i) f n; rw [List.length_take] at this; rw [List.length_map]; omega
      obtain ⟨pn, pf⟩ := p
      dsimp only at hc0 hc1 hd
      clear hc hp
      by_cases hf : pf = f
      · rw [if_neg (fun h => h.1 hf)] at hd
        have hd := Lib.hid hd
        subst hf
        have hq : decide ((pf : Int) = pf) = true := by simp
        go_wp2
        go_quiet (fail)
        go_wp2
        go_roundw
        case rel => exact ⟨o, i + 1, rfl, by go_num, by omega, by rw [hd.out]; exact hown, below_drewN hbelB _⟩
        case measure => simp [intOf]; omega
      · have hqf : ((pf : Int) == f) = false := beq_false_of_ne (by omega)
        have hqf2 : decide (pf = f) = false := decide_eq_false hf
        have hqf3 : ((pf : Int) != f) = true := by rw [bne_iff_ne]; omega
        by_cases hn : pn = n
        · rw [if_neg (fun h => h.2 hn)] at hd
          have hd := Lib.hid hd
          subst hn
          clear hf
          go_wp2
          go_quiet (fail)
          go_wp2
          go_roundw
          case rel => exact ⟨o, i + 1, rfl, by go_num, by omega, by rw [hd.out]; exact hown, below_drewN hbelB _⟩
          case measure => simp [intOf]; omega
        · rw [if_pos ⟨hf, hn⟩] at hd
          have hd := Lib.hid hd
          have hq2 := (Lib.bytes_beq_false_iff pn n).2 hn
          clear hf
          go_wp2
          go_quiet (fail)
          go_wp2_with (at_builtin; refine append_rows elemN rfl (.tmp 39) (.tmp 44) rfl (w.heap.size + 1) rfl (OwnRows.alloc (w := wr.drewN _) hown _) rfl (nm_box _ _ (pn, pf)) (by simp) (nm_one _) (by simp at hlen; simp; omega) (by simp; omega) ?_; intro v2 w2 hown2 ht2 _)
          have hbel2 : Below (w.heap.size + 1) (w.alloc (.cells #[.int .i64 1, .int .i64 (f : Nat), .string n, bv] 85)) w2 := ((below_drewN hbelB _).alloc (by simp; omega) _).trans (own_below (OwnRows.alloc (w := wr.drewN _) hown _) ht2 (by simp; omega))
          go_roundw
          case rel => exact ⟨v2, i + 1, rfl, by go_num, by omega, by rw [hd.out, nms_app]; exact hown2, hbel2⟩
          case measure => simp [intOf]; omega
    · have hd : l.take i = l := List.take_of_length_le hil
      rw [hd] at hown
      have hlen : ((apartF l f n).map nmCells).length ≤ 100000 := by have := apartF_len l f n; rw [List.length_map]; omega
      clear hd
      go_wp2_with (at_builtin; refine append_rows elemN rfl (.tmp 46) (.tmp 52) rfl (w.heap.size + 1) rfl (hown.alloc _) rfl (nm_box wr _ (n, f)) (by simp) (nm_one _) (by simp at hlen; simp; omega) (by simp; omega) ?_; intro v2 w2 hown2 ht2 _; have hbel2 : Below w.heap.size w w2 := (then_box hbel _).trans ((own_below (hown.alloc _) ht2 (by simp; omega)).mono (by omega)))
      go_ret
      exact ⟨_, rfl, by rw [NamesAt, nms_app]; exact hown2.rows, hbel2⟩

set_option maxRecDepth 20000 in
set_option maxHeartbeats 2000000 in
theorem refNamed_3 (v bv : Value) (l : Nms) (f : Nat) (n : ByteArray) (w : World) (hv : NamesAt w v l) (hl : l.length ≤ 100000) :
    Calls Try.prog 33 #[v, .agg #[.int .i64 3, .int .i64 (f : Nat), .string n, bv]] w fun e w' => ∃ v', e = .returned v' ∧ NamesAt w' v' (apartF l f n ++ [(n, f)]) ∧ Below w.heap.size w w' := by
  have hlv := fun W => hv.len (ty := 3) W
  have hv := Lib.hid hv
  go_enter Try.func33, Try.ntmps33
  go_wp2
  go_loopw [5, 6] (fun o' t wr => ∃ (o : Value) (i : Nat), o = o' ∧ t = .int .i64 i ∧ i ≤ l.length ∧ OwnRows wr (w.heap.size + 1) 89 2 o ((apartF (l.take i) f n).map nmCells) ∧ Below (w.heap.size + 1) (w.alloc (.cells #[.int .i64 3, .int .i64 (f : Nat), .string n, bv] 85)) wr) (fun _ t _ => l.length - (intOf t).toNat)
  case atStart => exact ⟨_, 0, rfl, rfl, by omega, by simpa [apartF] using OwnRows.none_ _ _ _ _, Below.refl _ _⟩
  case round =>
    obtain ⟨o, i, rfl, rfl, hi, hown, hbelB⟩ := hrel
    have hbel : Below w.heap.size w wr := (below_box1 w _).trans (hbelB.mono (by omega))
    have hsz : w.heap.size + 1 ≤ wr.heap.size := by have := hbelB.size; simpa using this
    have hs1 : wr.cell? ⟨w.heap.size, 1, none⟩ = some (.int .i64 (f : Nat)) := (hbelB.cell (p := ⟨w.heap.size, 1, none⟩) (by simp)).trans (by go_simp)
    have hs2 : wr.cell? ⟨w.heap.size, 2, none⟩ = some (.string n) := (hbelB.cell (p := ⟨w.heap.size, 2, none⟩) (by simp)).trans (by go_simp)
    rcases Nat.lt_or_ge i l.length with hil | hil
    · obtain ⟨p, hp⟩ : ∃ p, l[i]? = some p := ⟨_, List.getElem?_eq_getElem hil⟩
      obtain ⟨b, off, hix, hc, _, _⟩ := (RowsAt.below hv.out hbel).index elemN.ht elemN.hs (names_at hp)
      have hc0 : wr.cell? ⟨b, off, none⟩ = some (.string p.1) := hc 0 _ rfl
      have hc1 : wr.cell? ⟨b, off + 1, none⟩ = some (.int .i64 (p.2 : Nat)) := hc 1 _ rfl
      have hd := apartF_snoc (l.take i) p f n
      rw [← take_snoc hp] at hd
      have hlen : ((apartF (l.take i) f n).map nmCells).length ≤ 100000 := by have := apartF_len (l.take i) f n; rw [List.length_take] at this; rw [List.length_map]; omega
      obtain ⟨pn, pf⟩ := p
      dsimp only at hc0 hc1 hd
      clear hc hp
      by_cases hf : pf = f
      · rw [if_neg (fun h => h.1 hf)] at hd
        have hd := Lib.hid hd
        subst hf
        have hq : decide ((pf : Int) = pf) = true := by simp
        go_wp2
        go_quiet (fail)
        go_wp2
        go_roundw
        case rel => exact ⟨o, i + 1, rfl, by go_num, by omega, by rw [hd.out]; exact hown, below_drewN hbelB _⟩
        case measure => simp [intOf]; omega
      · have hqf : ((pf : Int) == f) = false := beq_false_of_ne (by omega)
        have hqf2 : decide (pf = f) = false := decide_eq_false hf
        have hqf3 : ((pf : Int) != f) = true := by rw [bne_iff_ne]; omega
        by_cases hn : pn = n
        · rw [if_neg (fun h => h.2 hn)] at hd
          have hd := Lib.hid hd
          subst hn
          clear hf
          go_wp2
          go_quiet (fail)
          go_wp2
          go_roundw
          case rel => exact ⟨o, i + 1, rfl, by go_num, by omega, by rw [hd.out]; exact hown, below_drewN hbelB _⟩
          case measure => simp [intOf]; omega
        · rw [if_pos ⟨hf, hn⟩] at hd
          have hd := Lib.hid hd
          have hq2 := (Lib.bytes_beq_false_iff pn n).2 hn
          clear hf
          go_wp2
          go_quiet (fail)
          go_wp2_with (at_builtin; refine append_rows elemN rfl (.tmp 39) (.tmp 44) rfl (w.heap.size + 1) rfl (OwnRows.alloc (w := wr.drewN _) hown _) rfl (nm_box _ _ (pn, pf)) (by simp) (nm_one _) (by simp at hlen; simp; omega) (by simp; omega) ?_; intro v2 w2 hown2 ht2 _)
          have hbel2 : Below (w.heap.size + 1) (w.alloc (.cells #[.int .i64 3, .int .i64 (f : Nat), .string n, bv] 85)) w2 := ((below_drewN hbelB _).alloc (by simp; omega) _).trans (own_below (OwnRows.alloc (w := wr.drewN _) hown _) ht2 (by simp; omega))
          go_roundw
          case rel => exact ⟨v2, i + 1, rfl, by go_num, by omega, by rw [hd.out, nms_app]; exact hown2, hbel2⟩
          case measure => simp [intOf]; omega
    · have hd : l.take i = l := List.take_of_length_le hil
      rw [hd] at hown
      have hlen : ((apartF l f n).map nmCells).length ≤ 100000 := by have := apartF_len l f n; rw [List.length_map]; omega
      clear hd
      go_wp2_with (at_builtin; refine append_rows elemN rfl (.tmp 46) (.tmp 52) rfl (w.heap.size + 1) rfl (hown.alloc _) rfl (nm_box wr _ (n, f)) (by simp) (nm_one _) (by simp at hlen; simp; omega) (by simp; omega) ?_; intro v2 w2 hown2 ht2 _; have hbel2 : Below w.heap.size w w2 := (then_box hbel _).trans ((own_below (hown.alloc _) ht2 (by simp; omega)).mono (by omega)))
      go_ret
      exact ⟨_, rfl, by rw [NamesAt, nms_app]; exact hown2.rows, hbel2⟩

set_option maxRecDepth 20000 in
set_option maxHeartbeats 2000000 in
theorem refNamed_4 (v bv : Value) (l : Nms) (f : Nat) (n : ByteArray) (w : World) (hv : NamesAt w v l) (hl : l.length ≤ 100000) :
    Calls Try.prog 33 #[v, .agg #[.int .i64 4, .int .i64 (f : Nat), .string n, bv]] w fun e w' => ∃ v', e = .returned v' ∧ NamesAt w' v' (withoutF l n) ∧ Below w.heap.size w w' := by
  have c1 := hide (fun W (h : NamesAt W v l) => refWithout_any v l n W h hl)
  have hv := Lib.hid hv
  go_enter Try.func33, Try.ntmps33
  go_wp2_with (go_at_call 60; refine (c1.out _ (RowsAt.below hv.out (below_box1 _ _))).mono ?_; rintro e' w1 ⟨v1, rfl, ho1, hb1⟩)
  go_ret
  exact ⟨_, rfl, ho1.rows, below_box hb1⟩

set_option maxRecDepth 20000 in
set_option maxHeartbeats 2000000 in
theorem refNamed_2 (v bv : Value) (l : Nms) (f : Nat) (n : ByteArray) (w : World) (hv : NamesAt w v l) :
    Calls Try.prog 33 #[v, .agg #[.int .i64 2, .int .i64 (f : Nat), .string n, bv]] w fun e w' => ∃ v', e = .returned v' ∧ NamesAt w' v' l ∧ Below w.heap.size w w' := by
  have hv := Lib.hid hv
  go_enter Try.func33, Try.ntmps33
  go_wp2
  go_ret
  exact ⟨_, rfl, RowsAt.below hv.out (below_box1 _ _), below_box1 _ _⟩

set_option maxRecDepth 20000 in
set_option maxHeartbeats 2000000 in
theorem refNamed_5 (v bv : Value) (l : Nms) (f : Nat) (n : ByteArray) (w : World) (hv : NamesAt w v l) :
    Calls Try.prog 33 #[v, .agg #[.int .i64 5, .int .i64 (f : Nat), .string n, bv]] w fun e w' => ∃ v', e = .returned v' ∧ NamesAt w' v' l ∧ Below w.heap.size w w' := by
  have hv := Lib.hid hv
  go_enter Try.func33, Try.ntmps33
  go_wp2
  go_ret
  exact ⟨_, rfl, RowsAt.below hv.out (below_box1 _ _), below_box1 _ _⟩

set_option maxRecDepth 20000 in
set_option maxHeartbeats 2000000 in
theorem refNamed_6 (v bv : Value) (l : Nms) (f : Nat) (n : ByteArray) (w : World) (hv : NamesAt w v l) :
    Calls Try.prog 33 #[v, .agg #[.int .i64 6, .int .i64 (f : Nat), .string n, bv]] w fun e w' => ∃ v', e = .returned v' ∧ NamesAt w' v' l ∧ Below w.heap.size w w' := by
  have hv := Lib.hid hv
  go_enter Try.func33, Try.ntmps33
  go_wp2
  go_ret
  exact ⟨_, rfl, RowsAt.below hv.out (below_box1 _ _), below_box1 _ _⟩

def Kinds (L : List FStep) : Prop := ∀ s ∈ L, 1 ≤ s.kind ∧ s.kind ≤ 6

theorem refNamed_any (v : Value) (l : Nms) (s : FStep) (w : World) (hv : NamesAt w v l) (hl : l.length ≤ 100000) (hk : 1 ≤ s.kind ∧ s.kind ≤ 6) :
    Calls Try.prog 33 #[v, .agg #[.int .i64 (s.kind : Nat), .int .i64 (s.file : Nat), .string s.name, s.bv]] w fun e w' => ∃ v', e = .returned v' ∧ NamesAt w' v' (namedF l s) ∧ Below w.heap.size w w' := by
  obtain ⟨k, f, n, bv, b⟩ := s
  dsimp only at hk ⊢
  have hk : k = 1 ∨ k = 2 ∨ k = 3 ∨ k = 4 ∨ k = 5 ∨ k = 6 := by omega
  rcases hk with rfl | rfl | rfl | rfl | rfl | rfl
  · exact refNamed_1 v bv l f n w hv hl
  · exact refNamed_2 v bv l f n w hv
  · exact refNamed_3 v bv l f n w hv hl
  · exact refNamed_4 v bv l f n w hv hl
  · exact refNamed_5 v bv l f n w hv
  · exact refNamed_6 v bv l f n w hv

set_option maxRecDepth 20000 in
set_option maxHeartbeats 2000000 in
theorem refNow_any (v : Value) (L : List FStep) (w : World) (hv : StepsAt w v L) (hk : Kinds L) (hl : L.length ≤ 100000) :
    Calls Try.prog 62 #[v] w fun e w' => ∃ v', e = .returned v' ∧ NamesAt w' v' (nowF L) ∧ Below w.heap.size w w' := by
  have hlv := fun W => hv.len (ty := 3) W
  have hv := Lib.hid hv
  have hk := Lib.hid hk
  go_enter Try.func62, Try.ntmps62
  go_wp2
  go_loopw [3, 4] (fun o' t wr => ∃ (o : Value) (i : Nat), o = o' ∧ t = .int .i64 i ∧ i ≤ L.length ∧ Hid (NamesAt wr o (nowF (L.take i))) ∧ Below w.heap.size w wr) (fun _ t _ => L.length - (intOf t).toNat)
  case atStart => exact ⟨_, 0, rfl, rfl, by omega, Lib.hid (show NamesAt w _ [] from (OwnRows.none_ w 0 0 2).rows), Below.refl _ _⟩
  case round =>
    obtain ⟨o, i, rfl, rfl, hi, hnm, hbel⟩ := hrel
    rcases Nat.lt_or_ge i L.length with hil | hil
    · obtain ⟨s, hs⟩ : ∃ s, L[i]? = some s := ⟨_, List.getElem?_eq_getElem hil⟩
      have hks := hk.out s (List.mem_of_getElem? hs)
      obtain ⟨b, off, hix, hc, _, _⟩ := (RowsAt.below hv.out hbel).index elemS.ht elemS.hs (steps_at hs)
      have hc0 : wr.cell? ⟨b, off, none⟩ = some (.int .i64 (s.kind : Nat)) := hc 0 _ rfl
      have hc1 : wr.cell? ⟨b, off + 1, none⟩ = some (.int .i64 (s.file : Nat)) := hc 1 _ rfl
      have hc2 : wr.cell? ⟨b, off + 2, none⟩ = some (.string s.name) := hc 2 _ rfl
      have hc3 : wr.cell? ⟨b, off + 3, none⟩ = some s.bv := hc 3 _ rfl
      have hlen := nowF_len (L.take i)
      rw [List.length_take] at hlen
      have c1 := hide (refNamed_any o (nowF (L.take i)) s wr hnm.out (by omega) hks)
      rw [← nowF_snoc, ← take_snoc hs] at c1
      clear hc hs hks hlen
      go_wp2_with (go_at_call 33; refine c1.out.mono ?_; rintro e' w1 ⟨v1, rfl, ho1, hb1⟩; have hn1 := Lib.hid ho1; have hbel1 := then_call hbel hb1)
      go_roundw
      case rel => exact ⟨v1, i + 1, rfl, by go_num, by omega, hn1, hbel1⟩
      case measure => simp [intOf]; omega
    · have hd : L.take i = L := List.take_of_length_le hil
      rw [hd] at hnm
      clear hd
      go_wp2
      go_ret
      exact ⟨_, rfl, hnm.out, hbel⟩
end Go.Proofs.Ytpkiapjcilapoaa
