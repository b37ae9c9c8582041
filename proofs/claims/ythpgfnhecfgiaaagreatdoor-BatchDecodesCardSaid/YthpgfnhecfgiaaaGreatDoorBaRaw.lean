/-
  The document's own bytes of operations.
-/
import Derived.Test.YthpgfnhecfgiaaaGreatDoorBaRef
import Derived.Test.YthpgfnhecfgiaaaGreatDoorMBase
import Derived.Test.YthpgfnhecfgiaaaGreatDoorBaTex
namespace Go.Proofs.YthpgfnhecfgiaaaGreatDoor
open Go.RowKit Go.Sort
set_option maxRecDepth 20000

theorem colL_take {l : List OpV} {k : Nat} {o : OpV} (h : l[k]? = some o) (c : Nat) : (colL l c).take (k + 1) = (colL l c).take k ++ [fld o c] := by
  rw [List.take_add_one]; simp [colL, List.getElem?_map, h]
theorem truL_take {l : List OpV} {k : Nat} {o : OpV} (h : l[k]? = some o) (c : Nat) : truL (l.take (k + 1)) c = truL (l.take k) c ++ [truV o c] := by
  rw [List.take_add_one, h]; simp [truL, truV]
theorem strN_append (a b : ByteArray) : strN (a ++ b) = strN a ++ strN b := by simp [strN]

set_option maxHeartbeats 8000000 in
theorem refRaw_any (v : Value) (l : List OpV) (w : World) (hv : OpsAt w v l) (hl : l.length ≤ 200) (hN : ∀ o ∈ l, NumR o) (hT : ∀ o ∈ l, TxtR 1000 o) :
    Calls Tryz.prog 39 #[v] w fun e w' => ∃ v', e = .returned v' ∧ Own w' w.heap.size v' (batchB l) ∧ Below w.heap.size w w' := by
  have hll := fun W => hv.len 3 W
  have hle := hv.le
  have hcv : ∀ W, (convert 3 52 (.int .i64 (l.length : Int))).run Tryz.prog W = .ok (.int .u64 ((l.length : Nat) : Int)) W := fun W => by
    have hw : IntKind.u64.wrap (l.length : Int) = (l.length : Int) := by
      rw [IntKind.wrap_u64]; omega
    go_simp
  have hv := Lib.hid hv
  have hN := Lib.hid hN
  have hT := Lib.hid hT
  have hl1 := Lib.hid (putL_len10 (n := l.length) (by omega))
  go_enter Tryz.func39, Tryz.ntmps39
  go_wp2_with (go_at_call 34; refine (refPut_any l.length (by omega) _).mono ?_; rintro e w1 ⟨v1, rfl, ho1, hb1⟩)
  have ho1 := Lib.hid ho1
  go_loopw [3, 4] (fun o' t wr => ∃ (o : Value) (c : Nat), o = o' ∧ t = .int .i64 c ∧ c ≤ 21 ∧ Hid (Own wr w.heap.size o (putL l.length ++ numB l c)) ∧ Hid (Below w.heap.size w wr)) (fun _ t _ => 21 - (intOf t).toNat)
  case atStart => exact ⟨_, 0, rfl, rfl, by omega, Lib.hid (by rw [numB, List.append_nil]; exact ho1.out), Lib.hid hb1⟩
  case round =>
    clear hb1 ho1
    obtain ⟨o, c, rfl, rfl, hc, hown, hb⟩ := hrel
    obtain ⟨wa, hwa⟩ : ∃ wa, wa = wr := ⟨_, rfl⟩
    subst hwa
    by_cases hlt : c < 21
    · have hc4 : (c : Int) ≤ 20 := by omega
      go_wp2
      go_loopw [5, 6] (fun o' t wq => ∃ (u : Value) (k : Nat), u = o' ∧ t = .int .i64 k ∧ k ≤ l.length ∧ Hid (OwnRow wq wa.heap.size 3 u (ints ((colL l c).take k))) ∧ Hid (Below wa.heap.size wa wq)) (fun _ t _ => l.length - (intOf t).toNat)
      case atStart => exact ⟨_, 0, rfl, rfl, Nat.zero_le _, Lib.hid (OwnRow.none_ _ _ _), Lib.hid (Below.refl _ _)⟩
      case round =>
        obtain ⟨u, k, rfl, rfl, hk, hrow, hbq⟩ := hrel
        by_cases hlk : k < l.length
        · have hk4 : (k : Int) < (l.length : Int) := by omega
          obtain ⟨x, hx⟩ : ∃ x, l[k]? = some x := ⟨_, List.getElem?_eq_getElem hlk⟩
          obtain ⟨bk, off, hix, hel, hbk⟩ := hv.out.index hx
          have hel := range_after hel (hb.out.trans (hbq.out.mono hb.out.size)) hbk
          have hsn := Lib.hid (colL_take hx c)
          have hlen := Lib.hid (show ((colL l c).take k).length ≤ 1000 by rw [List.length_take]; omega)
          go_wp2_with (first
            | ((with_reducible refine load_mid hel ?_ ?_ ?_); rfl; rfl)
            | (go_at_call 67; refine (refField_any x hlt _).mono ?_; rintro e w3 ⟨rfl, hb3⟩; have hrow3 := hrow.out.below hb3; have hb3W := hbq.out.trans (hb3.mono hbq.out.size))
            | (at_builtin; refine append_row elemI rfl (.tmp 28) (.tmp 35) rfl wa.heap.size rfl (hrow3.alloc _) rfl (row_box _ _ _) (by intro u hu; simp at hu; subst hu; rfl) (by have := hlen.out; rw [ints_len]; simp at this ⊢; omega) (by have := hb3W.size; simp; omega) ?_; intro v6 w6 hown6 hb6; have hb6W := (then_box hb3W _).trans hb6))
          exact ⟨⟨_, k + 1, rfl, by go_num, hlk, Lib.hid (by rw [hsn.out]; simpa [ints] using hown6), Lib.hid hb6W⟩, by simp [intOf]; omega⟩
        · have hk4 : ¬ (k : Int) < (l.length : Int) := by omega
          have hkl : k = l.length := by omega
          rw [hkl, show (colL l c).take l.length = colL l c from List.take_of_length_le (by simp [colL])] at hrow
          clear hkl
          have hlc := Lib.hid (show (colL l c).length ≤ 65536 by simp [colL]; omega)
          have hin := Lib.hid (colL_in hN.out hlt)
          have hle1 := Lib.hid (numB_len hN.out (by omega) (k := c) hc)
          have hle2 := Lib.hid (colB_len hN.out (by omega) (i := c) hlt)
          have hF := fun W => refForm_any hlt W
          have hbaq := hb.out.trans (hbq.out.mono hb.out.size)
          have hownq := Lib.hid (hown.out.later hbq.out)
          have hbaq := Lib.hid hbaq
          have hc5 : (c : Int) + 1 ≤ 9223372036854775807 := by omega
          rcases (show ((formN c == 1) = true ∧ Hid (colB l c = bytesR (deltaL 0 (colL l c)))) ∨ ((formN c == 1) = false ∧ Hid (colB l c = bytesR (colL l c))) by
            unfold colB
            cases h : (formN c == 1) with
            | true => exact .inl ⟨rfl, Lib.hid (by rw [if_pos (by simpa using h)])⟩
            | false => exact .inr ⟨rfl, Lib.hid (by rw [if_neg (by simpa using h)])⟩) with ⟨hf, hcb⟩ | ⟨hf, hcb⟩
          · rw [hf] at hF
            go_wp2_with (first
              | (go_at_call 14; refine (hF _).mono ?_; rintro e w3 ⟨rfl, rfl⟩)
              | (go_at_call 68; refine (refDeltas_any _ (colL l c) _ hrow.out.row hin.out hlc.out).mono ?_; rintro e w4 ⟨v4, rfl, ho4, hb4⟩; have hown4 := hownq.out.later hb4; have hb4W := hbaq.out.trans (hb4.mono hbaq.out.size))
              | (at_builtin; refine append_bytes rfl (.tmp 39) (.tmp 41) rfl w.heap.size rfl hown4 rfl (ho4.bytes (bytesR_byte _)) (by rw [← hcb.out, List.length_append]; have := hl1.out; have := hle1.out; have := hle2.out; omega) hb4W.size ?_; intro v5 w5 hown5 hb5))
            exact ⟨⟨_, c + 1, rfl, by go_num, hlt, Lib.hid (by rw [numB, hcb.out, ← List.append_assoc]; exact hown5), Lib.hid (hb4W.trans hb5)⟩, by simp [intOf]; omega⟩
          · rw [hf] at hF
            go_wp2_with (first
              | (go_at_call 14; refine (hF _).mono ?_; rintro e w3 ⟨rfl, rfl⟩)
              | (go_at_call 36; refine (refRuns_any _ (colL l c) _ hrow.out.row hin.out hlc.out).mono ?_; rintro e w4 ⟨v4, rfl, ho4, hb4⟩; have hown4 := hownq.out.later hb4; have hb4W := hbaq.out.trans (hb4.mono hbaq.out.size))
              | (at_builtin; refine append_bytes rfl (.tmp 43) (.tmp 45) rfl w.heap.size rfl hown4 rfl (ho4.bytes (bytesR_byte _)) (by rw [← hcb.out, List.length_append]; have := hl1.out; have := hle1.out; have := hle2.out; omega) hb4W.size ?_; intro v5 w5 hown5 hb5))
            exact ⟨⟨_, c + 1, rfl, by go_num, hlt, Lib.hid (by rw [numB, hcb.out, ← List.append_assoc]; exact hown5), Lib.hid (hb4W.trans hb5)⟩, by simp [intOf]; omega⟩
    · have hc4 : ¬ (c : Int) ≤ 20 := by omega
      have hc21 : c = 21 := by omega
      rw [hc21] at hown
      clear hc21
      have hle21 := Lib.hid (numB_len hN.out (by omega) (k := 21) (Nat.le_refl _))
      go_wp2
      go_loopw [7, 8, 9] (fun p' q' t wq => ∃ (u z : Value) (k : Nat), u = p' ∧ z = q' ∧ t = .int .i64 k ∧ k ≤ l.length ∧ Hid (OwnRow wq wa.heap.size 4 u (truths (truL (l.take k) 0))) ∧ Hid (OwnRow wq wa.heap.size 4 z (truths (truL (l.take k) 1))) ∧ Hid (ApartRow u z) ∧ Hid (Below wa.heap.size wa wq)) (fun _ _ t _ => l.length - (intOf t).toNat)
      case atStart => exact ⟨_, _, 0, rfl, rfl, rfl, Nat.zero_le _, Lib.hid (OwnRow.none_ _ _ _), Lib.hid (OwnRow.none_ _ _ _), Lib.hid (ApartRow.nil _), Lib.hid (Below.refl _ _)⟩
      case round =>
        obtain ⟨u, z, k, rfl, rfl, rfl, hk, hrow, hroz, hap, hbq⟩ := hrel
        by_cases hlk : k < l.length
        · have hk4 : (k : Int) < (l.length : Int) := by omega
          obtain ⟨x, hx⟩ : ∃ x, l[k]? = some x := ⟨_, List.getElem?_eq_getElem hlk⟩
          obtain ⟨bk, off, hix, hel, hbk⟩ := hv.out.index hx
          have hel := range_after hel (hb.out.trans (hbq.out.mono hb.out.size)) hbk
          have hblk : bk < wa.heap.size := Nat.lt_of_lt_of_le hbk hb.out.size
          have e22 := hel 22 (.bool x.fa) rfl
          have e25 := hel 25 (.bool x.ta) rfl
          have hs0 : Hid (truL (l.take (k + 1)) 0 = truL (l.take k) 0 ++ [x.fa]) := Lib.hid (truL_take hx 0)
          have hs1 : Hid (truL (l.take (k + 1)) 1 = truL (l.take k) 1 ++ [x.ta]) := Lib.hid (truL_take hx 1)
          have hlen0 := Lib.hid (show (truL (l.take k) 0).length ≤ 1000 by simp [truL]; omega)
          have hlen1 := Lib.hid (show (truL (l.take k) 1).length ≤ 1000 by simp [truL]; omega)
          clear hel
          go_wp2_with (first
            | (at_builtin; refine append_one2 elemT rfl (.tmp 62) (.tmp 69) rfl wa.heap.size rfl hroz6 hrow6 hap6 rfl rfl (by have := hlen1.out; rw [truths_len]; omega) (by have := hb6W.size; omega) ?_; intro v7 w7 hroz7 hrow7 hap7 hb7; have hb7W := hb6W.trans hb7)
            | (at_builtin; refine append_one2 elemT rfl (.tmp 53) (.tmp 60) rfl wa.heap.size rfl hrow.out hroz.out hap.out.symm rfl rfl (by have := hlen0.out; rw [truths_len]; omega) hbq.out.size ?_; intro v6 w6 hrow6 hroz6 hap6' hb6; have hap6 := hap6'.symm; have hb6W := hbq.out.trans hb6; have e25' : w6.cell? ⟨bk, off + 25, none⟩ = some (.bool x.ta) := (hb6.cell (p := ⟨bk, off + 25, none⟩) hblk).trans e25))
          exact ⟨⟨_, _, k + 1, rfl, rfl, by go_num, hlk, Lib.hid (by rw [hs0.out]; simpa [truths] using hrow7), Lib.hid (by rw [hs1.out]; simpa [truths] using hroz7), Lib.hid hap7, Lib.hid hb7W⟩, by simp [intOf]; omega⟩
        · have hk4 : ¬ (k : Int) < (l.length : Int) := by omega
          have hkl : k = l.length := by omega
          rw [hkl, List.take_length] at hrow hroz
          clear hkl
          obtain ⟨wc, hwc⟩ : ∃ wc, wc = wr := ⟨_, rfl⟩
          subst hwc
          have hlb0 := Lib.hid (bytesB_len (l := truL l 0) (by simp [truL]; omega))
          have hlb1 := Lib.hid (bytesB_len (l := truL l 1) (by simp [truL]; omega))
          have hlt0 := Lib.hid (show (truL l 0).length ≤ 1000 by simp [truL]; omega)
          have hlt1 := Lib.hid (show (truL l 1).length ≤ 1000 by simp [truL]; omega)
          have hbc := Lib.hid (hb.out.trans (hbq.out.mono hb.out.size))
          have hownc := Lib.hid (hown.out.later hbq.out)
          go_wp2_with (first
            | (at_builtin; refine append_bytes rfl (.tmp 75) (.tmp 77) rfl w.heap.size rfl hown8 rfl (ho8.bytes (bytesB_byte _)) (by simp only [List.length_append]; have := hl1.out; have := hle21.out; have := hlb0.out; have := hlb1.out; have := hlt0.out; have := hlt1.out; omega) hb8W.size ?_; intro v9 w9 hown9 hb9; have hb9W := hb8W.trans hb9)
            | (at_builtin; refine append_bytes_g rfl (.tmp 71) (.tmp 73) rfl w.heap.size rfl hown6 rfl (ho6.bytes (bytesB_byte _)) (by simp only [List.length_append]; have := hl1.out; have := hle21.out; have := hlb0.out; have := hlt0.out; omega) hb6W.size ?_; intro v7 w7 hown7 hb7 hg7; have hb7W := hb6W.trans hb7; have hroz7 : OwnRow w7 wa.heap.size 4 z (truths (truL l 1)) := World.ownsRow.kept hroz6 hg7 (apart_types (show OwnRow w6 w.heap.size 5 _ (bvals _) from by have := hown6; unfold Own at this; unfold OwnRow; rw [bvals_length]; exact this) hroz6 (by decide)))
            | (go_at_call 60; first
              | (refine (refBools_any _ (truL l 1) _ hroz7.row (by have := hlt1.out; omega)).mono ?_; rintro e w8 ⟨v8, rfl, ho8, hb8⟩; have hown8 := hown7.later hb8; have hb8W := hb7W.trans (hb8.mono hb7W.size))
              | (refine (refBools_any _ (truL l 0) _ hrow.out.row (by have := hlt0.out; omega)).mono ?_; rintro e w6 ⟨v6, rfl, ho6, hb6⟩; have hown6 := hownc.out.later hb6; have hb6W := hbc.out.trans (hb6.mono hbc.out.size); have hroz6 := hroz.out.below hb6)))
          have hown9 : Hid (Own w9 w.heap.size v9 (putL l.length ++ (numB l 21 ++ (truB l 2 ++ texB l 0)))) := Lib.hid (by simpa [truB, texB, List.append_assoc] using hown9)
          have hb9W := Lib.hid hb9W
          have hlt2 := Lib.hid (truB_len (l := l) (by omega) (k := 2))
          clear hrow hroz hap hbq hownc hlb0 hlb1 hlt0 hlt1 hbc hown7 hb7 hg7 hb7W hroz7 ho8 hb8 hown8 hb8W hb9 hroz6 hown6 hb6 ho6 hb6W
          go_loopw [3, 10] (fun o' t wr => ∃ (o : Value) (c : Nat), o = o' ∧ t = .int .i64 c ∧ c ≤ 3 ∧ Hid (Own wr w.heap.size o (putL l.length ++ (numB l 21 ++ (truB l 2 ++ texB l c)))) ∧ Hid (Below w.heap.size w wr)) (fun _ t _ => 3 - (intOf t).toNat)
          case atStart => exact ⟨_, 0, rfl, rfl, by omega, hown9, hb9W⟩
          case round =>
            clear hown9 hb9W
            obtain ⟨o, c, rfl, rfl, hc, hown, hb⟩ := hrel
            obtain ⟨wd, hwd⟩ : ∃ wd, wd = wr := ⟨_, rfl⟩
            subst hwd
            by_cases hlt : c < 3
            · have hc4 : (c : Int) < 3 := by omega
              go_wp2
              go_loopw [11, 12, 13] (fun p' q' t wq => ∃ (u : Value) (st : ByteArray) (k : Nat), u = p' ∧ q' = .string st ∧ t = .int .i64 k ∧ k ≤ l.length ∧ Hid (OwnRow wq wd.heap.size 3 u (ints (lenL (l.take k) c))) ∧ Hid (strN st = allT (l.take k) c) ∧ Hid (Below wd.heap.size wd wq)) (fun _ _ t _ => l.length - (intOf t).toNat)
              case atStart => exact ⟨_, _, 0, rfl, rfl, rfl, Nat.zero_le _, Lib.hid (OwnRow.none_ _ _ _), Lib.hid rfl, Lib.hid (Below.refl _ _)⟩
              case round =>
                obtain ⟨u, st, k, rfl, rfl, rfl, hk, hrow, hst, hbq⟩ := hrel
                by_cases hlk : k < l.length
                · have hk4 : (k : Int) < (l.length : Int) := by omega
                  obtain ⟨x, hx⟩ : ∃ x, l[k]? = some x := ⟨_, List.getElem?_eq_getElem hlk⟩
                  obtain ⟨bk, off, hix, hel, hbk⟩ := hv.out.index hx
                  have hel0 := Lib.hid hel
                  have hel := range_after hel (hb.out.trans (hbq.out.mono hb.out.size)) hbk
                  have hsn := Lib.hid (lenL_snoc hx c)
                  have hsa := Lib.hid (allT_take hx c)
                  have hlen := Lib.hid (show (lenL (l.take k) c).length ≤ 1000 by simp [lenL]; omega)
                  obtain ⟨y, hy⟩ : ∃ y, txt x c = y := ⟨_, rfl⟩
                  have hys : (y.size : Int) ≤ 9223372036854775807 := by have := hT.out x (List.mem_of_getElem? hx) c hlt; rw [hy] at this; omega
                  have hys2 : Hid (y.size ≤ 1000) := Lib.hid (by rw [← hy]; exact hT.out x (List.mem_of_getElem? hx) c hlt)
                  have hF := fun W => refText_any x hlt W
                  rw [hy] at hsn hsa hF
                  clear hy
                  have hsz : Hid (st.size = (allT (l.take k) c).length) := Lib.hid (by rw [← hst.out, strN_len])
                  have hbig : Hid ((allT (l.take k) c).length ≤ 1000000) := Lib.hid (by
                    have h1 := allT_len (l := l.take k) (c := c) (n := 1000) fun o ho => hT.out o (List.mem_of_mem_take ho) c hlt
                    have h2 : (l.take k).length ≤ 1000 := by rw [List.length_take]; omega
                    have h3 := Nat.mul_le_mul_right 1000 h2
                    omega)
                  have hnb : ¬ (9223372036854775807 < st.size + y.size) := by have := hsz.out; have := hbig.out; have := hys2.out; omega
                  have hcat : ∀ (t : TypeId) (W : World), (binOp .add t (.string st) (.string y)).run Tryz.prog W = .ok (.string (st ++ y)) W := fun t W => by
                    have h : ¬ (st.size + y.size > 9223372036854775807) := hnb
                    simp only [binOp_string_add, run_string_add_if, if_neg h]
                  have hcat2 : ∀ (W : World), (Op.stringOp .add st y).run Tryz.prog W = .ok (.string (st ++ y)) W := fun W => by
                    have h : ¬ (st.size + y.size > 9223372036854775807) := hnb
                    simp only [run_string_add_if, if_neg h]
                  have hsN : Hid (strN (st ++ y) = allT (l.take (k + 1)) c) := Lib.hid (by rw [strN_append, hst.out, hsa.out])
                  clear hsz hbig
                  go_wp2_with (first
                    | ((with_reducible refine load_mid hel8 ?_ ?_ ?_); rfl; rfl)
                    | ((with_reducible refine load_mid hel ?_ ?_ ?_); rfl; rfl)
                    | (go_at_call 69; first
                      | (refine (hF w6).mono ?_; rintro e w7 ⟨rfl, hb7⟩; have hrow7 := hrow6.below hb7; have hb7W := hb6W.trans (hb7.mono hb6W.size); clear hel8)
                      | (refine (hF _).mono ?_; rintro e w3 ⟨rfl, hb3⟩; have hrow3 := hrow.out.below hb3; have hb3W := hbq.out.trans (hb3.mono hbq.out.size); clear hel))
                    | (at_builtin; refine append_row elemI rfl (.tmp 89) (.tmp 97) rfl wd.heap.size rfl (hrow3.alloc _) rfl (row_box _ _ _) (by intro u hu; simp at hu; subst hu; rfl) (by have := hlen.out; rw [ints_len]; simp at this ⊢; omega) (by have := hb3W.size; simp; omega) ?_; intro v6 w6 hrow6 hb6; have hb6W := (then_box hb3W _).trans hb6; have hel8 := range_after hel0.out (hb.out.trans (hb6W.mono hb.out.size)) hbk; clear hrow3 hb3))
                  exact ⟨⟨_, _, k + 1, rfl, rfl, by go_num, hlk, Lib.hid (by rw [hsn.out]; simpa [ints] using hrow7), hsN, Lib.hid hb7W⟩, by simp [intOf]; omega⟩
                · have hk4 : ¬ (k : Int) < (l.length : Int) := by omega
                  have hkl : k = l.length := by omega
                  rw [hkl, List.take_length] at hrow hst
                  clear hkl
                  have hlc := Lib.hid (show (lenL l c).length ≤ 65536 by simp [lenL]; omega)
                  have hin := Lib.hid (lenL_in fun o ho => hT.out o ho c hlt)
                  have hle3 := Lib.hid (texB_len hT.out (by omega) (k := c) hc)
                  have hle4 := Lib.hid (bytesR_len (l := lenL l c) hin.out hlc.out)
                  have hle5 : Hid (st.size ≤ 1000000) := Lib.hid (by
                    have h1 := allT_len (l := l) (c := c) (n := 1000) fun o ho => hT.out o ho c hlt
                    have h3 := Nat.mul_le_mul_right 1000 (show l.length ≤ 1000 by omega)
                    rw [← strN_len, hst.out]
                    omega)
                  have hbd := Lib.hid (hb.out.trans (hbq.out.mono hb.out.size))
                  have hownd := Lib.hid (hown.out.later hbq.out)
                  clear hown hb hbq
                  go_wp2_with (first
                    | (go_at_call 36; refine (refRuns_any _ (lenL l c) _ hrow.out.row hin.out hlc.out).mono ?_; rintro e w4 ⟨v4, rfl, ho4, hb4⟩; have hown4 := hownd.out.later hb4; have hb4W := hbd.out.trans (hb4.mono hbd.out.size))
                    | (at_builtin; refine append_text rfl (.tmp 111) (.tmp 112) rfl w.heap.size rfl hown5 (OwnRow.none_ _ _ 3) (by decide) rfl (by simp only [List.length_append]; have := hl1.out; have := hle21.out; have := hlt2.out; have := hle3.out; have := hle4.out; have := hlc.out; have := hle5.out; omega) hb5W.size ?_; intro v6 w6 hown6 _ hb6; have hb6W := hb5W.trans hb6)
                    | (at_builtin; refine append_bytes rfl (.tmp 107) (.tmp 109) rfl w.heap.size rfl hown4 rfl (ho4.bytes (bytesR_byte _)) (by simp only [List.length_append]; have := hl1.out; have := hle21.out; have := hlt2.out; have := hle3.out; have := hle4.out; have := hlc.out; omega) hb4W.size ?_; intro v5 w5 hown5 hb5; have hb5W := hb4W.trans hb5))
                  exact ⟨⟨_, c + 1, rfl, by go_num, hlt, Lib.hid (by rw [texB]; have := hown6; rw [hst.out] at this; simpa only [List.append_assoc] using this), Lib.hid hb6W⟩, by simp [intOf]; omega⟩
            · have hc4 : ¬ (c : Int) < 3 := by omega
              have hc3 : c = 3 := by omega
              rw [hc3] at hown
              clear hc3
              go_wp2
              go_ret
              exact ⟨_, rfl, hown.out, hb.out⟩
end Go.Proofs.YthpgfnhecfgiaaaGreatDoor
