/-
  The columns of numbers, as bytes.
-/
import Derived.Test.YthpgfnhecfgiaaaGreatDoorBaPut
namespace Go.Proofs.YthpgfnhecfgiaaaGreatDoor
open Go.RowKit Go.Sort
set_option maxRecDepth 20000

theorem cols_begin {W0 W : World} {base : Nat} {v : Value} (h : OwnRows W base 96 2 v (emptyCols 21)) (hb : Below base W0 W) :
    ∃ g cap cs, v = .slice (some ⟨g, 0, none⟩) 21 cap ∧ ColB W0 W base g [] (fun _ => .slice none 0 0) cs (fun _ => []) := by
  have h0 := h
  rcases h.1.2 with ⟨rfl, hl⟩ | ⟨g, cap, cur, rfl, hbg, hg, hnc, hcm, hsz, htk⟩
  · rw [emptyCols_len] at hl; omega
  · refine ⟨g, cap, cur, by rw [emptyCols_len], hg, fun i hi => ?_, fun i _ => World.ownsRow_nil _ _ _ _, fun i j _ _ _ => ApartRow.nil _, fun i _ => by simp [Value.ownBlock], by simp, hbg, hb⟩
    have hrow : (emptyCols 21)[i]? = some [.int .i64 (formN i), .slice none 0 0] := by
      unfold emptyCols
      rw [List.getElem?_map, List.getElem?_range hi]; rfl
    have f0 := flat_at (k := 2) (emptyCols 21) h0.2 i 0 _ (.int .i64 (formN i)) hrow rfl
    have f1 := flat_at (k := 2) (emptyCols 21) h0.2 i 1 _ (.slice none 0 0) hrow rfl
    have e0 := World.ownsRow.cells h0.1 (g := g) rfl _ _ f0
    have e1 := World.ownsRow.cells h0.1 (g := g) rfl _ _ f1
    rw [addr_at, cell_of_row _ _ _ _ _ _ hg] at e0 e1
    exact ⟨by simpa using e0, by simpa using e1⟩

set_option maxHeartbeats 4000000 in
theorem putNumbers_any (v : Value) (l : List OpV) (w : World) (hv : OpsAt w v l) (hl : l.length ≤ 1000) (hr : ∀ o ∈ l, NumR o) :
    Calls Tryz.prog 22 #[v] w fun e w' => ∃ v', e = .returned v' ∧ Own w' w.heap.size v' (numB l 21) ∧ Below w.heap.size w w' := by
  have hll := fun W => hv.len 3 W
  have hle := hv.le
  have hv := Lib.hid hv
  have hr := Lib.hid hr
  go_enter Tryz.func22, Tryz.ntmps22
  go_wp2_with (go_at_call 43; refine (numberColumns_any _).mono ?_; rintro e w1 ⟨cv, rfl, hc, hb1⟩; obtain ⟨g, cap, cs, rfl, hC⟩ := cols_begin hc hb1)
  clear hc
  obtain ⟨cp, hcp⟩ : ∃ cp, w1.heap.size = cp := ⟨_, rfl⟩
  have hC1 := hC.hold (below_box1 w1 (.cells #[.slice (some ⟨g, 0, none⟩) 21 cap] 89)) (Go.heap_alloc_new w1 _) (Nat.le_refl _)
  rw [hcp] at hC1
  try rw [hcp]
  obtain ⟨W1, hW1⟩ : ∃ W1, w1.alloc (.cells #[.slice (some ⟨g, 0, none⟩) 21 cap] 89) = W1 := ⟨_, rfl⟩
  rw [hW1] at hC1 ⊢
  clear hW1 hcp hC hb1
  have hC1 := Lib.hid hC1
  go_loopw [13] (fun i wr => ∃ (k : Nat) (vs : Nat → Value) (cs : Array Value), i = .int .i64 k ∧ k ≤ l.length ∧ Hid (ColB w wr w.heap.size g [(cp, .cells #[.slice (some ⟨g, 0, none⟩) 21 cap] 89)] vs cs (colL (l.take k)))) (fun i _ => l.length - (intOf i).toNat)
  case atStart => exact ⟨0, _, _, rfl, Nat.zero_le _, Lib.hid (hC1.out.like fun i _ => by simp [colL])⟩
  case round =>
    clear hC1
    obtain ⟨k, vs, cs, rfl, hk, hcol⟩ := hrel
    by_cases hlt : k < l.length
    · have hk4 : (k : Int) < (l.length : Int) := by omega
      obtain ⟨o, ho⟩ : ∃ o, l[k]? = some o := ⟨_, List.getElem?_eq_getElem hlt⟩
      obtain ⟨bk, off, hix, hc, hbk⟩ := hv.out.index ho
      have hc := range_after hc hcol.out.bel hbk
      obtain ⟨p, W2, hp, h0, hW2, hb2, hX⟩ := new_op_of (Below.refl _ _ : Below 0 wr wr) o
      have hgl := hcol.out.glt
      have hsz2 := hb2.size
      have hbg := hcol.out.bg
      have hpl := hX.lt
      have hP0 : ∃ vs cs, PutI w w.heap.size g W2.heap.size o (colL (l.take k)) [(cp, .cells #[.slice (some ⟨g, 0, none⟩) 21 cap] 89), (p, .cells (OpC o) 42)] 0 (W2.alloc (.cells #[.int .i64 0] 3)) vs cs := by
        have hcl : cp < wr.heap.size := (Array.getElem?_eq_some_iff.1 (hcol.out.held (cp, _) (List.mem_cons_self)).1).1
        have hC3 := ((hcol.out.hold hb2 hX (by omega)).up (below_box1 W2 (.cells #[.int .i64 0] 3))).fewer (H' := [(cp, .cells #[.slice (some ⟨g, 0, none⟩) 21 cap] 89), (p, .cells (OpC o) 42)]) (fun x hx => by simp at hx ⊢; rcases hx with hx | hx <;> simp [hx])
        refine ⟨vs, cs, hC3.like fun i _ => by rw [if_neg (Nat.not_lt_zero i)], Go.heap_alloc_new W2 _, by omega, fun i hi hv => ?_, fun x hx => ?_, by omega⟩
        · have := ((hcol.out.row i hi).blk _ hv).2; omega
        · simp at hx
          rcases hx with rfl | rfl
          · show cp ≠ _; omega
          · show p ≠ _; omega
      have hL : ∀ i, i < 21 → (colL (l.take k) i).length ≤ 1000 := fun i _ => by simp [colL]; omega
      have hsn : ∀ i, colL (l.take (k + 1)) i = colL (l.take k) i ++ [fld o i] := fun i => by
        rw [List.take_add_one, ho]; simp [colL]
      have hsn := Lib.hid hsn
      have hP0 := Lib.hid hP0
      clear hpl hsz2 hbg hgl
      go_wp2_with (first
        | ((with_reducible refine load_mid hc ?_ ?_ ?_); rfl; rfl)
        | ((with_reducible refine store_op (x := o) h0 ?_ ?_ ?_); rfl; rfl; rw [hW2])
        | (go_at_call 44; refine (numbers_put (putHands w w.heap.size g cp W2.heap.size p cap o (colL (l.take k)) hL) [] _ hP0.out).mono ?_; rintro e w3 ⟨rfl, x, vs3, cs3, hP3⟩))
      exact ⟨⟨k + 1, vs3, cs3, by go_num, hlt, Lib.hid ((hP3.col.fewer (fun x hx => by simp at hx; simp [hx])).like fun i hi => by rw [if_pos hi, hsn.out i])⟩, by simp [intOf]; omega⟩
    · obtain rfl : k = l.length := by omega
      rw [List.take_length] at hcol
      obtain ⟨wa, hwa⟩ : ∃ wa, wa = wr := ⟨_, rfl⟩
      subst hwa
      have hcc := (hcol.out.held (cp, .cells #[.slice (some ⟨g, 0, none⟩) 21 cap] 89) List.mem_cons_self).1
      have c0 : wa.cell? ⟨cp, 0, none⟩ = some (.slice (some ⟨g, 0, none⟩) 21 cap) := cell_held hcc rfl
      clear hcc
      go_wp2
      clear c0 hll
      go_loopw [7, 22] (fun o' t wq => ∃ (o : Value) (i : Nat), o = o' ∧ t = .int .i64 i ∧ i ≤ 21 ∧ Own wq wa.heap.size o (numB l i) ∧ Below wa.heap.size wa wq) (fun _ t _ => 21 - (intOf t).toNat)
      case atStart => exact ⟨_, 0, rfl, rfl, by omega, own_none _ _, Below.refl _ _⟩
      case round =>
        obtain ⟨o, i, rfl, rfl, hi, hown, hb⟩ := hrel
        by_cases hlt : i < 21
        · have hi4 : (i : Int) < 21 := by omega
          have hgl := hcol.out.glt
          have hrow := hcol.out.row i hlt
          have hR := hrow.row.below hb
          obtain ⟨A, c, hvi, _⟩ := hrow.row
          obtain ⟨n, hn⟩ : ∃ n, (ints (colL l i)).length = n := ⟨_, rfl⟩
          rw [hn] at hvi
          have k0 := (hb.cell (p := ⟨g, i * 2, none⟩) hgl).trans (cell_held hcol.out.blk (hcol.out.val i hlt).1)
          have k1 := (hb.cell (p := ⟨g, i * 2 + 1, none⟩) hgl).trans (cell_held hcol.out.blk (hcol.out.val i hlt).2)
          rw [hvi] at k1 hR
          clear hvi hn hrow
          have hix : ∀ X, (Instr.indexAt 89 (.slice (some ⟨g, 0, none⟩) 21 cap) (.int .i64 (i : Int))).run Tryz.prog X = .ok (.pointer (some ⟨g, i * 2, none⟩)) X := fun X => by
            have he : Tryz.prog.elem 89 = 96 := by kernel_rfl
            rw [run_indexAt_slice (P := Tryz.prog) X _ _ 21 cap .i64 (i : Int) (by kernel_rfl), if_pos (by omega), he, elemC.hs]
            simp [Result.andThen, addr_at]
          have hlc := Lib.hid (show (colL l i).length ≤ 65536 by simp [colL]; omega)
          have hin := Lib.hid (colL_in hr.out hlt)
          have hle1 := Lib.hid (numB_len hr.out hl (k := i) hi)
          have hle2 := Lib.hid (colB_len hr.out hl (i := i) hlt)
          have hR := Lib.hid hR
          have hown := Lib.hid hown
          have hb := Lib.hid hb
          rcases (show (formN i = 1 ∧ Hid (colB l i = bytesR (deltaL 0 (colL l i)))) ∨ (formN i = 0 ∧ Hid (colB l i = bytesR (colL l i))) by
            unfold colB formN
            split
            · exact .inl ⟨rfl, Lib.hid (by rw [if_pos rfl])⟩
            · exact .inr ⟨rfl, Lib.hid (by rw [if_neg (by omega)])⟩) with ⟨hf, hcb⟩ | ⟨hf, hcb⟩
          · rw [hf] at k0
            go_wp2_with (first
              | (go_at_call 46; refine (cDeltas_any _ (colL l i) _ (hR.out.below (below_box1 _ _)) hin.out hlc.out).mono ?_; rintro e w3 ⟨v3, rfl, ho3, hb3⟩; have hown3 := (hown.out.later (below_box1 _ _)).later hb3; have hb31 := hb.out.trans ((then_call (below_box1 _ _) hb3).mono hb.out.size))
              | (at_builtin; refine append_bytes rfl (.tmp 29) (.tmp 32) rfl wa.heap.size rfl hown3 rfl (ho3.bytes (bytesR_byte _)) (by rw [← hcb.out]; have := hle1.out; have := hle2.out; omega) hb31.size ?_; intro v4 w4 hown4 hb4))
            exact ⟨⟨_, i + 1, rfl, by go_num, hlt, by rw [numB, hcb.out]; exact hown4, hb31.trans hb4⟩, by simp [intOf]; omega⟩
          · rw [hf] at k0
            go_wp2_with (first
              | (go_at_call 47; refine (cRuns_any _ (colL l i) _ (hR.out.below (below_box1 _ _)) hin.out hlc.out).mono ?_; rintro e w3 ⟨v3, rfl, ho3, hb3⟩; have hown3 := (hown.out.later (below_box1 _ _)).later hb3; have hb31 := hb.out.trans ((then_call (below_box1 _ _) hb3).mono hb.out.size))
              | (at_builtin; refine append_bytes rfl (.tmp 34) (.tmp 37) rfl wa.heap.size rfl hown3 rfl (ho3.bytes (bytesR_byte _)) (by rw [← hcb.out]; have := hle1.out; have := hle2.out; omega) hb31.size ?_; intro v4 w4 hown4 hb4))
            exact ⟨⟨_, i + 1, rfl, by go_num, hlt, by rw [numB, hcb.out]; exact hown4, hb31.trans hb4⟩, by simp [intOf]; omega⟩
        · obtain rfl : i = 21 := by omega
          have hbel := hcol.out.bel
          go_wp2
          go_ret
          exact ⟨_, rfl, hown.lower hbel.size, hbel.trans (hb.mono hbel.size)⟩
end Go.Proofs.YthpgfnhecfgiaaaGreatDoor
