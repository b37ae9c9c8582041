/-
  The columns of truths, as bytes.
-/
import Derived.Test.YthpgfnhecfgiaaaGreatDoorBaBytes
import Derived.Test.YthpgfnhecfgiaaaGreatDoorMCc
namespace Go.Proofs.YthpgfnhecfgiaaaGreatDoor
open Go.RowKit Go.Sort
set_option maxRecDepth 20000

theorem ix_one {P : Program} {t e : TypeId} (ht : P.underlying t = some (.slice e)) (hs : ∀ W, (sizeOf e).run P W = .ok 1 W) {g n cap c : Nat} (h : c < n) (W : World) :
    (Instr.indexAt t (.slice (some ⟨g, 0, none⟩) n cap) (.int .i64 (c : Int))).run P W = .ok (.pointer (some ⟨g, c, none⟩)) W := by
  have he : P.elem t = e := by simp [Program.elem, ht]
  rw [run_indexAt_slice (P := P) W t _ n cap .i64 (c : Int) (by rw [he]; exact ht), if_pos (by omega), he, hs]
  simp [Result.andThen, addr_at]

def truO (c : Nat) : Nat := if c = 0 then 22 else 25
def truV (o : OpV) (c : Nat) : Bool := if c = 0 then o.fa else o.ta
theorem tru_cell (o : OpV) (c : Nat) : (OpC o)[truO c]? = some (.bool (truV o c)) := by
  unfold truO truV
  split <;> rfl
theorem tru_ptr {c b off : Nat} (hc : c < 2) : (#[Value.pointer (some ⟨b, off + 22, none⟩), Value.pointer (some ⟨b, off + 25, none⟩)] : Array Value)[c]? = some (.pointer (some ⟨b, off + truO c, none⟩)) := by
  rcases (by omega : c = 0 ∨ c = 1) with rfl | rfl <;> rfl

set_option maxHeartbeats 1000000 in
theorem truths_any (b off : Nat) (w : World) : Calls Tryz.prog 48 #[.pointer (some ⟨b, off, none⟩)] w fun e w' => ∃ q, e = .returned (.slice (some ⟨q, 0, none⟩) 2 2) ∧ w'.heap[q]? = some (.cells #[.pointer (some ⟨b, off + 22, none⟩), .pointer (some ⟨b, off + 25, none⟩)] 100) ∧ w.heap.size ≤ q ∧ Below w.heap.size w w' := by
  go_enter Tryz.func48, Tryz.ntmps48
  go_wp2
  go_region
  go_wp2
  go_ret
  exact ⟨_, rfl, Go.heap_alloc_new w _, Nat.le_refl _, below_drewN (below_box1 w _) 1⟩

theorem truL_snoc {l : List OpV} {k : Nat} {o : OpV} (h : l[k]? = some o) (c : Nat) : (truL l c).take (k + 1) = (truL l c).take k ++ [truV o c] := by
  rw [List.take_add_one]
  simp [truL, List.getElem?_map, h, truV]

set_option maxHeartbeats 4000000 in
theorem putTruths_any (v : Value) (l : List OpV) (w : World) (hv : OpsAt w v l) (hl : l.length ≤ 1000) :
    Calls Tryz.prog 23 #[v] w fun e w' => ∃ v', e = .returned v' ∧ Own w' w.heap.size v' (truB l 2) ∧ Below w.heap.size w w' := by
  have hll := fun W => hv.len 3 W
  have hle := hv.le
  have hv := Lib.hid hv
  go_enter Tryz.func23, Tryz.ntmps23
  go_wp2_with (go_at_call 48; refine (truths_any _ _ _).mono ?_; rintro e w1 ⟨q, rfl, hq, hql, hb1⟩)
  have hb1 := then_call (below_box1 w _) hb1
  clear hq hql
  go_loopw [3, 11] (fun o' t wr => ∃ (o : Value) (c : Nat), o = o' ∧ t = .int .i64 c ∧ c ≤ 2 ∧ Own wr w.heap.size o (truB l c) ∧ Below w.heap.size w wr) (fun _ t _ => 2 - (intOf t).toNat)
  case atStart => exact ⟨_, 0, rfl, rfl, by omega, own_none _ _, hb1⟩
  case round =>
    clear hb1
    obtain ⟨o, c, rfl, rfl, hc, hown, hb⟩ := hrel
    by_cases hlt : c < 2
    · have hc4 : (c : Int) < 2 := by omega
      obtain ⟨wa, hwa⟩ : ∃ wa, wa = wr := ⟨_, rfl⟩
      subst hwa
      go_wp2
      go_loopw [5, 16] (fun o' t wq => ∃ (u : Value) (k : Nat), u = o' ∧ t = .int .i64 k ∧ k ≤ l.length ∧ OwnRow wq wa.heap.size 4 u (truths ((truL l c).take k)) ∧ Below wa.heap.size wa wq) (fun _ t _ => l.length - (intOf t).toNat)
      case atStart => exact ⟨_, 0, rfl, rfl, Nat.zero_le _, OwnRow.none_ _ _ _, Below.refl _ _⟩
      case round =>
        obtain ⟨u, k, rfl, rfl, hk, hrow, hbq⟩ := hrel
        by_cases hlk : k < l.length
        · have hk4 : (k : Int) < (l.length : Int) := by omega
          obtain ⟨x, hx⟩ : ∃ x, l[k]? = some x := ⟨_, List.getElem?_eq_getElem hlk⟩
          obtain ⟨bk, off, hix, hel, hbk⟩ := hv.out.index hx
          have hel := range_after hel (hb.trans (hbq.mono hb.size)) hbk
          obtain ⟨p, W2, hp, h0, hW2, hb2, hX⟩ := new_op_of hbq x
          have hbW := hbq.trans (hb2.mono hbq.size)
          have hrow2 := hrow.below hb2
          have hpl := hX.lt
          have hXc := hX.cell (tru_cell x c)
          obtain ⟨y, hy⟩ : ∃ y, truV x c = y := ⟨_, rfl⟩
          rw [hy] at hXc
          have hsn := Lib.hid (truL_snoc hx c)
          rw [hy] at hsn
          have hlen := Lib.hid (show ((truL l c).take k).length ≤ 1000 by rw [List.length_take]; omega)
          clear hy
          have hrow2 := Lib.hid hrow2
          have hX := Lib.hid hX
          have hXc := Lib.hid hXc
          have hixp := fun (q : Nat) (W : World) => ix_one (P := Tryz.prog) (t := 98) (e := 100) (g := q) (n := 2) (cap := 2) Tryz.underlying98 (fun W => by kernel_rfl) hlt W
          clear hrow
          go_wp2_with (first
            | ((with_reducible refine load_mid hel ?_ ?_ ?_); rfl; rfl)
            | ((with_reducible refine store_op (x := x) h0 ?_ ?_ ?_); rfl; rfl; rw [hW2])
            | (go_at_call 48; refine (truths_any p 0 _).mono ?_; rintro e w3 ⟨q, rfl, hq, hql, hb3⟩; have e1 : w3.cell? ⟨q, c, none⟩ = _ := cell_held hq (tru_ptr hlt); rw [Nat.zero_add] at e1; have e2 := (hb3.cell (p := ⟨p, truO c, none⟩) hpl).trans hXc.out; have hrow3 := hrow2.out.below hb3; have hb3W := hbW.trans (hb3.mono hbW.size); have hixq := hixp q; clear hq)
            | (at_builtin; refine append_row elemT rfl (.tmp 20) (.tmp 27) rfl wa.heap.size rfl (hrow3.alloc _) rfl (row_box _ _ _) (by intro u hu; simp at hu; subst hu; rfl) (by have := hlen.out; rw [truths_len]; simp at this ⊢; omega) (by have := hb3W.size; simp; omega) ?_; intro v6 w6 hown6 hb6; have hb6W := (then_box hb3W _).trans hb6))
          exact ⟨⟨_, k + 1, rfl, by go_num, hlk, by rw [hsn.out]; simpa [truths] using hown6, hb6W⟩, by simp [intOf]; omega⟩
        · obtain rfl : k = l.length := by omega
          rw [show (truL l c).take l.length = truL l c from List.take_of_length_le (by simp [truL])] at hrow
          have hle1 := Lib.hid (truB_len hl (k := c))
          have hle2 := Lib.hid (bytesB_len (l := truL l c) (by simp [truL]; omega))
          have hle3 := Lib.hid (show (truL l c).length ≤ 1000 by simp [truL]; omega)
          have hown := Lib.hid hown
          have hrow := Lib.hid hrow
          go_wp2_with (first
            | (go_at_call 49; refine (cBools_any _ (truL l c) _ hrow.out.row (by have := hle3.out; omega)).mono ?_; rintro e w7 ⟨v7, rfl, ho7, hb7⟩; have hown7 := (hown.out.later hbq).later hb7; have hb7W := hb.trans ((hbq.trans (hb7.mono hbq.size)).mono hb.size))
            | (at_builtin; refine append_bytes rfl (.tmp 30) (.tmp 32) rfl w.heap.size rfl hown7 rfl (ho7.bytes (bytesB_byte _)) (by have := hle1.out; have := hle2.out; have := hle3.out; omega) hb7W.size ?_; intro v8 w8 hown8 hb8))
          exact ⟨⟨_, c + 1, rfl, by go_num, hlt, by rw [truB]; exact hown8, hb7W.trans hb8⟩, by simp [intOf]; omega⟩
    · obtain rfl : c = 2 := by omega
      go_wp2
      go_ret
      exact ⟨_, rfl, hown, hb⟩
end Go.Proofs.YthpgfnhecfgiaaaGreatDoor
