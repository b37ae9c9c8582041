/-
  The columns of texts, as bytes.
-/
import Derived.Test.YthpgfnhecfgiaaaGreatDoorBaTru
import Derived.Lib.AppendStr
namespace Go.Proofs.YthpgfnhecfgiaaaGreatDoor
open Go.RowKit Go.Sort
set_option maxRecDepth 20000

theorem texO_cell (o : OpV) {c : Nat} (hc : c < 3) : (OpC o)[17 + c]? = some (.string (txt o c)) := by
  rcases (by omega : c = 0 ∨ c = 1 ∨ c = 2) with rfl | rfl | rfl <;> rfl
theorem tex_ptr {c b off : Nat} (hc : c < 3) : (#[Value.pointer (some ⟨b, off + 17, none⟩), Value.pointer (some ⟨b, off + 18, none⟩), Value.pointer (some ⟨b, off + 19, none⟩)] : Array Value)[c]? = some (.pointer (some ⟨b, off + (17 + c), none⟩)) := by
  rcases (by omega : c = 0 ∨ c = 1 ∨ c = 2) with rfl | rfl | rfl <;> rfl

set_option maxHeartbeats 1000000 in
theorem texts_any (b off : Nat) (w : World) : Calls Tryz.prog 50 #[.pointer (some ⟨b, off, none⟩)] w fun e w' => ∃ q, e = .returned (.slice (some ⟨q, 0, none⟩) 3 3) ∧ w'.heap[q]? = some (.cells #[.pointer (some ⟨b, off + 17, none⟩), .pointer (some ⟨b, off + 18, none⟩), .pointer (some ⟨b, off + 19, none⟩)] 104) ∧ w.heap.size ≤ q ∧ Below w.heap.size w w' := by
  go_enter Tryz.func50, Tryz.ntmps50
  go_wp2
  go_region
  go_wp2
  go_ret
  exact ⟨_, rfl, Go.heap_alloc_new w _, Nat.le_refl _, below_drewN (below_box1 w _) 1⟩

theorem lenL_snoc {l : List OpV} {k : Nat} {o : OpV} (h : l[k]? = some o) (c : Nat) : lenL (l.take (k + 1)) c = lenL (l.take k) c ++ [((txt o c).size : Int)] := by
  rw [List.take_add_one, h]; simp [lenL]
theorem allT_take {l : List OpV} {k : Nat} {o : OpV} (h : l[k]? = some o) (c : Nat) : allT (l.take (k + 1)) c = allT (l.take k) c ++ strN (txt o c) := by
  rw [List.take_add_one, h]; exact allT_snoc _ _ _
theorem strCells_strN (s : ByteArray) : Lib.strCells s = bvals (strN s) := by
  unfold Lib.strCells bvals strN
  rw [List.map_map]
  exact List.map_congr_left fun x _ => rfl

/-- Rows of unlike elements share no block. -/
theorem apart_types {w : World} {b b' : Nat} {e e' : TypeId} {v u : Value} {xs ys : List Value} (h : OwnRow w b e v xs) (h' : OwnRow w b' e' u ys) (hne : e ≠ e') : u.ownBlock = none ∨ u.ownBlock ≠ v.ownBlock := by
  rcases h.2 with ⟨rfl, _⟩ | ⟨g, cap, cur, rfl, _, hg, _⟩
  · cases hu : u.ownBlock with
    | none => exact .inl rfl
    | some k => exact .inr (by simp [Value.ownBlock])
  · rcases h'.2 with ⟨rfl, _⟩ | ⟨g', cap', cur', rfl, _, hg', _⟩
    · exact .inl (by simp [Value.ownBlock])
    · refine .inr fun he => ?_
      simp [Value.ownBlock] at he
      subst he
      rw [hg] at hg'
      injection hg' with hg'
      injection hg' with _ ht _
      exact hne ht

/-- append(v, s...): v the call's own, s a text; a row of other elements stays. -/
theorem append_text {ops : Array Oper} {rest : List Oper} {o : Oper} {a : Act} {w : World} {v u : Value} {L : List Nat} {ys : List Value} {e' : TypeId} {Q : Exit → Act → World → Prop} (hgd : o.guard = none) (sv sx : Operand)
    (ho : o.op = .call { callee := .builtin .append, args := #[sv, sx], argTypes := #[22, 9] }) (base : Nat) {s : ByteArray}
    (hs : a.eval sv = v) (hown : Own w base v L) (hoth : OwnRow w base e' u ys) (hne : 5 ≠ e') (hx : a.eval sx = .string s) (hle : L.length + s.size ≤ 140737488355328) (hbase : base ≤ w.heap.size)
    (h : ∀ v' w', Own w' base v' (L ++ strN s) → OwnRow w' base e' u ys → Below base w w' → wpList Tryz.prog ops Q rest (a.put o.dst v') w') : wpList Tryz.prog ops Q (o :: rest) a w := by
  obtain ⟨i0, hi0, hz0, hz1, hz2⟩ := info_parts info_u8
  refine Lib.wpList_append_own_string w hgd sv sx 22 9 ho base 5 i0 Tryz.underlying22 Tryz.underlying9 hi0 hz0 hz1 hz2 v L.length (bvals L) hs hown s hx (by unfold maxLen; omega) hle hbase ?_
  intro v' w' h2 h3 _
  have hown' : OwnRow w base 5 v (bvals L) := by have := hown; unfold Own at this; unfold OwnRow; rw [bvals_length]; exact this
  refine h v' w' ?_ (World.ownsRow.kept hoth h3 (apart_types hown' hoth hne)) ((Below.refl _ _).grown h3 hbase fun k hk => (World.ownsRow.lt hown k hk).1)
  rw [strCells_strN] at h2
  simpa [Own, bvals, strN_len] using h2

/-- append(v, x): v the call's own; a row of other elements stays. -/
theorem append_cell {P : Program} {t e e' : TypeId} {z : Value} {bytes : Nat} (E : Elem P t e z bytes) {ops : Array Oper} {rest : List Oper} {o : Oper} {a : Act} {w : World} {v u x : Value} {xs ys : List Value} {Q : Exit → Act → World → Prop} (hgd : o.guard = none) (sv sx : Operand)
    (ho : o.op = .call { callee := .builtin .append, args := #[sv, sx], argTypes := #[t, t] }) (base : Nat)
    (hs : a.eval sv = v) (hown : OwnRow w base e v xs) (hoth : OwnRow w base e' u ys) (hne : e ≠ e') (hx : a.eval sx = .slice (some ⟨w.heap.size, 0, none⟩) 1 1) (h1 : x.oneCell' = true) (hle : (xs.length + 1) * 8 ≤ 140737488355328) (hbase : base ≤ w.heap.size)
    (h : ∀ v' w', OwnRow w' base e v' (xs ++ [x]) → OwnRow w' base e' u ys → Below base w w' → wpList P ops Q rest (a.put o.dst v') w') : wpList P ops Q (o :: rest) a (w.alloc (.cells #[x] e)) := by
  obtain ⟨i0, hi0, hz0, hz1, hz2⟩ := info_parts E.hi
  have hb8 : (xs.length + 1) * bytes ≤ 140737488355328 := Nat.le_trans (Nat.mul_le_mul_left _ E.hb) hle
  have hbase' : base ≤ (w.alloc (.cells #[x] e)).heap.size := by simp; omega
  refine wpList_append_own (w.alloc (.cells #[x] e)) hgd sv sx t ho base e i0 z 1 bytes E.ht hi0 hz0 hz1 hz2 E.hz (by decide) v xs.length xs hs (hown.alloc _) ⟨w.heap.size, 0, none⟩ 1 1 [x] hx rfl ?_ (by simpa using h1) (by unfold maxLen; omega) hb8 hbase' ?_
  · intro j y hj
    have hi : j = 0 := by have := (List.getElem?_eq_some_iff.1 hj).1; simpa using this
    subst hi
    simp at hj
    subst hj
    rw [addr_at]
    go_simp
  · intro v' w' h2 h3 _
    refine h v' w' (by simpa [OwnRow] using h2) (World.ownsRow.kept (hoth.alloc _) h3 (apart_types hown hoth hne)) (Below.trans ((Below.refl _ _).alloc hbase _) ((hown.alloc (.cells #[x] e)).grown h3 hbase'))

section
variable {w : World} {v x : Value} {L M : List Nat}
/-- append(v, x...), and what of the rest stays. -/
theorem append_bytes_g {ops : Array Oper} {rest : List Oper} {o : Oper} {a : Act} {Q : Exit → Act → World → Prop} (hgd : o.guard = none) (sv sx : Operand)
    (ho : o.op = .call { callee := .builtin .append, args := #[sv, sx], argTypes := #[22, 22] }) (base : Nat)
    (hs : a.eval sv = v) (hown : Own w base v L) (hx : a.eval sx = x) (hb : BytesAt w x M) (hle : L.length + M.length ≤ 140737488355328) (hbase : base ≤ w.heap.size)
    (h : ∀ v' w', Own w' base v' (L ++ M) → Below base w w' → w.grownBy w' v.ownBlock → wpList Tryz.prog ops Q rest (a.put o.dst v') w') : wpList Tryz.prog ops Q (o :: rest) a w := by
  obtain ⟨i0, hi0, hz0, hz1, hz2⟩ := info_parts info_u8
  obtain ⟨A, c, rfl, _, _, _, hc, h0⟩ := hb
  rcases A with _ | ad
  · have hM : M = [] := by
      cases M with
      | nil => rfl
      | cons y t => obtain ⟨_, _, hh, _⟩ := hc (by simp); cases hh
    subst hM
    obtain rfl := h0 rfl
    refine wpList_append_own_none hgd sv sx 22 ho base 5 i0 1 Tryz.underlying22 hi0 v L.length (bvals L) hs hown hx ?_
    exact h v w (by simpa using hown) (Below.refl _ _) ⟨rfl, rfl, rfl, Nat.le_refl _, fun _ _ _ => rfl⟩
  · refine wpList_append_own w hgd sv sx 22 ho base 5 i0 (.int .u8 0) 1 1 Tryz.underlying22 hi0 hz0 hz1 hz2 rfl (by decide) v L.length (bvals L) hs hown ad M.length c (bvals M) hx (by simp [bvals]) ?_ (bvals_one M) (by unfold maxLen; omega) (by omega) hbase ?_
    · intro j u hu
      have hj : j < M.length := by
        rcases Nat.lt_or_ge j M.length with hh | hh
        · exact hh
        · rw [List.getElem?_eq_none (by simpa [bvals] using hh)] at hu; cases hu
      obtain ⟨b, off, he, _, hcell⟩ := hc (by omega)
      injection he with he
      subst he
      rw [add_at, hcell j hj]
      simp [bvals, List.getElem?_eq_getElem hj] at hu
      simp [List.getD, List.getElem?_eq_getElem hj, ← hu, bval]
    · intro v' w' h1 h2 _
      exact h v' w' (by simpa [Own, bvals_append] using h1) (grown_below hown h2 hbase) h2

end

set_option maxHeartbeats 4000000 in
theorem putTexts_any (v : Value) (l : List OpV) (w : World) (hv : OpsAt w v l) (hl : l.length ≤ 1000) (ht : ∀ o ∈ l, TxtR 1000 o) :
    Calls Tryz.prog 24 #[v] w fun e w' => ∃ v', e = .returned v' ∧ Own w' w.heap.size v' (texB l 3) ∧ Below w.heap.size w w' := by
  have hll := fun W => hv.len 3 W
  have hle := hv.le
  have hv := Lib.hid hv
  go_enter Tryz.func24, Tryz.ntmps24
  go_wp2_with (go_at_call 50; refine (texts_any _ _ _).mono ?_; rintro e w1 ⟨q, rfl, hq, hql, hb1⟩)
  have hb1 := then_call (below_box1 w _) hb1
  clear hq hql
  go_loopw [3, 13] (fun o' t wr => ∃ (o : Value) (c : Nat), o = o' ∧ t = .int .i64 c ∧ c ≤ 3 ∧ Own wr w.heap.size o (texB l c) ∧ Below w.heap.size w wr) (fun _ t _ => 3 - (intOf t).toNat)
  case atStart => exact ⟨_, 0, rfl, rfl, by omega, own_none _ _, hb1⟩
  case round =>
    clear hb1
    obtain ⟨o, c, rfl, rfl, hc, hown, hb⟩ := hrel
    by_cases hlt : c < 3
    · have hc4 : (c : Int) < 3 := by omega
      obtain ⟨wa, hwa⟩ : ∃ wa, wa = wr := ⟨_, rfl⟩
      subst hwa
      go_wp2
      go_loopw [5, 6, 18] (fun o' b' t wq => ∃ (u bv : Value) (k : Nat), u = o' ∧ bv = b' ∧ t = .int .i64 k ∧ k ≤ l.length ∧ OwnRow wq wa.heap.size 3 u (ints (lenL (l.take k) c)) ∧ Own wq wa.heap.size bv (allT (l.take k) c) ∧ Below wa.heap.size wa wq) (fun _ _ t _ => l.length - (intOf t).toNat)
      case atStart => exact ⟨_, _, 0, rfl, rfl, rfl, Nat.zero_le _, OwnRow.none_ _ _ _, own_none _ _, Below.refl _ _⟩
      case round =>
        obtain ⟨u, bv, k, rfl, rfl, rfl, hk, hrow, hbv, hbq⟩ := hrel
        by_cases hlk : k < l.length
        · have hk4 : (k : Int) < (l.length : Int) := by omega
          obtain ⟨x, hx⟩ : ∃ x, l[k]? = some x := ⟨_, List.getElem?_eq_getElem hlk⟩
          obtain ⟨bk, off, hix, hel, hbk⟩ := hv.out.index hx
          have hel := range_after hel (hb.trans (hbq.mono hb.size)) hbk
          obtain ⟨p, W2, hp, h0, hW2, hb2, hX⟩ := new_op_of hbq x
          have hbW := hbq.trans (hb2.mono hbq.size)
          have hrow2 := hrow.below hb2
          have hbv2 := hbv.later hb2
          have hpl := hX.lt
          have hXc := hX.cell (texO_cell x hlt)
          obtain ⟨y, hy⟩ : ∃ y, txt x c = y := ⟨_, rfl⟩
          rw [hy] at hXc
          have hys : y.size ≤ 1000 := by rw [← hy]; exact ht x (List.mem_of_getElem? hx) c hlt
          have hys4 : (y.size : Int) ≤ 9223372036854775807 := by omega
          have hsn := Lib.hid (lenL_snoc hx c)
          have hsa := Lib.hid (allT_take hx c)
          rw [hy] at hsn hsa
          have hlen := Lib.hid (show (lenL (l.take k) c).length ≤ 1000 by simp [lenL]; omega)
          have hlen2 : Hid ((allT (l.take k) c).length ≤ 1000000) := Lib.hid (by
            have h1 := allT_len (l := l.take k) (c := c) (n := 1000) fun o ho => ht o (List.mem_of_mem_take ho) c hlt
            have h2 : (l.take k).length ≤ 1000 := by rw [List.length_take]; omega
            have h3 := Nat.mul_le_mul_right 1000 h2
            omega)
          clear hy
          have hrow2 := Lib.hid hrow2
          have hbv2 := Lib.hid hbv2
          have hX := Lib.hid hX
          have hXc := Lib.hid hXc
          have hys := Lib.hid hys
          have hixp := fun (q : Nat) (W : World) => ix_one (P := Tryz.prog) (t := 102) (e := 104) (g := q) (n := 3) (cap := 3) Tryz.underlying102 (fun W => by kernel_rfl) hlt W
          clear hrow hbv
          go_wp2_with (first
            | ((with_reducible refine load_mid hel ?_ ?_ ?_); rfl; rfl)
            | ((with_reducible refine store_op (x := x) h0 ?_ ?_ ?_); rfl; rfl; rw [hW2])
            | (go_at_call 50; refine (texts_any p 0 _).mono ?_; rintro e w3 ⟨q, rfl, hq, hql, hb3⟩; have e1 : w3.cell? ⟨q, c, none⟩ = _ := cell_held hq (tex_ptr hlt); rw [Nat.zero_add] at e1; have e2 := (hb3.cell (p := ⟨p, 17 + c, none⟩) hpl).trans hXc.out; have hrow3 := hrow2.out.below hb3; have hbv3 := hbv2.out.later hb3; have hb3W := hbW.trans (hb3.mono hbW.size); have hixq := hixp q; clear hq)
            | (at_builtin; refine append_text rfl (.tmp 33) (.tmp 34) rfl wa.heap.size rfl hbv6 hrow6 (by decide) rfl (by have := hlen2.out; have := hys.out; omega) hb6W.size ?_; intro v7 w7 hbv7 hrow7 hb7; have hb7W := hb6W.trans hb7)
            | (at_builtin; refine append_cell elemI rfl (.tmp 28) (.tmp 31) rfl wa.heap.size rfl hrow3 (show OwnRow w3 wa.heap.size 5 bv (bvals (allT (l.take k) c)) from by have := hbv3; unfold Own at this; unfold OwnRow; rw [bvals_length]; exact this) (by decide) rfl rfl (by have := hlen.out; rw [ints_len]; omega) (by have := hb3W.size; omega) ?_; intro v6 w6 hrow6 hbv6' hb6; have hbv6 : Own w6 wa.heap.size bv (allT (l.take k) c) := (by unfold OwnRow at hbv6'; rw [bvals_length] at hbv6'; exact hbv6'); have hb6W := hb3W.trans hb6))
          exact ⟨⟨_, _, k + 1, rfl, rfl, by go_num, hlk, by rw [hsn.out]; simpa [ints] using hrow7, by rw [hsa.out]; exact hbv7, hb7W⟩, by simp [intOf]; omega⟩
        · obtain rfl : k = l.length := by omega
          rw [List.take_length] at hrow hbv
          have hle1 := Lib.hid (texB_len ht hl (k := c) hc)
          have hle2 := Lib.hid (bytesR_len (l := lenL l c) (lenL_in fun o ho => ht o ho c hlt) (by simp [lenL]; omega))
          have hle3 : Hid ((lenL l c).length ≤ 1000) := Lib.hid (by simp [lenL]; omega)
          have hle4 : Hid ((allT l c).length ≤ 1000000) := Lib.hid (by
            have h1 := allT_len (l := l) (c := c) (n := 1000) fun o ho => ht o ho c hlt
            have h3 := Nat.mul_le_mul_right 1000 hl
            omega)
          have hin := Lib.hid (lenL_in fun o ho => ht o ho c hlt)
          have hne : Hid (bv.ownBlock = none ∨ bv.ownBlock ≠ o.ownBlock) := Lib.hid (by
            cases h1 : bv.ownBlock with
            | none => exact .inl rfl
            | some k =>
              refine .inr fun h2 => ?_
              have h3 := (World.ownsRow.lt hbv k h1).1
              have h4 := (World.ownsRow.lt hown k h2.symm).2
              omega)
          have hown := Lib.hid hown
          have hrow := Lib.hid hrow
          have hbv := Lib.hid hbv
          go_wp2_with (first
            | (go_at_call 47; refine (cRuns_any _ (lenL l c) _ hrow.out.row hin.out (by have := hle3.out; omega)).mono ?_; rintro e w7 ⟨v7, rfl, ho7, hb7⟩; have hown7 := (hown.out.later hbq).later hb7; have hbv7 := hbv.out.later hb7; have hb7W := hb.trans ((hbq.trans (hb7.mono hbq.size)).mono hb.size))
            | (at_builtin; refine append_bytes rfl (.tmp 41) (.tmp 42) rfl w.heap.size rfl hown8 rfl hbv8 (by have := hle1.out; have := hle2.out; have := hle3.out; have := hle4.out; rw [List.length_append]; omega) hb8W.size ?_; intro v9 w9 hown9 hb9)
            | (at_builtin; refine append_bytes_g rfl (.tmp 37) (.tmp 39) rfl w.heap.size rfl hown7 rfl (ho7.bytes (bytesR_byte _)) (by have := hle1.out; have := hle2.out; have := hle3.out; omega) hb7W.size ?_; intro v8 w8 hown8 hb8 hg8; have hb8W := hb7W.trans hb8; have hbv8 : BytesAt w8 bv (allT l c) := Own.bytes (base := wa.heap.size) (World.ownsRow.kept hbv7 hg8 hne.out) (allT_byte _ _)))
          exact ⟨⟨_, c + 1, rfl, by go_num, hlt, by rw [texB, ← List.append_assoc]; exact hown9, hb8W.trans hb9⟩, by simp [intOf]; omega⟩
    · obtain rfl : c = 3 := by omega
      go_wp2
      go_ret
      exact ⟨_, rfl, hown, hb⟩
end Go.Proofs.YthpgfnhecfgiaaaGreatDoor
