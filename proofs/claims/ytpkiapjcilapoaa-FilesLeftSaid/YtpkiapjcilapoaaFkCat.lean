/-
  Changes of names, rows of them one behind the other.
-/
import Derived.Test.YtpkiapjcilapoaaFkLeft
namespace Go.Proofs.Ytpkiapjcilapoaa
open Go.RowKit Go.Sort Go.Maps

/-- append(v, x...), v the call's own, x any row. -/
theorem append_rows_any {P : Program} {t e : TypeId} {z : Value} {k bytes base : Nat} {w : World} {v : Value} {xs : List (List Value)} (E : ElemK P t e z k bytes) {ops : Array Oper} {rest : List Oper} {o : Oper} {a : Act} {Q : Exit → Act → World → Prop} (hgd : o.guard = none) (sv sx : Operand)
    (ho : o.op = .call { callee := .builtin .append, args := #[sv, sx], argTypes := #[t, t] }) {x : Value} {M : List (List Value)}
    (hs : a.eval sv = v) (hown : OwnRows w base e k v xs) (hx : a.eval sx = x) (hr : RowsAt k w x M) (h1 : ∀ y ∈ M, ∀ u ∈ y, u.oneCell' = true) (hle : (xs.length + M.length) * 64 ≤ 140737488355328) (hbase : base ≤ w.heap.size)
    (h : ∀ v' w', OwnRows w' base e k v' (xs ++ M) → Below base w w' → wpList P ops Q rest (a.put o.dst v') w') : wpList P ops Q (o :: rest) a w := by
  rcases Nat.eq_zero_or_pos M.length with h0 | hpos
  · have hM : M = [] := List.eq_nil_of_length_eq_zero h0
    subst hM
    obtain ⟨i0, hi0, hz0, hz1, hz2⟩ := info_parts E.hi
    obtain ⟨A, c, rfl, _, _, _, _, h6⟩ := hr
    rcases A with _ | ad
    · obtain rfl := h6 rfl
      refine wpList_append_own_none hgd sv sx t ho base e i0 k E.ht hi0 v xs.length xs.flatten hs hown.1 hx ?_
      exact h v w (by simpa using hown) (Below.refl _ _)
    · refine wpList_append_own w hgd sv sx t ho base e i0 z k bytes E.ht hi0 hz0 hz1 hz2 (by have := E.hz; exact this) E.hk v xs.length xs.flatten hs hown.1 ad 0 c [] hx (by simp) (by simp) (by simp) (by simp [maxLen]; omega) (by have := E.hb; simp only [Nat.add_zero]; have : xs.length * bytes ≤ xs.length * 64 := Nat.mul_le_mul_left _ E.hb; simp at hle; omega) hbase ?_
      intro v' w' k1 k2 _
      refine h v' w' ⟨by simpa using k1, by simpa using hown.2⟩ ?_
      exact (Turns.of_grown (F := v.ownBlock.toList) k2 (fun q hq => .inl (by rw [hq]; simp))).below hbase (fun b hb => (hown.block b (by simpa using hb)).1)
  · refine append_rows E hgd sv sx ho base hs hown hx hr hpos h1 hle hbase ?_
    intro v' w' k1 k2 _
    exact h v' w' k1 (k2.below hbase (fun b hb => (hown.block b (by simpa using hb)).1))

set_option maxRecDepth 20000 in
/-- A row of noughts, cut down to nothing. -/
theorem append_noughtsN {w : World} {ops : Array Oper} {rest : List Oper} {o : Oper} {a : Act} {Q : Exit → Act → World → Prop} (hgd : o.guard = none) (sv sx : Operand)
    (ho : o.op = .call { callee := .builtin .append, args := #[sv, sx], argTypes := #[59, 3] }) (k : Nat) (hk : 0 < k) (hk2 : k ≤ 10000000)
    (hs : a.eval sv = .slice none 0 0) (hx : a.eval sx = .int .i64 (k : Nat))
    (h : ∀ cap w', OwnRows w' w.heap.size 83 3 (.slice (some ⟨w.heap.size, 0, none⟩) 0 cap) [] → Below w.heap.size w w' → (∀ W, (Instr.slice 59 (.slice (some ⟨w.heap.size, 0, none⟩) k cap) none (some (.int .i64 0)) none).run Try.prog W = .ok (.slice (some ⟨w.heap.size, 0, none⟩) 0 cap) W) →
      wpList Try.prog ops Q rest (a.put o.dst (.slice (some ⟨w.heap.size, 0, none⟩) k cap)) w') : wpList Try.prog ops Q (o :: rest) a w := by
  obtain ⟨i0, hi0, hz0, hz1, hz2⟩ := info_parts elemNam.hi
  have hr := Lib.run_append_nil_zeros (P := Try.prog) w 59 3 o.type 83 i0 _ .i64 .i64 Try.underlying59 Try.underlying3 hi0 hz0 k hk (by rw [hz1]; omega) (by omega) (by rw [hz2]; omega)
  have hge := grownCap_ge w k 0 83
  have hlm := grownCap_le_maxLen w k 0 83 (by simp [maxLen]; omega)
  refine wpList_plain hgd fun K hK => ?_
  unfold Oper.wp execOp
  simp only [ho, resolve, invoke, builtin, Sem.run_bind, Sem.run_pure, Result.andThen_ok, List.map_toArray, List.map_cons, List.map_nil, hs, hx, hr]
  refine hK _ _ (h _ _ ⟨⟨rfl, .inr ⟨w.heap.size, _, _, rfl, Nat.le_refl _, heap_alloc_new w.drew _, Nat.zero_le _, hlm, ?_, by simp⟩⟩, by simp⟩ (((Below.refl _ w).drew).alloc (Nat.le_refl _) _) (fun W => ?_))
  · rw [Array.size_append, size_zeroCells, size_zeroCells]
    have : (Value.agg #[.pointer none, .string ByteArray.empty, .string ByteArray.empty]).cells.size = 3 := rfl
    rw [this, ← Nat.add_mul]
    congr 1
    omega
  · have he : Try.prog.elem 59 = 83 := by simp [Program.elem, Try.underlying59]
    have := run_slice_h (P := Try.prog) W 59 (some ⟨w.heap.size, 0, none⟩) k (grownCap w k 0 83) (by rw [he]; exact Try.underlying59) .i64 (0 : Int) (by omega) (by omega)
    rw [this, he, elemNam.hs]
    simp [Result.andThen, sliced, addr_at]
    try omega

set_option maxRecDepth 20000 in
set_option maxHeartbeats 2000000 in
theorem growN_any (w : World) (k : Nat) (hk : k ≤ 10000000) :
    Calls Try.prog 67 #[.slice none 0 0, .int .i64 (k : Nat)] w fun e w' => ∃ A c, e = .returned (.slice A 0 c) ∧ OwnRows w' w.heap.size 83 3 (.slice A 0 c) [] ∧ Below w.heap.size w w' := by
  rcases Nat.eq_zero_or_pos k with rfl | hpos
  · go_enter Try.func67, Try.ntmps67
    go_wp2
    go_ret
    exact ⟨_, _, rfl, OwnRows.none_ _ _ _ _, Below.refl _ _⟩
  · go_enter Try.func67, Try.ntmps67
    go_wp2_with (at_builtin; refine append_noughtsN rfl (.tmp 20) (.tmp 21) rfl k hpos hk rfl (by rfl) ?_; intro cap w1 hown1 hb1 hcut)
    go_ret
    exact ⟨_, _, rfl, hown1, hb1⟩

abbrev Cat := List (Value × List (List Value))
def catCells (p : Value × List (List Value)) : List Value := [p.1]
def allRows (l : Cat) : List (List Value) := l.flatMap (·.2)
theorem allRows_snoc {l : Cat} {i : Nat} {x : Value × List (List Value)} (h : l[i]? = some x) : allRows (l.take (i + 1)) = allRows (l.take i) ++ x.2 := by
  rw [take_snoc h]; simp [allRows]
theorem allRows_take (l : Cat) (i : Nat) : (allRows (l.take i)).length ≤ (allRows l).length := by
  have h : allRows l = allRows (l.take i) ++ allRows (l.drop i) := by
    unfold allRows
    rw [← List.flatMap_append, List.take_append_drop]
  rw [h, List.length_append]; omega
theorem cats_at {l : Cat} {i : Nat} {x : Value × List (List Value)} (h : l[i]? = some x) : (l.map catCells)[i]? = some [x.1] := by rw [List.getElem?_map, h]; rfl
theorem htCat : Try.prog.underlying 113 = some (.slice 59) := Try.underlying113
theorem hsCat : ∀ W, (sizeOf 59).run Try.prog W = .ok 1 W := fun W => by kernel_rfl

set_option maxRecDepth 20000 in
set_option maxHeartbeats 4000000 in
theorem concatN_any {w : World} {cv : Value} {l : Cat} (h : RowsAt 1 w cv (l.map catCells)) (hb : ∀ x ∈ l, RowsAt 3 w x.1 x.2 ∧ ∀ y ∈ x.2, ∀ u ∈ y, u.oneCell' = true) (hsum : (allRows l).length ≤ 100000) :
    Calls Try.prog 53 #[cv] w fun e w' => ∃ v', e = .returned v' ∧ OwnRows w' w.heap.size 83 3 v' (allRows l) ∧ Below w.heap.size w w' := by
  have hlv : ∀ W, (Builtin.len_ #[113] 3 #[cv]).run Try.prog W = .ok (.int .i64 (l.length : Nat)) W := fun W => by
    have := h.len htCat (ty := 3) W; rwa [List.length_map] at this
  have hle := h.le
  rw [List.length_map] at hle
  have h := Lib.hid h
  have hb := Lib.hid hb
  go_enter Try.func53, Try.ntmps53
  go_wp2
  go_loop [3, 11] (fun s t => ∃ i : Nat, s = .int .i64 ((allRows (l.take i)).length : Nat) ∧ t = .int .i64 (i : Nat) ∧ i ≤ l.length) (fun _ t => l.length - (intOf t).toNat)
  case atStart => exact ⟨0, rfl, rfl, by omega⟩
  case round =>
    obtain ⟨i, rfl, rfl, hi⟩ := hrel
    rcases Nat.lt_or_ge i l.length with hil | hil
    · obtain ⟨x, hx⟩ : ∃ x, l[i]? = some x := ⟨_, List.getElem?_eq_getElem hil⟩
      have hbv := (hb.out x (List.mem_of_getElem? hx)).1
      obtain ⟨b, off, hix, hc, _, _⟩ := h.out.index htCat hsCat (cats_at hx)
      have k0 : w.cell? ⟨b, off, none⟩ = some x.1 := hc 0 _ rfl
      have hlx := fun W => hbv.len elemNam.ht (ty := 3) W
      have hsn := congrArg List.length (allRows_snoc hx)
      have hlen := allRows_take l (i + 1)
      rw [hsn, List.length_append] at hlen
      rw [List.length_append] at hsn
      obtain ⟨v, bb⟩ := x
      dsimp only at hlx k0 hsn hlen
      obtain ⟨S, hS⟩ : ∃ S, (allRows (l.take i)).length = S := ⟨_, rfl⟩
      rw [hS] at hsn hlen ⊢
      have hsn := Lib.hid hsn
      clear hc hx hbv hS
      go_wp2
      exact ⟨⟨i + 1, by rw [hsn.out]; go_num, by go_num, by omega⟩, by simp [intOf]; omega⟩
    · have hd : l.take i = l := List.take_of_length_le hil
      rw [hd]
      have hil' : ¬ ((i : Int) < (l.length : Int)) := by omega
      obtain ⟨S, hS⟩ : ∃ S, (allRows l).length = S := ⟨_, rfl⟩
      have hsum' := hsum
      rw [hS] at hsum' ⊢
      have cG := Lib.hid (growN_any w S (by omega))
      clear hd
      go_wp2_with (go_at_call 67; refine cG.out.mono ?_; rintro e w1 ⟨A1, c1, rfl, hown1, hb1⟩)
      clear hlv
      have hlv : ∀ W, (Builtin.len_ #[113] 3 #[cv]).run Try.prog W = .ok (.int .i64 (l.length : Nat)) W := fun W => by
        have := h.out.len htCat (ty := 3) W; rwa [List.length_map] at this
      go_loopw [6, 27] (fun o' t wr => ∃ (o : Value) (i : Nat), o = o' ∧ t = .int .i64 (i : Nat) ∧ i ≤ l.length ∧ OwnRows wr w.heap.size 83 3 o (allRows (l.take i)) ∧ Below w.heap.size w wr) (fun _ t _ => l.length - (intOf t).toNat)
      case atStart => exact ⟨_, 0, rfl, rfl, by omega, hown1, hb1⟩
      case round =>
        clear hown1 hb1 cG
        obtain ⟨o, i, rfl, rfl, hi, hown, hbel⟩ := hrel
        rcases Nat.lt_or_ge i l.length with hil | hil
        · obtain ⟨x, hx⟩ : ∃ x, l[i]? = some x := ⟨_, List.getElem?_eq_getElem hil⟩
          have hbv := hide ((hb.out x (List.mem_of_getElem? hx)).1.below hbel)
          have hb1c := hide (hb.out x (List.mem_of_getElem? hx)).2
          obtain ⟨b, off, hix, hc, _, _⟩ := (RowsAt.below h.out hbel).index htCat hsCat (cats_at hx)
          have k0 : wr.cell? ⟨b, off, none⟩ = some x.1 := hc 0 _ rfl
          have hd := allRows_snoc hx
          have hlen := allRows_take l (i + 1)
          rw [hd, List.length_append] at hlen
          obtain ⟨v, bb⟩ := x
          dsimp only at hbv hb1c k0 hd hlen
          have hd := Lib.hid hd
          clear hc hx
          go_wp2_with (at_builtin; refine append_rows_any elemNam rfl (.tmp 31) (.tmp 32) rfl rfl hown rfl hbv.out hb1c.out (by omega) hbel.size ?_; intro v2 w2 hown2 hb2; have hbel2 := hbel.trans hb2)
          go_roundw
          case rel => exact ⟨v2, i + 1, rfl, by go_num, by omega, by rw [hd.out]; exact hown2, hbel2⟩
          case measure => simp [intOf]; omega
        · have hd : l.take i = l := List.take_of_length_le hil
          rw [hd] at hown
          clear hd
          go_wp2
          go_ret
          exact ⟨_, rfl, hown, hbel⟩
end Go.Proofs.Ytpkiapjcilapoaa
