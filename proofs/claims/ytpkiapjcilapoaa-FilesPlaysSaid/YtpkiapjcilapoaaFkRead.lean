/-
  All parts of a file, one behind the other; what the program's own disk reads.
-/
import Derived.Test.YtpkiapjcilapoaaFkNames
import Derived.Test.YtpkiapjcilapoaaZeros
namespace Go.Proofs.Ytpkiapjcilapoaa
open Go.RowKit Go.Sort Go.Maps

/-- append(v, make([]byte, k)...) as an operation. -/
theorem append_zeros {w : World} {base : Nat} {v : Value} {L : List Nat} {ops : Array Oper} {rest : List Oper} {o : Oper} {a : Act} {Q : Exit → Act → World → Prop} (hgd : o.guard = none) (sv sx : Operand)
    (ho : o.op = .call { callee := .builtin .append, args := #[sv, sx], argTypes := #[30, 3] }) (k : Nat)
    (hs : a.eval sv = v) (hown : Own w base v L) (hx : a.eval sx = .int .i64 (k : Nat)) (hle : (L.length + k) * 8 ≤ 140737488355328) (hbase : base ≤ w.heap.size)
    (h : ∀ A m c w', Own w' base (.slice A m c) (L ++ List.replicate k 0) → Below base w w' → wpList Try.prog ops Q rest (a.put o.dst (.slice A m c)) w') : wpList Try.prog ops Q (o :: rest) a w := by
  obtain ⟨A, m, c, w', hr, h2, h3⟩ := run_append_zeros hown k hle hbase o.type
  refine wpList_plain hgd fun K hK => ?_
  unfold Oper.wp execOp
  simp only [ho, resolve, invoke, builtin, Sem.run_bind, Sem.run_pure, Result.andThen_ok, List.map_toArray, List.map_cons, List.map_nil, hs, hx, hr]
  exact hK _ _ (h A m c w' h2 h3)

/-- A row of the call's own, cut down to nothing. -/
theorem own_cut0 {w : World} {base : Nat} {v : Value} {L : List Nat} (hown : Own w base v L) : ∃ A c, (∀ W, (Instr.slice 30 v none (some (.int .i64 0)) none).run Try.prog W = .ok (.slice A 0 c) W) ∧ Own w base (.slice A 0 c) [] := by
  have he : Try.prog.elem 30 = 5 := by simp [Program.elem, Try.underlying30]
  have hs : ∀ W, (sizeOf 5).run Try.prog W = .ok 1 W := fun W => by kernel_rfl
  rcases hown.2 with ⟨rfl, h0⟩ | ⟨g, cap, cur, rfl, hb, hg, hnc, hcm, hcs, htk⟩
  · refine ⟨none, 0, fun W => ?_, own_none _ _⟩
    have := run_slice_h (P := Try.prog) W 30 none 0 0 (by rw [he]; exact Try.underlying30) .i64 (0 : Int) (by omega) (by omega)
    rw [this, he, hs]
    simp [Result.andThen, sliced]
  · rcases Nat.eq_zero_or_pos cap with h0 | h0
    · subst h0
      refine ⟨some ⟨g, 0, none⟩, 0, fun W => ?_, by simp [bvals], .inr ⟨g, 0, cur, rfl, hb, hg, by simp, hcm, hcs, by simp [bvals]⟩⟩
      have := run_slice_h (P := Try.prog) W 30 (some ⟨g, 0, none⟩) L.length 0 (by rw [he]; exact Try.underlying30) .i64 (0 : Int) (by omega) (by omega)
      rw [this, he, hs]
      simp [Result.andThen, sliced]
    · refine ⟨some ⟨g, 0, none⟩, cap, fun W => ?_, by simp [bvals], .inr ⟨g, cap, cur, rfl, hb, hg, by simp, hcm, hcs, by simp [bvals]⟩⟩
      have := run_slice_h (P := Try.prog) W 30 (some ⟨g, 0, none⟩) L.length cap (by rw [he]; exact Try.underlying30) .i64 (0 : Int) (by omega) (by omega)
      rw [this, he, hs]
      simp [Result.andThen, sliced, addr_at]

set_option maxRecDepth 20000 in
set_option maxHeartbeats 2000000 in
theorem growB_any (w : World) (k : Nat) (hk : k ≤ 100000000) :
    Calls Try.prog 65 #[.slice none 0 0, .int .i64 (k : Nat)] w fun e w' => ∃ A c, e = .returned (.slice A 0 c) ∧ Own w' w.heap.size (.slice A 0 c) [] ∧ Below w.heap.size w w' := by
  rcases Nat.eq_zero_or_pos k with rfl | hpos
  · go_enter Try.func65, Try.ntmps65
    go_wp2
    go_ret
    exact ⟨_, _, rfl, own_none _ _, Below.refl _ _⟩
  · go_enter Try.func65, Try.ntmps65
    go_wp2_with (at_builtin; refine append_zeros rfl (.tmp 20) (.tmp 21) rfl k rfl (own_none w w.heap.size) (by rfl) (by simp; omega) (Nat.le_refl _) ?_; intro A m c w1 hown1 hb1; obtain ⟨A', c', hcut, hown2⟩ := own_cut0 hown1)
    go_ret
    exact ⟨_, _, rfl, hown2, hb1⟩

def allParts (l : List (Value × List Nat)) : List Nat := l.flatMap (·.2)
theorem allParts_snoc {l : List (Value × List Nat)} {i : Nat} {x : Value × List Nat} (h : l[i]? = some x) : allParts (l.take (i + 1)) = allParts (l.take i) ++ x.2 := by
  rw [take_snoc h]; simp [allParts]
theorem allParts_take (l : List (Value × List Nat)) (i : Nat) : (allParts (l.take i)).length ≤ (allParts l).length := by
  have h : allParts l = allParts (l.take i) ++ allParts (l.drop i) := by
    unfold allParts
    rw [← List.flatMap_append, List.take_append_drop]
  rw [h, List.length_append]; omega
theorem parts_at {l : List (Value × List Nat)} {i : Nat} {x : Value × List Nat} (h : l[i]? = some x) : (l.map partCells)[i]? = some [x.1] := by rw [List.getElem?_map, h]; rfl

set_option maxRecDepth 20000 in
set_option maxHeartbeats 4000000 in
theorem concatB_any {w : World} {cv : Value} {l : List (Value × List Nat)} (h : RowsAt 1 w cv (l.map partCells)) (hb : ∀ x ∈ l, BytesAt w x.1 x.2) (hsum : (allParts l).length ≤ 100000000) :
    Calls Try.prog 48 #[cv] w fun e w' => ∃ v', e = .returned v' ∧ Own w' w.heap.size v' (allParts l) ∧ Below w.heap.size w w' := by
  have hlv : ∀ W, (Builtin.len_ #[73] 3 #[cv]).run Try.prog W = .ok (.int .i64 (l.length : Nat)) W := fun W => by
    have := h.len elemB.ht (ty := 3) W; rwa [List.length_map] at this
  have hle := h.le
  rw [List.length_map] at hle
  have h := Lib.hid h
  have hb := Lib.hid hb
  go_enter Try.func48, Try.ntmps48
  go_wp2
  go_loop [3, 11] (fun s t => ∃ i : Nat, s = .int .i64 ((allParts (l.take i)).length : Nat) ∧ t = .int .i64 (i : Nat) ∧ i ≤ l.length) (fun _ t => l.length - (intOf t).toNat)
  case atStart => exact ⟨0, rfl, rfl, by omega⟩
  case round =>
    obtain ⟨i, rfl, rfl, hi⟩ := hrel
    rcases Nat.lt_or_ge i l.length with hil | hil
    · obtain ⟨x, hx⟩ : ∃ x, l[i]? = some x := ⟨_, List.getElem?_eq_getElem hil⟩
      have hbv := hb.out x (List.mem_of_getElem? hx)
      obtain ⟨b, off, hix, hc, _, _⟩ := h.out.index elemB.ht elemB.hs (parts_at hx)
      have k0 : w.cell? ⟨b, off, none⟩ = some x.1 := hc 0 _ rfl
      have hlx := fun W => hbv.len (ty := 3) W
      have hsn := congrArg List.length (allParts_snoc hx)
      have hlen := allParts_take l (i + 1)
      rw [hsn, List.length_append] at hlen
      rw [List.length_append] at hsn
      obtain ⟨v, bb⟩ := x
      dsimp only at hlx k0 hsn hlen
      obtain ⟨S, hS⟩ : ∃ S, (allParts (l.take i)).length = S := ⟨_, rfl⟩
      rw [hS] at hsn hlen ⊢
      have hsn := Lib.hid hsn
      clear hc hx hbv hS
      go_wp2
      exact ⟨⟨i + 1, by rw [hsn.out]; go_num, by go_num, by omega⟩, by simp [intOf]; omega⟩
    · have hd : l.take i = l := List.take_of_length_le hil
      rw [hd]
      have hil' : ¬ ((i : Int) < (l.length : Int)) := by omega
      obtain ⟨S, hS⟩ : ∃ S, (allParts l).length = S := ⟨_, rfl⟩
      have hsum' := hsum
      rw [hS] at hsum' ⊢
      have cG := Lib.hid (growB_any w S hsum')
      clear hd
      go_wp2_with (go_at_call 65; refine cG.out.mono ?_; rintro e w1 ⟨A1, c1, rfl, hown1, hb1⟩)
      clear hlv
      have hlv : ∀ W, (Builtin.len_ #[73] 3 #[cv]).run Try.prog W = .ok (.int .i64 (l.length : Nat)) W := fun W => by
        have := h.out.len elemB.ht (ty := 3) W; rwa [List.length_map] at this
      go_loopw [6, 27] (fun o' t wr => ∃ (o : Value) (i : Nat), o = o' ∧ t = .int .i64 (i : Nat) ∧ i ≤ l.length ∧ Own wr w.heap.size o (allParts (l.take i)) ∧ Below w.heap.size w wr) (fun _ t _ => l.length - (intOf t).toNat)
      case atStart => exact ⟨_, 0, rfl, rfl, by omega, hown1, hb1⟩
      case round =>
        clear hown1 hb1 cG
        obtain ⟨o, i, rfl, rfl, hi, hown, hbel⟩ := hrel
        rcases Nat.lt_or_ge i l.length with hil | hil
        · obtain ⟨x, hx⟩ : ∃ x, l[i]? = some x := ⟨_, List.getElem?_eq_getElem hil⟩
          have hbv := hide ((hb.out x (List.mem_of_getElem? hx)).below hbel)
          obtain ⟨b, off, hix, hc, _, _⟩ := (RowsAt.below h.out hbel).index elemB.ht elemB.hs (parts_at hx)
          have k0 : wr.cell? ⟨b, off, none⟩ = some x.1 := hc 0 _ rfl
          have hd := allParts_snoc hx
          have hlen := allParts_take l (i + 1)
          rw [hd, List.length_append] at hlen
          obtain ⟨v, bb⟩ := x
          dsimp only at hbv k0 hd hlen
          have hd := Lib.hid hd
          clear hc hx
          go_wp2_with (at_builtin; refine append_bytes rfl (.tmp 31) (.tmp 32) rfl w.heap.size rfl hown rfl hbv.out (by omega) hbel.size ?_; intro v2 w2 hown2 hb2; have hbel2 := hbel.trans hb2)
          go_roundw
          case rel => exact ⟨v2, i + 1, rfl, by go_num, by omega, by rw [hd.out]; exact hown2, hbel2⟩
          case measure => simp [intOf]; omega
        · have hd : l.take i = l := List.take_of_length_le hil
          rw [hd] at hown
          clear hd
          go_wp2
          go_ret
          exact ⟨_, rfl, hown, hbel⟩

set_option maxRecDepth 20000 in
set_option maxHeartbeats 4000000 in
theorem read_any {n p : Nat} {w : World} {d : CDisk} (h : DiskK n w p d) (hs : Small d) (nm : ByteArray) (hz : nm.size ≤ maxLen) :
    Calls Try.prog 16 #[.pointer (some ⟨p, 0, none⟩), .string nm] w fun e w' => ∃ v' b e0, e = .returned (.tuple #[v', .int .i64 (e0 : Nat)]) ∧ Own w' w.heap.size v' b ∧ (∀ x ∈ b, x < 256) ∧ Below w.heap.size w w' ∧
      ((findK d nm = none ∧ e0 = 61 ∧ b = []) ∨ (∃ f ∈ d.fs, findK d nm = some f.q ∧ e0 = 0 ∧ b = f.all)) := by
  have cF := Lib.hid (find_any h nm hz)
  cases hfk : findK d nm with
  | none =>
    rw [hfk] at cF
    simp only [ptrV, Option.isSome] at cF
    clear hs h
    go_enter Try.func16, Try.ntmps16
    go_wp2_with (go_at_call 47; refine cF.out.mono ?_; rintro e w2 ⟨rfl, rfl⟩)
    go_ret2
    exact ⟨_, [], 61, rfl, own_none _ _, by simp, Below.refl _ _, .inl ⟨by trivial, rfl, rfl⟩⟩
  | some q =>
    rw [hfk] at cF
    simp only [ptrV, Option.isSome] at cF
    obtain ⟨f, hf, rfl⟩ := h.named.file nm q hfk
    have hF := h.files f hf
    have c0 := hF.c0
    have hby : ∀ x ∈ f.all, x < 256 := fun x hx => by
      obtain ⟨y, hy, hx⟩ := List.mem_flatMap.1 hx
      exact (hF.bytes y hy).byte x hx
    have cC := Lib.hid (concatB_any hF.ch.rows hF.bytes (by have := (hs.fs f hf).2.2.2; show f.all.length ≤ _; omega))
    clear hs h hF
    go_enter Try.func16, Try.ntmps16
    go_wp2_with (first
      | (go_at_call 47; refine cF.out.mono ?_; rintro e w2 ⟨rfl, rfl⟩)
      | (go_at_call 48; refine cC.out.mono ?_; rintro e w3 ⟨v3, rfl, ho3, hb3⟩))
    go_ret2
    exact ⟨_, f.all, 0, rfl, ho3, hby, hb3, .inr ⟨f, hf, rfl, rfl, rfl⟩⟩
end Go.Proofs.Ytpkiapjcilapoaa
