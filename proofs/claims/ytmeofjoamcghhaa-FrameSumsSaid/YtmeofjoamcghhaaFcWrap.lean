/-
  The code's own Wrap.
-/
import Derived.Test.YtmeofjoamcghhaaFcMay
import Derived.Lib.SlBuf
import Derived.Laws.CopyOwn
import Derived.Lib.BufferWrite
import Derived.Deep.RegionHeld3
import Derived.Deep.RegionWith
namespace Go.Proofs.Ytmeofjoamcghhaa
open Go.RowKit Go.Sort

theorem run_make_bytes (w : World) (n : Nat) (hn : n ≤ 1000000) : ∃ w', (Instr.makeSlice 22 (.int .i64 (n : Int)) (.int .i64 (n : Int))).run Try.prog w = .ok (.slice (some ⟨w.heap.size, 0, none⟩) n n) w' ∧
    Own w' w.heap.size (.slice (some ⟨w.heap.size, 0, none⟩) n n) (List.replicate n 0) ∧ Below w.heap.size w w' := by
  obtain ⟨i0, hi0, hz0, hz1, hz2⟩ := info_parts elemY.hi
  obtain ⟨w', h1, h2, h3⟩ := run_make_full (P := Try.prog) w w.heap.size 22 5 i0 (.int .u8 0) 1 elemY.ht hi0 hz0 hz1 .i64 .i64 n (by rw [hz2]; omega) (by unfold maxLen; omega) (Nat.le_refl _)
  refine ⟨w', h1, ?_, (Below.refl _ _).grown h3 (Nat.le_refl _) (fun k hk => by cases hk)⟩
  have he : (madeCells (Value.int .u8 0).cells (n * 1)).toList = bvals (List.replicate n 0) := by
    simp only [madeCells, bvals, Value.cells]
    apply List.ext_getElem
    · simp
    · intro i h1 h2
      simp [Nat.mod_one, bval]
  rw [he] at h2
  rw [Own, List.length_replicate]
  exact h2

theorem wpList_mk {P : Program} {w w' : World} {ops : Array Oper} {rest : List Oper} {o : Oper} {a : Act} {Q : Exit → Act → World → Prop} (hg : o.guard = none) (l c : Operand) (t : TypeId) (hop : o.op = .makeSlice t l c) {x y v : Value}
    (hl : a.eval l = x) (hc : a.eval c = y) (hrun : (Instr.makeSlice t x y).run P w = .ok v w') (h : wpList P ops Q rest (a.put o.dst v) w') : wpList P ops Q (o :: rest) a w := by
  refine wpList_plain hg fun K hK' => ?_
  unfold Oper.wp
  simp [execOp, hop, hl, hc, hrun, Result.andThen]
  exact hK' _ _ h

/-- Bytes laid over a part of the call's own row. -/
theorem own_row {w : World} {base g N c : Nat} {L : List Nat} (h : Own w base (.slice (some ⟨g, 0, none⟩) N c) L) (o : Nat) (M : List Nat) (ho : o + M.length ≤ L.length) :
    N = L.length ∧ ∃ cur, w.heap[g]? = some (.cells cur 5 (0, 0)) ∧ o + M.length ≤ cur.size ∧
      Own (w.setRow g (cur.toList.take o ++ bvals M ++ cur.toList.drop (o + M.length)).toArray) base (.slice (some ⟨g, 0, none⟩) N c) (L.take o ++ M ++ L.drop (o + M.length)) ∧
      Below base w (w.setRow g (cur.toList.take o ++ bvals M ++ cur.toList.drop (o + M.length)).toArray) := by
  rcases h.2 with ⟨h', _⟩ | ⟨g', cap, cur, he, hb, hg, hnc, hcm, hsz, htk⟩
  · cases h'
  · injection he with he1 he2 he3
    injection he1 with he1
    injection he1 with he1
    subst he1 he2 he3
    have hcs : cur.size = c := by simpa using hsz
    have hlen : (L.take o ++ M ++ L.drop (o + M.length)).length = L.length := by simp; omega
    rw [Nat.mul_one] at htk
    refine ⟨rfl, cur, hg, by omega, ⟨by simp [bvals], .inr ⟨g, c, _, by rw [hlen], hb, setRow_heap w g cur _ _ _ hg, by rw [hlen]; exact hnc, hcm, ?_, ?_⟩⟩, below_setRow (Below.refl _ _) hb _⟩
    · simp [bvals]; omega
    · rw [hlen, Nat.mul_one]
      have hc : cur.toList = bvals L ++ cur.toList.drop L.length := by rw [← htk, List.take_append_drop]
      have hbl : (bvals L).length = L.length := bvals_length L
      have e1 : cur.toList.take o = bvals (L.take o) := by
        rw [hc, List.take_append_of_le_length (by omega)]; simp [bvals]
      have e2 : cur.toList.drop (o + M.length) = bvals (L.drop (o + M.length)) ++ cur.toList.drop L.length := by
        rw [hc, List.drop_append_of_le_length (by omega)]
        simp [bvals]
      rw [e1, e2, ← List.append_assoc, ← bvals_append, ← bvals_append, ← hlen, ← bvals_length, List.take_left]

theorem own_copy_str {w : World} {base g N c : Nat} {L : List Nat} (h : Own w base (.slice (some ⟨g, 0, none⟩) N c) L) (hL : 2 ≤ L.length) :
    ∃ w', (∀ ty, (Builtin.copy_ #[22, 9] ty #[.slice (some ⟨g, 0, none⟩) N c, .string ⟨#[83, 84]⟩]).run Try.prog w = .ok (goInt 2) w') ∧ Own w' base (.slice (some ⟨g, 0, none⟩) N c) ([83, 84] ++ L.drop 2) ∧ Below base w w' := by
  obtain ⟨rfl, cur, hg, hs, h1, h2⟩ := own_row h 0 [83, 84] (by simpa using hL)
  refine ⟨_, fun ty => ?_, by simpa using h1, h2⟩
  have hi : (Try.prog.info? 5).map (·.size) = some 1 := by
    have := info_u8
    cases hq : Try.prog.info? 5 with
    | none => rw [hq] at this; cases this
    | some i => rw [hq] at this; simp at this; simp [this.2.1]
  have := Lib.run_copy_row_string (P := Try.prog) w 22 9 ty 5 g 0 L.length c ⟨#[83, 84]⟩ cur 5 Try.underlying22 hi hg hL (show 0 + 2 ≤ cur.size by simpa using hs)
  exact this

/-- copy(f[o:], v), v just as long as the rest of f. -/
theorem own_copy {w : World} {base g N c o : Nat} {L M : List Nat} {v d : Value} (h : Own w base (.slice (some ⟨g, 0, none⟩) N c) L) (hv : BytesAt w v M) (hM : o + M.length = L.length)
    (hd : ∀ W, (Instr.slice 22 (.slice (some ⟨g, 0, none⟩) N c) (some (.int .i64 (o : Int))) none none).run Try.prog W = .ok d W) :
    ∃ w', (∀ ty, (Builtin.copy_ #[22, 22] ty #[d, v]).run Try.prog w = .ok (goInt M.length) w') ∧ Own w' base (.slice (some ⟨g, 0, none⟩) N c) (L.take o ++ M) ∧ Below base w w' := by
  have hcap : N ≤ c := by
    obtain ⟨A, c', h1, h2, _⟩ := (show RowAt w _ _ from OwnRow.row (e := 5) (xs := bvals L) (by rw [OwnRow, bvals_length]; exact h))
    injection h1 with _ e2 e3
    omega
  obtain ⟨rfl, cur, hg, hs, h1, h2⟩ := own_row h o M (by omega)
  have hi : (Try.prog.info? 5).map (·.size) = some 1 := by
    have := info_u8
    cases hq : Try.prog.info? 5 with
    | none => rw [hq] at this; cases this
    | some i => rw [hq] at this; simp at this; simp [this.2.1]
  have he : Try.prog.elem 22 = 5 := by simp [Program.elem, Try.underlying22]
  have hds : d = sliced (some ⟨g, 0, none⟩) o L.length c 1 := by
    have := hd w
    rw [run_slice_l (P := Try.prog) w 22 _ L.length c (by rw [he]; exact Try.underlying22) .i64 (o : Int) (by omega) (by omega), he, elemY.hs] at this
    simp [Result.andThen] at this
    exact this.symm
  rcases Nat.eq_zero_or_pos M.length with h0 | hpos
  · have hM0 : M = [] := List.eq_nil_of_length_eq_zero h0
    subst hM0
    obtain ⟨A, c2, rfl, _⟩ := hv
    refine ⟨w, fun ty => ?_, ?_, Below.refl _ _⟩
    · rw [hds, sliced]
      exact run_copy_none (P := Try.prog) w 22 22 ty 5 _ _ _ _ _ _ Try.underlying22 hi (by simp)
    · have : L.take o = L := List.take_of_length_le (by simp at hM; omega)
      simpa [this] using h
  · obtain ⟨A, c2, rfl, _, _, _, hc, _⟩ := hv
    obtain ⟨b, off, rfl, _, hcell⟩ := hc hpos
    refine ⟨_, fun ty => ?_, by simpa [hM] using h1, h2⟩
    rw [hds, sliced, if_neg (by omega)]
    have := run_copy_row (P := Try.prog) w 22 22 ty 5 g o (L.length - o) (c - o) ⟨b, off, none⟩ M.length c2 cur 5 (bvals M) Try.underlying22 hi hg (by rw [bvals_length]; exact (Nat.min_eq_left (by omega)).symm) (fun j u hu => by
      have hj : j < M.length := by have := (List.getElem?_eq_some_iff.1 hu).1; rwa [bvals_length] at this
      rw [add_at, hcell j hj]
      simp [bvals, List.getElem?_eq_getElem hj] at hu
      simp [List.getD, List.getElem?_eq_getElem hj, ← hu, bval]) (by rw [bvals_length]; omega) (bvals_one M)
    rw [bvals_length] at this
    simpa [addr_at] using this

theorem cWrap_long (v : Value) (k : Nat) (l : List Nat) (w : World) (_hk : k < 256) (hv : BytesAt w v l) (h : 65536 < l.length) :
    Calls Try.prog 14 #[.int .u8 k, v] w (Ret (.tuple #[.slice none 0 0, .int .i64 1]) w) := by
  have hlv := fun W => hv.len (ty := 3) W
  have hlt : (65536 : Int) < (l.length : Int) := by omega
  clear hv
  go_enter Try.func14, Try.ntmps14
  go_wp2
  go_ret2
  exact ⟨rfl, Below.refl _ _⟩

/-- What Wrap's row is used for: its cuts, what is put over them. -/
theorem row_uses (base g n : Nat) : ∃ F v37 v711 d, F = Value.slice (some ⟨g, 0, none⟩) (11 + n) (11 + n) ∧
    (∀ W, (Instr.slice 22 F (some (.int .i64 3)) (some (.int .i64 7)) none).run Try.prog W = .ok v37 W) ∧
    (∀ W, (Instr.slice 22 F (some (.int .i64 7)) (some (.int .i64 11)) none).run Try.prog W = .ok v711 W) ∧
    (∀ W, (Instr.slice 22 F (some (.int .i64 11)) none none).run Try.prog W = .ok d W) ∧
    (∀ W, (Instr.indexAt 22 F (.int .i64 2)).run Try.prog W = .ok (.pointer (some ⟨g, 2, none⟩)) W) ∧
    Hid (∀ W L m, Own W base F L → 11 ≤ L.length → m < 4294967296 → Calls Try.prog 19 #[v37, .int .u32 (m : Nat)] W fun e w' => e = .returned (.tuple #[]) ∧ Own w' base F (putL L 3 m) ∧ Below base W w') ∧
    Hid (∀ W L m, Own W base F L → 11 ≤ L.length → m < 4294967296 → Calls Try.prog 19 #[v711, .int .u32 (m : Nat)] W fun e w' => e = .returned (.tuple #[]) ∧ Own w' base F (putL L 7 m) ∧ Below base W w') ∧
    Hid (∀ W L M v, Own W base F L → BytesAt W v M → 11 + M.length = L.length → ∃ w', (∀ ty, (Builtin.copy_ #[22, 22] ty #[d, v]).run Try.prog W = .ok (goInt M.length) w') ∧ Own w' base F (L.take 11 ++ M) ∧ Below base W w') := by
  have he : Try.prog.elem 22 = 5 := by simp [Program.elem, Try.underlying22]
  have hu : Try.prog.underlying 22 = some (.slice (Try.prog.elem 22)) := by rw [he]; exact Try.underlying22
  have h11 : ∀ W, (Instr.slice 22 (Value.slice (some ⟨g, 0, none⟩) (11 + n) (11 + n)) (some (.int .i64 ((11 : Nat) : Int))) none none).run Try.prog W = .ok (sliced (some ⟨g, 0, none⟩) 11 (11 + n) (11 + n) 1) W := fun W => by
    rw [run_slice_l (P := Try.prog) W _ _ (11 + n) (11 + n) hu .i64 ((11 : Nat) : Int) (by omega) (by omega), he, elemY.hs]
    simp [Result.andThen]
  refine ⟨_, .slice (some ⟨g, 3, none⟩) 4 (8 + n), .slice (some ⟨g, 7, none⟩) 4 (4 + n), sliced (some ⟨g, 0, none⟩) 11 (11 + n) (11 + n) 1, rfl, fun W => ?_, fun W => ?_, h11, fun W => ?_, Lib.hid ?_, Lib.hid ?_, Lib.hid ?_⟩
  · rw [run_slice_lh (P := Try.prog) W _ _ (11 + n) (11 + n) hu .i64 .i64 3 7 (by omega) (by omega) (by omega), he, elemY.hs]
    have : ¬ 11 + n = 3 := by omega
    have h8 : 11 + n - 3 = 8 + n := by omega
    simp [Result.andThen, sliced, addr_at, this, h8]
  · rw [run_slice_lh (P := Try.prog) W _ _ (11 + n) (11 + n) hu .i64 .i64 7 11 (by omega) (by omega) (by omega), he, elemY.hs]
    have : ¬ 11 + n = 7 := by omega
    have h8 : 11 + n - 7 = 4 + n := by omega
    simp [Result.andThen, sliced, addr_at, this, h8]
  · rw [run_indexAt_slice (P := Try.prog) W _ _ (11 + n) (11 + n) .i64 2 hu, if_pos (by omega), he, elemY.hs]
    simp [Result.andThen, addr_at]
  · exact fun W L m ho hl hm => put_any L W base g _ _ _ 3 m ho (by omega) hm
  · exact fun W L m ho hl hm => put_any L W base g _ _ _ 7 m ho (by omega) hm
  · exact fun W L M v ho hv hM => own_copy ho hv hM h11

set_option maxRecDepth 20000 in
set_option maxHeartbeats 4000000 in
theorem cWrap_any (v : Value) (k : Nat) (l : List Nat) (w : World) (hk : k < 256) (hv : BytesAt w v l) (h : l.length ≤ 65536) :
    Calls Try.prog 14 #[.int .u8 k, v] w fun e w' => ∃ v', e = .returned (.tuple #[v', .int .i64 0]) ∧ Own w' w.heap.size v' (frameL k l) ∧ Below w.heap.size w w' := by
  have hlv := fun W => hv.len (ty := 3) W
  have hle : (l.length : Int) ≤ 65536 := by omega
  obtain ⟨w1, hmk, o1, k1⟩ := run_make_bytes w (11 + l.length) (by omega)
  obtain ⟨w2, hcs, o2, k2⟩ := own_copy_str o1 (by simp; omega)
  obtain ⟨c3, f3, _, s3⟩ := own_set o2 (k := 2) (by simp; omega)
  obtain ⟨o3, k3⟩ := s3 k
  obtain ⟨F, v37, v711, d, hF, h37, h711, h11, hidx, cP3, cP7, hcp⟩ := row_uses w.heap.size w.heap.size l.length
  rw [← hF] at hmk hcs o3
  have hmk : Hid ((Instr.makeSlice 22 (.int .i64 (11 + (l.length : Int))) (.int .i64 (11 + (l.length : Int)))).run Try.prog w = .ok F w1) := Lib.hid (by
    have : (11 + (l.length : Int)) = ((11 + l.length : Nat) : Int) := by omega
    rw [this]; exact hmk)
  have hcs := Lib.hid hcs
  have e1 : List.replicate (11 + l.length) 0 = [0, 0, 0, 0, 0, 0, 0, 0, 0, 0, 0] ++ List.replicate l.length 0 := by rw [List.replicate_append_replicate.symm]; rfl
  rw [e1] at o3
  obtain ⟨R, hR⟩ : ∃ R, List.replicate l.length 0 = R := ⟨_, rfl⟩
  have hRl : R.length = l.length := by rw [← hR]; simp
  have o3 : Hid (Own (w2.setCell ⟨w.heap.size, 2, none⟩ (.int .u8 (k : Nat))) w.heap.size F ([83, 84, k, 0, 0, 0, 0, 0, 0, 0, 0] ++ R)) := Lib.hid (by rw [← hR]; exact o3)
  have k3 := Lib.hid (k1.trans (k2.trans k3))
  have hv := Lib.hid hv
  clear o1 o2 k1 k2 s3 hF e1 hR
  go_enter Try.func14, Try.ntmps14
  go_wp2_with (first
    | (at_make; refine wpList_mk rfl (.tmp 12) (.tmp 12) _ rfl rfl rfl hmk.out ?_)
    | (with_reducible refine Lib.wpList_copy_run _ rfl (.tmp 14) (.const (.string ⟨#[83, 84]⟩)) _ _ rfl _ _ rfl rfl (hcs.out _) ?_)
    | (go_at_call 19; (with_reducible refine (cP3.out _ _ l.length o3.out (by simp) (by omega)).mono ?_); rintro e4 w4 ⟨rfl, o4, k4⟩; have o4 := Lib.hid (show Own w4 w.heap.size F ([83, 84, k] ++ fourL l.length ++ [0, 0, 0, 0] ++ R) from o4); have k4 := Lib.hid (k3.out.trans k4))
    | (obtain ⟨w5, hc5, o5, k5⟩ := hcp.out w4 _ l v o4.out (hv.out.below k4.out) (by simp [hRl, fourL]; omega); (with_reducible refine Lib.wpList_copy_run _ rfl (.tmp 26) (.tmp 27) _ _ rfl _ _ rfl rfl (hc5 _) ?_)))
  have o5 : Hid (Own w5 w.heap.size F ([83, 84, k] ++ fourL l.length ++ [0, 0, 0, 0] ++ l)) := Lib.hid o5
  have k5 := Lib.hid (k4.out.trans k5)
  have hb5 : Hid (BytesAt w5 F ([83, 84, k] ++ fourL l.length ++ [0, 0, 0, 0] ++ l)) := Lib.hid (o5.out.bytes (by
    intro x hx
    simp only [List.mem_append] at hx
    rcases hx with ((hx | hx) | hx) | hx
    · simp at hx; omega
    · exact four_byte _ x hx
    · simp at hx; omega
    · exact hv.out.byte x hx))
  obtain ⟨S, hS⟩ : ∃ S, sumN ([k] ++ fourL l.length ++ l) = S := ⟨_, rfl⟩
  have hSF : sumF ([83, 84, k] ++ fourL l.length ++ [0, 0, 0, 0] ++ l) = S := by rw [← hS]; rfl
  have hS32 : S < 4294967296 := by rw [← hS]; exact sumN_lt (four_app hk hv.out.byte l.length)
  have cF : Hid (∀ W, BytesAt W F ([83, 84, k] ++ fourL l.length ++ [0, 0, 0, 0] ++ l) → Calls Try.prog 20 #[F] W (Ret (.int .u32 (S : Nat)) W)) := Lib.hid (fun W hb => by
    rw [← hSF]; exact frameSum_any F _ _ (by simp [fourL]) hb)
  have hfr : Hid ([83, 84, k] ++ fourL l.length ++ fourL S ++ l = frameL k l) := Lib.hid (by rw [← hS]; simp [frameL])
  clear hS hSF
  go_region_held3 (fun _ => True) (trivial) (first
    | (go_at_call 20; refine (cF.out _ (by exact hb5.out)).mono ?_; rintro e6 w6 ⟨rfl, k6⟩; have j6 : Below w5.heap.size w5 w6 := then_call (below_drewN (Below.refl _ _) _) k6; have o6 := Lib.hid (o5.out.later j6); have j6 := Lib.hid (k5.out.trans (j6.mono k5.out.size)))
    | (go_at_call 19; refine (cP7.out _ _ S o6.out (by simp [fourL]) hS32).mono ?_; rintro e7 w7 ⟨rfl, o7, k7⟩))
  go_wp2
  go_ret2
  have o7 : Own w7 w.heap.size F ([83, 84, k] ++ fourL l.length ++ fourL S ++ l) := o7
  exact ⟨_, rfl, by rw [← hfr.out]; exact o7, j6.out.trans k7⟩
end Go.Proofs.Ytmeofjoamcghhaa
