/-
  What the document's own disk answers and leaves: SyncNames, Sync, Remove, Rename.
-/
import Derived.Test.YtpkiapjcilapoaaFiDisk
namespace Go.Proofs.Ytpkiapjcilapoaa
open Go.RowKit Go.Sort

/-- The calls that change it: the answer, the steps then. -/
def Did (n p born base : Nat) (B : List Nat) (L' : List FStep) (e : Nat) (w : World) : Ending → World → Prop := fun e' w' =>
  e' = .returned (.int .i64 (e : Nat)) ∧ ∃ lv' B', DiskR n w' p lv' L' born base B' ∧ Turns B w w' ∧ (∀ b ∈ B', b ∈ B ∨ w.heap.size ≤ b)

section
variable {n p born base : Nat} {w w1 w2 : World} {lv : Value} {L : List FStep} {B : List Nat}
theorem Did.stays (h : DiskR n w p lv L born base B) (hb : Below w.heap.size w w1) {e : Nat} : Did n p born base B L e w (.returned (.int .i64 (e : Nat))) w1 :=
  ⟨rfl, lv, B, h.below hb, .of_below hb, fun _ hb => .inl hb⟩

theorem DiskR.own_ne (h : DiskR n w p lv L born base B) : lv.ownBlock ≠ some p := by
  intro hp
  rcases h.own.1.2 with ⟨rfl, _⟩ | ⟨g, cap, cur, rfl, _, hg, _⟩
  · simp [Value.ownBlock] at hp
  · obtain rfl : g = p := by simpa [Value.ownBlock] using hp
    rw [h.disk] at hg
    simp at hg
theorem DiskR.ready (h : DiskR n w p lv L born base B) (h1 : Below w.heap.size w w1) (h2 : Turns lv.ownBlock.toList w1 w2) : w2.cell? ⟨p, 0, none⟩ = some lv ∧ w2.frozen? ⟨p, 0, none⟩ = false := by
  have hp := h.plt
  have hs := h1.size
  have hn : p ∉ lv.ownBlock.toList := by simpa using h.own_ne
  refine ⟨(h2.cell (a := ⟨p, 0, none⟩) (by show p < _; omega) hn).trans ((h1.cell (p := ⟨p, 0, none⟩) hp).trans h.c0), ?_⟩
  rw [h2.frozen (a := ⟨p, 0, none⟩) (by show p < _; omega) hn]
  have := World.frozen?_of_block (a := ⟨p, 0, none⟩) (h1.block p hp)
  rw [this]
  exact h.fz 0
end

theorem st_box (w : World) (e : TypeId) (k f : Int) (s : FStep) (hk : k = s.kind) (hf : f = s.file) : RowsAt 4 (w.alloc (.cells #[.int .i64 k, .int .i64 f, .string s.name, s.bv] e)) (.slice (some ⟨w.heap.size, 0, none⟩) 1 1) [stCells s] := by
  subst hk hf
  exact rows_box w e (stCells s) rfl _ rfl
theorem sts_app (L : List FStep) (s : FStep) : (L ++ [s]).map stCells = L.map stCells ++ [stCells s] := by simp

theorem OwnRows.form {w : World} {base k : Nat} {e : TypeId} {v : Value} {xs : List (List Value)} (h : OwnRows w base e k v xs) : ∃ A m c, v = .slice A m c := by
  obtain ⟨A, c, h1, _⟩ := h.rows
  exact ⟨A, _, c, h1⟩
/-- A step without bytes. -/
abbrev plain (k f : Nat) (n : ByteArray) : FStep := ⟨k, f, n, .slice none 0 0, []⟩
theorem nil_bytes (w : World) : BytesAt w (.slice none 0 0) [] := ⟨none, 0, rfl, Nat.le_refl _, Nat.zero_le _, by simp, fun h => absurd h (by simp), fun _ => rfl⟩

set_option maxRecDepth 20000 in
set_option maxHeartbeats 2000000 in
theorem refSyncNames_any {n p born base : Nat} {w : World} {lv : Value} {L : List FStep} {B : List Nat} (h : DiskR n w p lv L born base B) (hl : L.length ≤ 10000) :
    Calls Try.prog 42 #[.pointer (some ⟨p, 0, none⟩)] w (Did n p born base B (L ++ [plain 6 0 ByteArray.empty]) 0 w) := by
  have hc0 := h.c0
  have hown := h.own
  have hnw := h.nle
  have hlen : (L.map stCells).length ≤ 10000 := by rw [List.length_map]; exact hl
  have h := Lib.hid h
  go_enter Try.func42, Try.ntmps42
  go_wp2_with (at_builtin; refine append_rows elemS rfl (.tmp 7) (.tmp 9) rfl n rfl (hown.alloc _) rfl (st_box w _ 6 0 (plain 6 0 ByteArray.empty) rfl rfl) (by simp) (st_one rfl) (by simp at hlen; simp; omega) (by simp; omega) ?_; intro v2 w2 hown2 ht2 hw2; obtain ⟨A2, m2, c2, rfl⟩ := hown2.form; obtain ⟨hr1, hr2⟩ := h.out.ready (below_box1 w _) ht2)
  go_ret
  obtain ⟨B', k1, k2, k3⟩ := h.out.put (s := plain 6 0 ByteArray.empty) (Turns.of_below (below_box1 w _)) (nil_bytes _) (by simp [Value.ownBlock]) ⟨by simp, by simp⟩ (by rw [sts_app]; exact hown2) ht2 hw2
  exact ⟨rfl, _, B', k1, k2, k3⟩

theorem findF_ways (l : Nms) (nm : ByteArray) : findF l nm = -1 ∨ ∃ f : Nat, findF l nm = f := by
  induction l with
  | nil => exact .inl rfl
  | cons p t ih =>
    rw [findF]
    split
    · exact .inr ⟨_, rfl⟩
    · exact ih

/-- What Sync does: the answer, the steps then. -/
def syncS (L : List FStep) (nm : ByteArray) : Nat × List FStep := if findF (nowF L) nm < 0 then (61, L) else (0, L ++ [plain 5 (findF (nowF L) nm).toNat ByteArray.empty])
def removeS (L : List FStep) (nm : ByteArray) : Nat × List FStep := if findF (nowF L) nm < 0 then (61, L) else (0, L ++ [plain 4 (findF (nowF L) nm).toNat nm])
def renameS (L : List FStep) (old nm : ByteArray) : Nat × List FStep := if rightF nm = false then (63, L) else if findF (nowF L) old < 0 then (61, L) else (0, L ++ [plain 3 (findF (nowF L) old).toNat nm])

set_option maxRecDepth 20000 in
set_option maxHeartbeats 2000000 in
theorem refSync_any {n p born base : Nat} {w : World} {lv : Value} {L : List FStep} {B : List Nat} (h : DiskR n w p lv L born base B) (hl : L.length ≤ 10000) (nm : ByteArray) :
    Calls Try.prog 37 #[.pointer (some ⟨p, 0, none⟩), .string nm] w (Did n p born base B (syncS L nm).2 (syncS L nm).1 w) := by
  have hc0 := h.c0
  have hown := h.own
  have hnw := h.nle
  have hlen : (L.map stCells).length ≤ 10000 := by rw [List.length_map]; exact hl
  have cN := hide (refNow_any lv L w h.steps h.kinds (by omega))
  have cF := hide (fun v W (hv : NamesAt W v (nowF L)) => refFind_any v (nowF L) nm W hv)
  have h := Lib.hid h
  rcases findF_ways (nowF L) nm with hf | ⟨f, hf⟩
  · rw [hf] at cF
    rw [show syncS L nm = (61, L) by unfold syncS; rw [if_pos (by rw [hf]; decide)]]
    clear hf
    go_enter Try.func37, Try.ntmps37
    go_wp2_with (first
      | (go_at_call 62; refine cN.out.mono ?_; rintro e' w1 ⟨v1, rfl, hn1, hb1⟩)
      | (go_at_call 63; refine (cF.out _ _ hn1).mono ?_; rintro e' w2 ⟨rfl, rfl⟩))
    go_ret
    exact Did.stays h.out hb1
  · rw [hf] at cF
    rw [show syncS L nm = (0, L ++ [plain 5 f ByteArray.empty]) by unfold syncS; rw [if_neg (by rw [hf]; omega), hf]; rfl]
    clear hf
    go_enter Try.func37, Try.ntmps37
    go_wp2_with (first
      | (go_at_call 62; refine cN.out.mono ?_; rintro e' w1 ⟨v1, rfl, hn1, hb1⟩; have hc0 := (h.out.below hb1).c0; have hown1 := hown.below hb1; have hs1 := hb1.size)
      | (go_at_call 63; refine (cF.out _ _ hn1).mono ?_; rintro e' w2 ⟨rfl, rfl⟩)
      | (at_builtin; refine append_rows elemS rfl (.tmp 19) (.tmp 22) rfl n rfl (hown1.alloc _) rfl (st_box w1 _ 5 f (plain 5 f ByteArray.empty) rfl rfl) (by simp) (st_one rfl) (by simp at hlen; simp; omega) (by simp; omega) ?_; intro v2 w2 hown2 ht2 hw2; obtain ⟨A2, m2, c2, rfl⟩ := hown2.form; obtain ⟨hr1, hr2⟩ := h.out.ready (then_box hb1 _) ht2))
    go_ret
    obtain ⟨B', k1, k2, k3⟩ := h.out.put (s := plain 5 f ByteArray.empty) (Turns.of_below (then_box hb1 _)) (nil_bytes _) (by simp [Value.ownBlock]) ⟨by simp, by simp⟩ (by rw [sts_app]; exact hown2) ht2 hw2
    exact ⟨rfl, _, B', k1, k2, k3⟩

set_option maxRecDepth 20000 in
set_option maxHeartbeats 2000000 in
theorem refRemove_any {n p born base : Nat} {w : World} {lv : Value} {L : List FStep} {B : List Nat} (h : DiskR n w p lv L born base B) (hl : L.length ≤ 10000) (nm : ByteArray) :
    Calls Try.prog 41 #[.pointer (some ⟨p, 0, none⟩), .string nm] w (Did n p born base B (removeS L nm).2 (removeS L nm).1 w) := by
  have hc0 := h.c0
  have hown := h.own
  have hnw := h.nle
  have hlen : (L.map stCells).length ≤ 10000 := by rw [List.length_map]; exact hl
  have cN := hide (refNow_any lv L w h.steps h.kinds (by omega))
  have cF := hide (fun v W (hv : NamesAt W v (nowF L)) => refFind_any v (nowF L) nm W hv)
  have h := Lib.hid h
  rcases findF_ways (nowF L) nm with hf | ⟨f, hf⟩
  · rw [hf] at cF
    rw [show removeS L nm = (61, L) by unfold removeS; rw [if_pos (by rw [hf]; decide)]]
    clear hf
    go_enter Try.func41, Try.ntmps41
    go_wp2_with (first
      | (go_at_call 62; refine cN.out.mono ?_; rintro e' w1 ⟨v1, rfl, hn1, hb1⟩)
      | (go_at_call 63; refine (cF.out _ _ hn1).mono ?_; rintro e' w2 ⟨rfl, rfl⟩))
    go_ret
    exact Did.stays h.out hb1
  · rw [hf] at cF
    rw [show removeS L nm = (0, L ++ [plain 4 f nm]) by unfold removeS; rw [if_neg (by rw [hf]; omega), hf]; rfl]
    clear hf
    go_enter Try.func41, Try.ntmps41
    go_wp2_with (first
      | (go_at_call 62; refine cN.out.mono ?_; rintro e' w1 ⟨v1, rfl, hn1, hb1⟩; have hc0 := (h.out.below hb1).c0; have hown1 := hown.below hb1; have hs1 := hb1.size)
      | (go_at_call 63; refine (cF.out _ _ hn1).mono ?_; rintro e' w2 ⟨rfl, rfl⟩)
      | (at_builtin; refine append_rows elemS rfl (.tmp 19) (.tmp 23) rfl n rfl (hown1.alloc _) rfl (st_box w1 _ 4 f (plain 4 f nm) rfl rfl) (by simp) (st_one rfl) (by simp at hlen; simp; omega) (by simp; omega) ?_; intro v2 w2 hown2 ht2 hw2; obtain ⟨A2, m2, c2, rfl⟩ := hown2.form; obtain ⟨hr1, hr2⟩ := h.out.ready (then_box hb1 _) ht2))
    go_ret
    obtain ⟨B', k1, k2, k3⟩ := h.out.put (s := plain 4 f nm) (Turns.of_below (then_box hb1 _)) (nil_bytes _) (by simp [Value.ownBlock]) ⟨by simp, by simp⟩ (by rw [sts_app]; exact hown2) ht2 hw2
    exact ⟨rfl, _, B', k1, k2, k3⟩

set_option maxRecDepth 20000 in
set_option maxHeartbeats 2000000 in
theorem refRename_any {n p born base : Nat} {w : World} {lv : Value} {L : List FStep} {B : List Nat} (h : DiskR n w p lv L born base B) (hl : L.length ≤ 10000) (old nm : ByteArray) (hz : nm.size ≤ 9223372036854775807) :
    Calls Try.prog 39 #[.pointer (some ⟨p, 0, none⟩), .string old, .string nm] w (Did n p born base B (renameS L old nm).2 (renameS L old nm).1 w) := by
  have hc0 := h.c0
  have hown := h.own
  have hnw := h.nle
  have hlen : (L.map stCells).length ≤ 10000 := by rw [List.length_map]; exact hl
  have cN := hide (refNow_any lv L w h.steps h.kinds (by omega))
  have cF := hide (fun v W (hv : NamesAt W v (nowF L)) => refFind_any v (nowF L) old W hv)
  have cR := hide (fun W => refRight_any nm W hz)
  have h := Lib.hid h
  rcases Bool.eq_false_or_eq_true (rightF nm) with hR | hR
  · rw [hR] at cR
    rcases findF_ways (nowF L) old with hf | ⟨f, hf⟩
    · rw [hf] at cF
      rw [show renameS L old nm = (61, L) by unfold renameS; rw [if_neg (by rw [hR]; decide)]; rw [if_pos (by rw [hf]; decide)]]
      clear hf
      go_enter Try.func39, Try.ntmps39
      go_wp2_with (first
        | (go_at_call 61; refine (cR.out _).mono ?_; rintro e' w0 ⟨rfl, rfl⟩)
        | (go_at_call 62; refine cN.out.mono ?_; rintro e' w1 ⟨v1, rfl, hn1, hb1⟩)
        | (go_at_call 63; refine (cF.out _ _ hn1).mono ?_; rintro e' w2 ⟨rfl, rfl⟩))
      go_ret
      exact Did.stays h.out hb1
    · rw [hf] at cF
      rw [show renameS L old nm = (0, L ++ [plain 3 f nm]) by unfold renameS; rw [if_neg (by rw [hR]; decide)]; rw [if_neg (by rw [hf]; omega), hf]; rfl]
      clear hf
      go_enter Try.func39, Try.ntmps39
      go_wp2_with (first
        | (go_at_call 61; refine (cR.out _).mono ?_; rintro e' w0 ⟨rfl, rfl⟩)
        | (go_at_call 62; refine cN.out.mono ?_; rintro e' w1 ⟨v1, rfl, hn1, hb1⟩; have hc0 := (h.out.below hb1).c0; have hown1 := hown.below hb1; have hs1 := hb1.size)
        | (go_at_call 63; refine (cF.out _ _ hn1).mono ?_; rintro e' w2 ⟨rfl, rfl⟩)
        | (at_builtin; refine append_rows elemS rfl (.tmp 26) (.tmp 30) rfl n rfl (hown1.alloc _) rfl (st_box w1 _ 3 f (plain 3 f nm) rfl rfl) (by simp) (st_one rfl) (by simp at hlen; simp; omega) (by simp; omega) ?_; intro v2 w2 hown2 ht2 hw2; obtain ⟨A2, m2, c2, rfl⟩ := hown2.form; obtain ⟨hr1, hr2⟩ := h.out.ready (then_box hb1 _) ht2))
      go_ret
      obtain ⟨B', k1, k2, k3⟩ := h.out.put (s := plain 3 f nm) (Turns.of_below (then_box hb1 _)) (nil_bytes _) (by simp [Value.ownBlock]) ⟨by simp, by simp⟩ (by rw [sts_app]; exact hown2) ht2 hw2
      exact ⟨rfl, _, B', k1, k2, k3⟩
  · rw [hR] at cR
    rw [show renameS L old nm = (63, L) by unfold renameS; rw [if_pos hR]]
    clear hR
    go_enter Try.func39, Try.ntmps39
    go_wp2_with (go_at_call 61; refine (cR.out _).mono ?_; rintro e' w0 ⟨rfl, rfl⟩)
    go_ret
    exact Did.stays h.out (Below.refl _ _)

end Go.Proofs.Ytpkiapjcilapoaa
