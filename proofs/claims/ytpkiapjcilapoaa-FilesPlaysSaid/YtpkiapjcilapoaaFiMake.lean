/-
  Make and Append, the document's own disk.
-/
import Derived.Test.YtpkiapjcilapoaaFiPend
import Derived.Deep.RegionLaw
namespace Go.Proofs.Ytpkiapjcilapoaa
open Go.RowKit Go.Sort

/-- Another number of files that were made. -/
theorem DiskR.setBorn {n p born base : Nat} {w : World} {lv : Value} {L : List FStep} {B : List Nat} (h : DiskR n w p lv L born base B) (b' : Nat) :
    DiskR n (w.setCell ⟨p, 1, none⟩ (.int .i64 (b' : Nat))) p lv L b' base B ∧ Turns B w (w.setCell ⟨p, 1, none⟩ (.int .i64 (b' : Nat))) := by
  have ht : Turns [p] w (w.setCell ⟨p, 1, none⟩ (.int .i64 (b' : Nat))) := Turns.set _ _ (by simp)
  have hsz : (w.setCell ⟨p, 1, none⟩ (.int .i64 (b' : Nat))).heap.size = w.heap.size := by simp [World.setCell]
  refine ⟨⟨?_, ?_, ?_, h.kinds, h.pin, h.lin, h.bin, ?_, h.apart⟩, Turns.set _ _ h.pin⟩
  · have := heap_setCell_same w p 1 _ _ (.int .i64 (b' : Nat)) h.disk
    simpa using this
  · exact h.own.turns ht (fun b hb => by simp; rintro rfl; exact h.own_ne hb)
  · intro s hs
    exact (h.bytes s hs).turns ht (fun b hb => by have := (h.apart s hs b hb).1; simpa using this)
  · intro b hb
    rw [hsz]; exact h.low b hb

theorem DiskR.ready1 {n p born base : Nat} {w w1 w2 : World} {lv : Value} {L : List FStep} {B : List Nat} (h : DiskR n w p lv L born base B) (h1 : Below w.heap.size w w1) (h2 : Turns lv.ownBlock.toList w1 w2) :
    w2.cell? ⟨p, 1, none⟩ = some (.int .i64 (born : Nat)) ∧ w2.frozen? ⟨p, 1, none⟩ = false := by
  have hp := h.plt
  have hs := h1.size
  have hn : p ∉ lv.ownBlock.toList := by simpa using h.own_ne
  refine ⟨(h2.cell (a := ⟨p, 1, none⟩) (by show p < _; omega) hn).trans ((h1.cell (p := ⟨p, 1, none⟩) hp).trans h.c1), ?_⟩
  rw [h2.frozen (a := ⟨p, 1, none⟩) (by show p < _; omega) hn]
  have := World.frozen?_of_block (a := ⟨p, 1, none⟩) (h1.block p hp)
  rw [this]
  exact h.fz 1

/-- What Make does. -/
def makeS (L : List FStep) (born : Nat) (nm : ByteArray) : Nat × List FStep × Nat :=
  if rightF nm = false then (63, L, born) else if 0 ≤ findF (nowF L) nm then (1, L, born) else if 8 ≤ (nowF L).length then (62, L, born) else (0, L ++ [plain 1 born nm], born + 1)

set_option maxRecDepth 20000 in
set_option maxHeartbeats 2000000 in
theorem refMake_ok {n p born base : Nat} {w : World} {lv : Value} {L : List FStep} {B : List Nat} (h : DiskR n w p lv L born base B) (hl : L.length ≤ 10000) (hborn : born ≤ 10000) (nm : ByteArray) (hz : nm.size ≤ 9223372036854775807)
    (hR : rightF nm = true) (hf : findF (nowF L) nm = -1) (h8 : (nowF L).length < 8) :
    Calls Try.prog 35 #[.pointer (some ⟨p, 0, none⟩), .string nm] w (Did n p (born + 1) base B (L ++ [plain 1 born nm]) 0 w) := by
  have hc0 := h.c0
  have hc1 := h.c1
  have hp := h.plt
  have hown := h.own
  have hnw := h.nle
  have hlen : (L.map stCells).length ≤ 10000 := by rw [List.length_map]; exact hl
  have cN := hide (refNow_any lv L w h.steps h.kinds (by omega))
  have cF := hide (fun v W (hv : NamesAt W v (nowF L)) => refFind_any v (nowF L) nm W hv)
  have cR := hide (fun W => refRight_any nm W hz)
  rw [hR] at cR
  rw [hf] at cF
  clear hR hf hz
  have h := Lib.hid h
  go_enter Try.func35, Try.ntmps35
  go_wp2_with (first
    | (go_at_call 61; refine (cR.out _).mono ?_; rintro e' w0 ⟨rfl, rfl⟩)
    | (go_at_call 62; refine cN.out.mono ?_; rintro e' w1 ⟨v1, rfl, hn1, hb1⟩; have hc0 := (h.out.below hb1).c0; have hc1 := (h.out.below hb1).c1; have hown1 := hown.below hb1; have hs1 := hb1.size; have hlv := fun W => hn1.len (ty := 3) W)
    | (go_at_call 63; refine (cF.out _ _ hn1).mono ?_; rintro e' w2 ⟨rfl, rfl⟩))
  have hfz := (h.out.below hb1).fz 0
  have hb1d : Below w.heap.size w w1.drew := Below.drew hb1
  have hfz := (h.out.below hb1).fz 0
  have hb1d : Below w.heap.size w w1.drew := Below.drew hb1
  have hfz := (h.out.below hb1).fz 0
  have hb1d : Below w.heap.size w w1.drew := Below.drew hb1
  have hp1 : p < w1.heap.size := by omega
  go_region_law ((refine step_append_rows elemS (by rfl) (.tmp 30) (.tmp 37) (by rfl) n (by rfl) (OwnRows.alloc (w := w1.drew) hown1 _) (by rfl) (st_box w1.drew _ 1 born (plain 1 born nm) rfl rfl) (by simp) (st_one rfl) (by simp at hlen; simp; omega) (by simp; omega) ?_; intro A2 m2 c2 w2 hown2 ht2 hw2; obtain ⟨hr1, hr2⟩ := h.out.ready (then_box hb1d _) ht2; obtain ⟨hr3, hr4⟩ := h.out.ready1 (then_box hb1d _) ht2))
  all_goals
    go_wp2
    go_ret
    obtain ⟨B', k1, k2, k3⟩ := h.out.put (s := plain 1 born nm) (Turns.of_below (then_box hb1d _)) (nil_bytes _) (by simp [Value.ownBlock]) ⟨by simp, by simp⟩ (by rw [sts_app]; exact hown2) ht2 hw2
    obtain ⟨k4, k5⟩ := k1.setBorn (born + 1)
    have e : ((born + 1 : Nat) : Int) = (born : Int) + 1 := by omega
    rw [e] at k4 k5
    exact ⟨rfl, _, B', k4, k2.trans k5 k3, k3⟩
set_option maxRecDepth 20000 in
set_option maxHeartbeats 2000000 in
theorem refMake_no {n p born base : Nat} {w : World} {lv : Value} {L : List FStep} {B : List Nat} (h : DiskR n w p lv L born base B) (hl : L.length ≤ 10000) (nm : ByteArray) (hz : nm.size ≤ 9223372036854775807) {e : Nat}
    (hw : (rightF nm = false ∧ e = 63) ∨ (rightF nm = true ∧ (∃ f : Nat, findF (nowF L) nm = f) ∧ e = 1) ∨ (rightF nm = true ∧ findF (nowF L) nm = -1 ∧ 8 ≤ (nowF L).length ∧ e = 62)) :
    Calls Try.prog 35 #[.pointer (some ⟨p, 0, none⟩), .string nm] w (Did n p born base B L e w) := by
  have hc0 := h.c0
  have cN := hide (refNow_any lv L w h.steps h.kinds (by omega))
  have cF := hide (fun v W (hv : NamesAt W v (nowF L)) => refFind_any v (nowF L) nm W hv)
  have cR := hide (fun W => refRight_any nm W hz)
  have h := Lib.hid h
  rcases hw with ⟨hR, rfl⟩ | ⟨hR, ⟨f, hf⟩, rfl⟩ | ⟨hR, hf, h8, rfl⟩
  · rw [hR] at cR
    clear hR
    go_enter Try.func35, Try.ntmps35
    go_wp2_with (first
      | (go_at_call 61; refine (cR.out _).mono ?_; rintro e' w0 ⟨rfl, rfl⟩)
      | (go_at_call 62; refine cN.out.mono ?_; rintro e' w1 ⟨v1, rfl, hn1, hb1⟩))
    go_ret
    exact Did.stays h.out hb1
  · rw [hR] at cR
    rw [hf] at cF
    clear hR hf
    go_enter Try.func35, Try.ntmps35
    go_wp2_with (first
      | (go_at_call 61; refine (cR.out _).mono ?_; rintro e' w0 ⟨rfl, rfl⟩)
      | (go_at_call 62; refine cN.out.mono ?_; rintro e' w1 ⟨v1, rfl, hn1, hb1⟩)
      | (go_at_call 63; refine (cF.out _ _ hn1).mono ?_; rintro e' w2 ⟨rfl, rfl⟩))
    go_ret
    exact Did.stays h.out hb1
  · rw [hR] at cR
    rw [hf] at cF
    clear hR hf
    go_enter Try.func35, Try.ntmps35
    go_wp2_with (first
      | (go_at_call 61; refine (cR.out _).mono ?_; rintro e' w0 ⟨rfl, rfl⟩)
      | (go_at_call 62; refine cN.out.mono ?_; rintro e' w1 ⟨v1, rfl, hn1, hb1⟩; have hlv := fun W => hn1.len (ty := 3) W)
      | (go_at_call 63; refine (cF.out _ _ hn1).mono ?_; rintro e' w2 ⟨rfl, rfl⟩))
    go_ret
    exact Did.stays h.out hb1

theorem refMake_any {n p born base : Nat} {w : World} {lv : Value} {L : List FStep} {B : List Nat} (h : DiskR n w p lv L born base B) (hl : L.length ≤ 10000) (hborn : born ≤ 10000) (nm : ByteArray) (hz : nm.size ≤ 9223372036854775807) :
    Calls Try.prog 35 #[.pointer (some ⟨p, 0, none⟩), .string nm] w (Did n p (makeS L born nm).2.2 base B (makeS L born nm).2.1 (makeS L born nm).1 w) := by
  rcases Bool.eq_false_or_eq_true (rightF nm) with hR | hR
  · rcases findF_ways (nowF L) nm with hf | ⟨f, hf⟩
    · rcases Nat.lt_or_ge (nowF L).length 8 with h8 | h8
      · rw [show makeS L born nm = (0, L ++ [plain 1 born nm], born + 1) by unfold makeS; rw [if_neg (by rw [hR]; decide), if_neg (by rw [hf]; decide), if_neg (by omega)]]
        exact refMake_ok h hl hborn nm hz hR hf h8
      · rw [show makeS L born nm = (62, L, born) by unfold makeS; rw [if_neg (by rw [hR]; decide), if_neg (by rw [hf]; decide), if_pos h8]]
        exact refMake_no h hl nm hz (.inr (.inr ⟨hR, hf, h8, rfl⟩))
    · rw [show makeS L born nm = (1, L, born) by unfold makeS; rw [if_neg (by rw [hR]; decide), if_pos (by rw [hf]; omega)]]
      exact refMake_no h hl nm hz (.inr (.inl ⟨hR, ⟨f, hf⟩, rfl⟩))
  · rw [show makeS L born nm = (63, L, born) by unfold makeS; rw [if_pos hR]]
    exact refMake_no h hl nm hz (.inl ⟨hR, rfl⟩)
end Go.Proofs.Ytpkiapjcilapoaa
