/-
  Columns taken from bytes; operations in a block of the call's own, field by field.
-/
import Derived.Test.YthpgfnhecfgiaaaGreatDoorBaBytes
import Derived.Test.YthpgfnhecfgiaaaGreatDoorMCcTake
import Derived.Test.YthpgfnhecfgiaaaGreatDoorBaTru
namespace Go.Proofs.YthpgfnhecfgiaaaGreatDoor
open Go.RowKit Go.Sort
set_option maxRecDepth 20000

/-- A column's bytes; whether a column of n numbers stands at the beginning of b. -/
def colBy (i : Nat) (c : List Int) : List Nat := bytesR (if formN i = 1 then deltaL 0 c else c)
theorem colBy_col (l : List OpV) (i : Nat) : colB l i = colBy i (colL l i) := rfl
def ColOf (b : List Nat) (n i : Nat) (c : List Int) : Prop := c.length = n ∧ (∀ x ∈ c, InR x) ∧ colBy i c <+: b
def TookCol (b : List Nat) (n i : Nat) (c : List Int) (a e : Nat) : Prop :=
  (ColOf b n i c ∧ a = (colBy i c).length ∧ e = 0) ∨ ((∀ c', ¬ ColOf b n i c') ∧ c = [] ∧ a = 0 ∧ e = 41)
theorem tookCol_any (b : List Nat) (n i : Nat) : ∃ c a e, TookCol b n i c a e := by
  by_cases h : ∃ c, ColOf b n i c
  · obtain ⟨c, h⟩ := h
    exact ⟨c, _, 0, .inl ⟨h, rfl, rfl⟩⟩
  · exact ⟨[], 0, 41, .inr ⟨fun c' h' => h ⟨c', h'⟩, rfl, rfl, rfl⟩⟩
theorem ColOf.runs {b : List Nat} {n i : Nat} {c : List Int} (h : ColOf b n i c) : RunsOf b n (if formN i = 1 then deltaL 0 c else c) := by
  obtain ⟨h1, h2, h3⟩ := h
  unfold colBy at h3
  split
  · rw [if_pos (by assumption)] at h3
    exact ⟨by rw [delta_len]; exact h1, delta_in 0 c, h3⟩
  · rw [if_neg (by assumption)] at h3
    exact ⟨h1, h2, h3⟩
theorem ColOf.unique {b : List Nat} {n i : Nat} {c c' : List Int} (h : ColOf b n i c) (h' : ColOf b n i c') : c = c' := by
  have := h.runs.unique h'.runs
  split at this
  · rw [← sum_delta 0 c h.2.1, ← sum_delta 0 c' h'.2.1, this]
  · exact this
theorem TookCol.runs0 {b : List Nat} {n i : Nat} {c : List Int} {a e : Nat} (h : TookCol b n i c a e) (hf : formN i ≠ 1) : TakenR b n c a e := by
  rcases h with ⟨h1, h2, h3⟩ | ⟨h1, h2⟩
  · have := h1.runs
    rw [if_neg hf] at this
    refine .inl ⟨this, ?_, h3⟩
    rw [h2]; unfold colBy; rw [if_neg hf]
  · refine .inr ⟨fun l' hl => h1 l' ⟨hl.1, hl.2.1, ?_⟩, h2⟩
    unfold colBy; rw [if_neg hf]; exact hl.2.2
theorem TookCol.runs1 {b : List Nat} {n i : Nat} {c : List Int} {a e : Nat} (h : TookCol b n i c a e) (hf : formN i = 1) (hn : n ≤ 65536) : ∃ d, GivenR b n d a e ∧ sumL 0 d = c := by
  rcases h with ⟨h1, h2, h3⟩ | ⟨h1, h2, h3⟩
  · have := h1.runs
    rw [if_pos hf] at this
    refine ⟨deltaL 0 c, .inr ⟨⟨by omega, by omega⟩, .inl ⟨this, ?_, h3⟩⟩, sum_delta 0 c h1.2.1⟩
    rw [h2]; unfold colBy; rw [if_pos hf]
  · refine ⟨[], .inr ⟨⟨by omega, by omega⟩, .inr ⟨fun l' hl => h1 (sumL 0 l') ⟨by rw [sum_len]; exact hl.1, sum_in 0 l', ?_⟩, rfl, h3⟩⟩, by rw [h2]; rfl⟩
    unfold colBy; rw [if_pos hf, delta_sum 0 l' hl.2.1]; exact hl.2.2
theorem TookCol.len {b : List Nat} {n i : Nat} {c : List Int} {a e : Nat} (h : TookCol b n i c a e) : a ≤ b.length ∧ (e = 0 ∨ e = 41) := by
  rcases h with ⟨h1, h2, h3⟩ | ⟨_, _, h2, h3⟩
  · have := h1.2.2.length_le; exact ⟨by omega, .inl h3⟩
  · exact ⟨by omega, .inr h3⟩

set_option maxHeartbeats 2000000 in
theorem takeColumn_any {v : Value} {b : List Nat} {n i a e : Nat} {c : List Int} {w : World} (hv : BytesAt w v b) (hn : n ≤ 65536) (ht : TookCol b n i c a e) :
    Calls Tryz.prog 52 #[.int .i64 (formN i), v, .int .i64 n] w (GivesI c a e w) := by
  by_cases hf : formN i = 1
  · obtain ⟨d, hd, rfl⟩ := ht.runs1 hf hn
    rw [hf]
    go_enter Tryz.func52, Tryz.ntmps52
    go_wp2_with (go_at_call 80; refine (cTakeDeltas_given hv hd).mono ?_; rintro e' w1 ⟨v1, rfl, hown1, hb1⟩)
    go_ret3
    exact ⟨_, rfl, hown1, hb1⟩
  · have hd := ht.runs0 hf
    have hg : (formN i == 1) = false := by simpa using hf
    go_enter Tryz.func52, Tryz.ntmps52
    go_wp2_with (go_at_call 55; refine (cTakeRuns_any v b n c a e _ hv hn hd).mono ?_; rintro e' w1 ⟨v1, rfl, hown1, hb1⟩)
    go_ret3
    exact ⟨_, rfl, hown1, hb1⟩

set_option maxHeartbeats 400000 in
theorem not_any (k : Int) (w : World) : Calls Tryz.prog 26 #[.int .i64 k] w fun e w' => e = .returned (.iface 49 (.agg #[.int .i64 k])) ∧ w' = w := by
  go_enter Tryz.func26, Tryz.ntmps26
  go_wp2
  go_ret
  exact ⟨rfl, rfl⟩

/-- n operations, in a block of their own. -/
structure Fld (W : World) (g n : Nat) (D : Nat → OpV) : Prop where
  ex : ∃ cs, W.heap[g]? = some (.cells cs 42) ∧ cs.size = n * 26 ∧ ∀ t, t < n → ∀ j, j < 26 → cs[t * 26 + j]? = (OpC (D t))[j]?
theorem Fld.lt {W : World} {g n : Nat} {D : Nat → OpV} (h : Fld W g n D) : g < W.heap.size := by
  obtain ⟨cs, h1, _⟩ := h.ex
  exact (Array.getElem?_eq_some_iff.1 h1).1
theorem Fld.cell {W : World} {g n : Nat} {D : Nat → OpV} (h : Fld W g n D) {t j : Nat} (ht : t < n) (hj : j < 26) {u : Value} (hu : (OpC (D t))[j]? = some u) : W.cell? ⟨g, t * 26 + j, none⟩ = some u ∧ W.frozen? ⟨g, t * 26 + j, none⟩ = false := by
  obtain ⟨cs, h1, _, h3⟩ := h.ex
  exact ⟨by rw [cell_of_row _ _ _ _ _ _ h1, h3 t ht j hj, hu], frozen_of_row _ _ _ _ _ h1⟩
theorem Fld.turns {W W' : World} {g n : Nat} {D : Nat → OpV} {F : List Nat} (h : Fld W g n D) (ht : Turns F W W') (hg : g ∉ F) : Fld W' g n D := by
  obtain ⟨cs, h1, h2⟩ := h.ex
  exact ⟨cs, held_turns h1 ht hg, h2⟩
theorem Fld.set {W : World} {g n : Nat} {D : Nat → OpV} (h : Fld W g n D) {t j : Nat} (ht : t < n) (hj : j < 26) {u : Value} {x : OpV} (hx : (OpC (D t)).set! j u = OpC x) : Fld (W.setCell ⟨g, t * 26 + j, none⟩ u) g n (fun s => if s = t then x else D s) := by
  obtain ⟨cs, h1, h2, h3⟩ := h.ex
  refine ⟨_, heap_set_at h1 _ u, by simpa using h2, fun s hs k hk => ?_⟩
  have hsz : (OpC (D t)).size = 26 := OpC_size _
  rw [Array.set!_eq_setIfInBounds]
  by_cases e : s = t
  · subst e
    rw [if_pos rfl, ← hx, Array.set!_eq_setIfInBounds]
    by_cases e' : k = j
    · subst e'
      rw [Array.getElem?_setIfInBounds_self_of_lt (by omega), Array.getElem?_setIfInBounds_self_of_lt (by omega)]
    · rw [Array.getElem?_setIfInBounds_ne (by omega), Array.getElem?_setIfInBounds_ne (by omega)]
      exact h3 s hs k hk
  · rw [if_neg e, Array.getElem?_setIfInBounds_ne (by omega)]
    exact h3 s hs k hk
theorem Fld.ops {W : World} {g n c : Nat} {D : Nat → OpV} (h : Fld W g n D) (hc : n ≤ c) (hm : c ≤ maxLen) : OpsAt W (.slice (some ⟨g, 0, none⟩) n c) ((List.range n).map D) := by
  obtain ⟨cs, h1, h2, h3⟩ := h.ex
  refine ⟨some ⟨g, 0, none⟩, c, by simp, by simpa using hc, hm, ?_, fun _ => ⟨g, 0, rfl, h.lt, fun i x hx j u hu => ?_⟩, fun h => by cases h⟩
  · intro x hx
    obtain ⟨o, _, rfl⟩ := List.mem_map.1 hx
    rfl
  · rw [List.map_map, List.getElem?_map] at hx
    have hi : i < n := by
      rcases Nat.lt_or_ge i n with h' | h'
      · exact h'
      · rw [List.getElem?_eq_none (by simpa using h')] at hx; cases hx
    rw [List.getElem?_range hi] at hx
    simp at hx
    subst hx
    have hj : j < 26 := (List.getElem?_eq_some_iff.1 hu).1
    rw [cell_of_row _ _ _ _ _ _ h1, Nat.zero_add, h3 i hi j hj]
    simpa [opL] using hu

/-- One number, one truth, one text of an operation set. -/
theorem set_num (o : OpV) {k : Nat} (hk : k < 21) (x : Int) : ∃ o', (OpC o).set! (offN k) (.int .i64 x) = OpC o' :=
  below21 (p := fun k => ∃ o', (OpC o).set! (offN k) (.int .i64 x) = OpC o')
    ⟨⟨{ o with n := x }, rfl⟩, ⟨{ o with r := x }, rfl⟩, ⟨{ o with deps := fun i => if i = 0 then x else o.deps i }, rfl⟩, ⟨{ o with deps := fun i => if i = 1 then x else o.deps i }, rfl⟩, ⟨{ o with deps := fun i => if i = 2 then x else o.deps i }, rfl⟩,
     ⟨{ o with deps := fun i => if i = 3 then x else o.deps i }, rfl⟩, ⟨{ o with deps := fun i => if i = 4 then x else o.deps i }, rfl⟩, ⟨{ o with deps := fun i => if i = 5 then x else o.deps i }, rfl⟩, ⟨{ o with deps := fun i => if i = 6 then x else o.deps i }, rfl⟩,
     ⟨{ o with deps := fun i => if i = 7 then x else o.deps i }, rfl⟩, ⟨{ o with kind := x }, rfl⟩, ⟨{ o with rn := x }, rfl⟩, ⟨{ o with rr := x }, rfl⟩, ⟨{ o with side := x }, rfl⟩, ⟨{ o with ch := x }, rfl⟩, ⟨{ o with un := x }, rfl⟩, ⟨{ o with ur := x }, rfl⟩,
     ⟨{ o with fn := x }, rfl⟩, ⟨{ o with fr := x }, rfl⟩, ⟨{ o with tn := x }, rfl⟩, ⟨{ o with tr := x }, rfl⟩⟩ hk
theorem set_tru (o : OpV) (c : Nat) (x : Bool) : ∃ o', (OpC o).set! (truO c) (.bool x) = OpC o' := by
  unfold truO
  split
  · exact ⟨{ o with fa := x }, rfl⟩
  · exact ⟨{ o with ta := x }, rfl⟩
theorem set_tex (o : OpV) {c : Nat} (hc : c < 3) (x : ByteArray) : ∃ o', (OpC o).set! (17 + c) (.string x) = OpC o' := by
  rcases (by omega : c = 0 ∨ c = 1 ∨ c = 2) with rfl | rfl | rfl
  · exact ⟨{ o with key := x }, rfl⟩
  · exact ⟨{ o with name := x }, rfl⟩
  · exact ⟨{ o with value := x }, rfl⟩

theorem offN_lt {k : Nat} (hk : k < 21) : offN k < 26 := by unfold offN; split <;> (try split) <;> omega
theorem offN_inj {j k : Nat} (hj : j < 21) (hk : k < 21) (h : offN j = offN k) : j = k := by unfold offN at h; split at h <;> split at h <;> (try split at h) <;> (try split at h) <;> omega
theorem offN_apart {k : Nat} (hk : k < 21) : (∀ c, truO c ≠ offN k) ∧ ∀ c, c < 3 → 17 + c ≠ offN k := by
  refine ⟨fun c => ?_, fun c hc => ?_⟩
  · unfold truO offN; split <;> split <;> (try split) <;> omega
  · unfold offN; split <;> (try split) <;> omega
theorem truO_lt (c : Nat) : truO c < 26 := by unfold truO; split <;> omega

/-- What is known of a changed operation: cells elsewhere are as they were. -/
theorem cells_same {o o' : OpV} {j : Nat} {u : Value} (h : (OpC o).set! j u = OpC o') {k : Nat} (hk : k ≠ j) : (OpC o')[k]? = (OpC o)[k]? := by
  rw [← h, Array.set!_eq_setIfInBounds, Array.getElem?_setIfInBounds_ne (by omega)]
theorem cells_new {o o' : OpV} {j : Nat} {u : Value} (h : (OpC o).set! j u = OpC o') (hj : j < 26) : (OpC o')[j]? = some u := by
  rw [← h, Array.set!_eq_setIfInBounds, Array.getElem?_setIfInBounds_self_of_lt (by rw [OpC_size]; exact hj)]
theorem fld_of {o o' : OpV} {k : Nat} (hk : k < 21) (h : (OpC o')[offN k]? = (OpC o)[offN k]?) : fld o' k = fld o k := by
  rw [fld_cell o hk, fld_cell o' hk] at h; injection h with h; injection h
theorem fld_is {o : OpV} {k : Nat} {x : Int} (hk : k < 21) (h : (OpC o)[offN k]? = some (.int .i64 x)) : fld o k = x := by
  rw [fld_cell o hk] at h; injection h with h; injection h
theorem tru_of {o o' : OpV} (c : Nat) (h : (OpC o')[truO c]? = (OpC o)[truO c]?) : truV o' c = truV o c := by
  rw [tru_cell o c, tru_cell o' c] at h; injection h with h; injection h
theorem tru_is {o : OpV} {c : Nat} {x : Bool} (h : (OpC o)[truO c]? = some (.bool x)) : truV o c = x := by
  rw [tru_cell o c] at h; injection h with h; injection h
theorem texC_cell (o : OpV) {c : Nat} (hc : c < 3) : (OpC o)[17 + c]? = some (.string (txt o c)) := by
  rcases (by omega : c = 0 ∨ c = 1 ∨ c = 2) with rfl | rfl | rfl <;> rfl
theorem tex_of {o o' : OpV} {c : Nat} (hc : c < 3) (h : (OpC o')[17 + c]? = (OpC o)[17 + c]?) : txt o' c = txt o c := by
  rw [texC_cell o hc, texC_cell o' hc] at h; injection h with h; injection h
theorem tex_is {o : OpV} {c : Nat} {x : ByteArray} (hc : c < 3) (h : (OpC o)[17 + c]? = some (.string x)) : txt o c = x := by
  rw [texC_cell o hc] at h; injection h with h; injection h
end Go.Proofs.YthpgfnhecfgiaaaGreatDoor
