/-
  The readers of figures: the program's closure, the document's own, and its writer of figures.
-/
import Derived.Test.YtmihcfjlhljmoaaDoorTxStamp
namespace Go.Proofs.YtmihcfjlhljmoaaDoor
open Go.RowKit Go.Sort Go.Lib

theorem only_setCell {a w : World} {g : Nat} (h : a.grownBy w (some g)) {p : Addr} (hp : p.block = g) (u : Value) : a.grownBy (w.setCell p u) (some g) :=
  ⟨h.os, h.tape, h.output, by simpa [World.setCell] using h.size, fun i hi hne => (Below.heap_setCell w p u i (by
    rintro rfl
    exact hne (by rw [hp]))).trans (h.block i hi hne)⟩

/-- What stands when a reading from place p on has come to place k. -/
structure FigAt (s : ByteArray) (A S : Nat) (w0 w : World) (p k n : Nat) : Prop where
  only : w0.grownBy w (some A)
  at' : w.heap[A]? = some (.cells #[.int .i64 k] 3)
  str : w.heap[S]? = some (.cells #[.string s] 9)
  bound : n ≤ 10485769
  place : k ≤ s.size ∨ k = p
  same : fg (s.data.toList.drop k) n = fg (s.data.toList.drop p) 0

theorem FigAt.step {s : ByteArray} {A S p k n : Nat} {w0 w : World} (F : FigAt s A S w0 w p k n) (hAS : A ≠ S) (hk : k < s.size) (h1 : 48 ≤ s[k].toNat) (h2 : s[k].toNat ≤ 57) (hn : n ≤ 1048576) :
    FigAt s A S w0 (w.setCell ⟨A, 0, none⟩ (.int .i64 (k + 1 : Nat))) p (k + 1) (10 * n + (s[k].toNat - 48)) := by
  refine ⟨only_setCell F.only rfl _, one_setCell F.at', (heap_setCell_other w _ _ _ (by simpa using (Ne.symm hAS))).trans F.str, by omega, .inl (by omega), ?_⟩
  rw [← F.same, List.drop_eq_getElem_cons (show k < s.data.toList.length from hk)]
  have e : s.data.toList[k]'(show k < s.data.toList.length from hk) = s[k] := rfl
  rw [e, fg_yes (by unfold dig; exact decide_eq_true ⟨h1, h2⟩) hn]
theorem FigAt.stop {s : ByteArray} {A S p k n : Nat} {w0 w : World} (F : FigAt s A S w0 w p k n) (h : s.size ≤ k ∨ ∃ hk : k < s.size, s[k].toNat < 48 ∨ 57 < s[k].toNat ∨ 1048576 < n) :
    (fg (s.data.toList.drop p) 0) = (n, s.data.toList.drop k) := by
  rw [← F.same]
  rcases h with h | ⟨hk, h⟩
  · rw [List.drop_eq_nil_of_le (show s.data.toList.length ≤ k from h), fg_nil]
  · rw [List.drop_eq_getElem_cons (show k < s.data.toList.length from hk)]
    have e : s.data.toList[k]'(show k < s.data.toList.length from hk) = s[k] := rfl
    rw [e, fg_no]
    rintro ⟨hd, hn⟩
    unfold dig at hd
    rw [decide_eq_true_eq] at hd
    omega

/-- What the reading hands back and leaves. -/
def FigEnd (s : ByteArray) (A S p : Nat) (w : World) : Ending → World → Prop := fun e w' =>
  e = .returned (.int .i64 (fg (s.data.toList.drop p) 0).1) ∧ ∃ k : Nat, FigAt s A S w w' p k (fg (s.data.toList.drop p) 0).1 ∧ s.data.toList.drop k = (fg (s.data.toList.drop p) 0).2
theorem FigAt.done {s : ByteArray} {A S p k n : Nat} {w0 w : World} (F : FigAt s A S w0 w p k n) (h : s.size ≤ k ∨ ∃ hk : k < s.size, s[k].toNat < 48 ∨ 57 < s[k].toNat ∨ 1048576 < n) {e : Ending} (he : e = .returned (.int .i64 (n : Int))) : FigEnd s A S p w0 e w := by
  have hs := F.stop h
  refine ⟨by rw [hs]; exact he, k, by rw [hs]; exact F, by rw [hs]⟩

set_option maxHeartbeats 800000 in
theorem figures_any (s : ByteArray) (A S p : Nat) (w : World) (hs : s.size ≤ 9223372036854775800) (hAS : A ≠ S)
    (hA : w.heap[A]? = some (.cells #[.int .i64 p] 3)) (hS : w.heap[S]? = some (.cells #[.string s] 9)) :
    Calls Tryd.prog 12 #[.pointer (some ⟨A, 0, none⟩), .pointer (some ⟨S, 0, none⟩)] w (FigEnd s A S p w) := by
  have F0 : FigAt s A S w w p p 0 := ⟨World.grownBy.refl _ _, hA, hS, by omega, .inr rfl, rfl⟩
  clear hA hS
  have F0 := Lib.hid F0
  go_enter Tryd.func12, Tryd.ntmps12
  go_wp2
  go_loopw [3] (fun n wr => ∃ k m : Nat, n = .int .i64 m ∧ FigAt s A S w wr p k m) (fun _ wr => s.size + 1 - (match wr.cell? ⟨A, 0, none⟩ with | some v => (intOf v).toNat | none => 0))
  case atStart => exact ⟨p, 0, rfl, F0.out⟩
  case round =>
    obtain ⟨k, m, rfl, F⟩ := hrel
    have cA : wr.cell? ⟨A, 0, none⟩ = some (.int .i64 k) := cell_of_one F.at'
    have cS : wr.cell? ⟨S, 0, none⟩ = some (.string s) := cell_of_one F.str
    have zA : wr.frozen? ⟨A, 0, none⟩ = false := free_of_one F.at'
    have hm := F.bound
    by_cases hk : k < s.size
    · obtain ⟨c, hc⟩ : ∃ c : Nat, s[k].toNat = c := ⟨_, rfl⟩
      have hb : c < 256 := by have := s[k].toNat_lt; omega
      by_cases h1 : c < 48
      · go_wp2
        go_ret
        exact F.done (.inr ⟨hk, by omega⟩) rfl
      · by_cases h2 : 57 < c
        · go_wp2
          go_ret
          exact F.done (.inr ⟨hk, by omega⟩) rfl
        · by_cases h3 : m ≤ 1048576
          · have St := Lib.hid (F.step hAS hk (by omega) (by omega) h3)
            go_wp2
            refine ⟨⟨k + 1, _, ?_, by have h := St.out; rw [hc] at h; exact_mod_cast h⟩, ?_⟩
            · congr 1; omega
            · have cN := cell_of_one (one_setCell (u := .int .i64 ((k : Int) + 1)) F.at')
              rw [cN, cA]
              simp [intOf]
              omega
          · go_wp2
            go_ret
            exact F.done (.inr ⟨hk, by omega⟩) rfl
    · have hk' : (s.size : Int) ≤ k := by omega
      go_wp2
      go_ret
      exact F.done (.inl (by omega)) rfl


/-- The document's reader of a number: what stands when k bytes are read. -/
theorem nb_step {l : List UInt8} {k n : Nat} (hk : k < l.length) (h1 : 48 ≤ l[k].toNat) (h2 : l[k].toNat ≤ 57) (hn : n ≤ 1048576) : nb (l.drop k) n = nb (l.drop (k + 1)) (10 * n + (l[k].toNat - 48)) := by
  rw [List.drop_eq_getElem_cons hk, nb, if_pos hn, if_pos (by unfold dig; exact decide_eq_true ⟨h1, h2⟩)]
theorem nb_bad {l : List UInt8} {k n : Nat} (hk : k < l.length) (h : l[k].toNat < 48 ∨ 57 < l[k].toNat) (hn : n ≤ 1048576) : nb (l.drop k) n = -1 := by
  rw [List.drop_eq_getElem_cons hk, nb, if_pos hn, if_neg]
  unfold dig
  rw [decide_eq_true_eq]
  omega
theorem nb_over : ∀ {l : List UInt8} {n : Nat}, (l = [] ∨ 1048576 < n) → nb l n = n
  | [], n, _ => rfl
  | c :: t, n, h => by
    have : ¬ n ≤ 1048576 := h.elim (fun h => by cases h) (fun h => by omega)
    rw [nb, if_neg this]
theorem num_neg {l : List UInt8} (h : l = [] ∨ nb l 0 = -1 ∨ 1048576 < nb l 0) : num l = -1 := by
  unfold num
  rcases h with h | h | h
  · rw [if_pos (.inl h)]
  · by_cases h' : l = []
    · rw [if_pos (.inl h')]
    · rw [if_neg]
      · exact h
      · rintro (h'' | h'')
        · exact h' h''
        · omega
  · rw [if_pos (.inr h)]
theorem num_pos {l : List UInt8} {n : Nat} (h : l ≠ []) (h2 : nb l 0 = n) (h3 : n ≤ 1048576) : num l = n := by
  unfold num
  rw [if_neg, h2]
  rintro (h' | h')
  · exact h h'
  · omega

set_option maxHeartbeats 800000 in
theorem number_any (s : ByteArray) (w : World) (hs : s.size ≤ 9223372036854775800) :
    Calls Tryd.prog 13 #[.string s] w fun e w' => e = .returned (.int .i64 (num s.data.toList)) ∧ w = w' := by
  go_enter Tryd.func13, Tryd.ntmps13
  go_wp2
  go_loop [3, 4] (fun n i => ∃ k m : Nat, i = .int .i64 k ∧ n = .int .i64 m ∧ k ≤ s.size ∧ m ≤ 10485769 ∧ nb s.data.toList 0 = nb (s.data.toList.drop k) m) (fun _ i => s.size - (intOf i).toNat)
  case atStart => exact ⟨0, 0, rfl, rfl, by omega, by omega, rfl⟩
  case round =>
    obtain ⟨k, m, rfl, rfl, hks, hm, hnb⟩ := hrel
    have hnb := Lib.hid hnb
    have hl : s.data.toList.length = s.size := rfl
    have hl := Lib.hid hl
    by_cases hk : k < s.size
    · obtain ⟨c, hc⟩ : ∃ c : Nat, s[k].toNat = c := ⟨_, rfl⟩
      have hb : c < 256 := by have := s[k].toNat_lt; omega
      have hcl : (s.data.toList[k]'(show k < s.data.toList.length from hk)).toNat = c := hc
      have hcl := Lib.hid hcl
      by_cases h3 : m ≤ 1048576
      · by_cases h1 : c < 48
        · have e : Hid (num s.data.toList = -1) := num_neg (.inr (.inl (by rw [hnb.out, nb_bad hk (by rw [hcl.out]; omega) h3])))
          go_wp2
          go_ret
          exact ⟨by rw [e.out]; rfl, rfl⟩
        · by_cases h2 : 57 < c
          · have e : Hid (num s.data.toList = -1) := num_neg (.inr (.inl (by rw [hnb.out, nb_bad hk (by rw [hcl.out]; omega) h3])))
            go_wp2
            go_ret
            exact ⟨by rw [e.out]; rfl, rfl⟩
          · have e : Hid (nb s.data.toList 0 = nb (s.data.toList.drop (k + 1)) (10 * m + (c - 48))) := show _ = _ by
              rw [hnb.out, nb_step hk (by rw [hcl.out]; omega) (by rw [hcl.out]; omega) h3, hcl.out]
            go_wp2
            exact ⟨⟨k + 1, _, by go_num, by congr 1; omega, by omega, by omega, e.out⟩, by simp [intOf]; omega⟩
      · have e : Hid (num s.data.toList = -1) := num_neg (.inr (.inr (by rw [hnb.out, nb_over (.inr (by omega))]; omega)))
        have hz : ((s.size : Int) == 0) = false := beq_eq_false_iff_ne.2 (by omega)
        go_wp2
        go_ret
        exact ⟨by rw [e.out]; rfl, rfl⟩
    · have hks' : k = s.size := by omega
      by_cases h0 : s.size = 0
      · have e : Hid (num s.data.toList = -1) := num_neg (.inl (List.eq_nil_of_length_eq_zero (by rw [hl.out]; exact h0)))
        have hz : ((s.size : Int) == 0) = true := beq_iff_eq.2 (by omega)
        have hk' : ¬ (k : Int) < s.size := by omega
        clear h0 hks'
        go_wp2
        go_ret
        exact ⟨by rw [e.out]; rfl, rfl⟩
      · have hne : s.data.toList ≠ [] := fun h => h0 (by rw [← hl.out, h]; rfl)
        have hz : ((s.size : Int) == 0) = false := beq_eq_false_iff_ne.2 (by omega)
        have hv : nb s.data.toList 0 = m := by rw [hnb.out, nb_over (.inl (List.drop_eq_nil_of_le (by rw [hl.out]; omega)))]
        have hk' : ¬ (k : Int) < s.size := by omega
        by_cases h3 : m ≤ 1048576
        · have e : Hid (num s.data.toList = m) := num_pos hne hv h3
          clear h0 hks' hne hv
          go_wp2
          go_ret
          exact ⟨by rw [e.out]; rfl, rfl⟩
        · have e : Hid (num s.data.toList = -1) := num_neg (.inr (.inr (by rw [hv]; omega)))
          clear h0 hks' hne hv
          go_wp2
          go_ret
          exact ⟨by rw [e.out]; rfl, rfl⟩

end Go.Proofs.YtmihcfjlhljmoaaDoor
