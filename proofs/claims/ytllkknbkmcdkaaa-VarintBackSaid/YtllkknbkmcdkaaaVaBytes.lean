/-
  Slices of bytes that can be read, whether the call's own, an argument or a cut; their text; 'Same', 'Take' over them, and the live question.
-/
import Derived.Test.YtllkknbkmcdkaaaVaTake
import Derived.Laws.BytesArg
namespace Go.Proofs.Ytllkknbkmcdkaaa
open Go.RowKit Go.Sort

theorem hide {p : Prop} (h : p) : Hid p := h

theorem wf_i64 {n : Int} (h : (Lit.int .i64 n).wf = true) : -9223372036854775808 ≤ n ∧ n ≤ 9223372036854775807 := by
  have h1 : IntKind.i64.min = -9223372036854775808 := rfl
  have h2 : IntKind.i64.max = 9223372036854775807 := rfl
  simp only [Lit.wf, Bool.and_eq_true, decide_eq_true_eq] at h
  omega
theorem wf_u64 {n : Int} (h : (Lit.int .u64 n).wf = true) : 0 ≤ n ∧ n ≤ 18446744073709551615 := by
  have h1 : IntKind.u64.min = 0 := rfl
  have h2 : IntKind.u64.max = 18446744073709551615 := rfl
  simp only [Lit.wf, Bool.and_eq_true, decide_eq_true_eq] at h
  omega
theorem wf_u8 {n : Int} (h : (Lit.int .u8 n).wf = true) : 0 ≤ n ∧ n < 256 := by
  have h1 : IntKind.u8.min = 0 := rfl
  have h2 : IntKind.u8.max = 255 := rfl
  simp only [Lit.wf, Bool.and_eq_true, decide_eq_true_eq] at h
  omega

theorem add_at (b off i : Nat) : (⟨b, off, none⟩ : Addr).add i = ⟨b, off + i, none⟩ := by unfold Addr.add; split <;> simp_all

/-- A slice of bytes: it holds l. -/
def BytesAt (w : World) (v : Value) (l : List Nat) : Prop :=
  ∃ A c, v = .slice A l.length c ∧ l.length ≤ c ∧ c ≤ maxLen ∧ (∀ x ∈ l, x < 256) ∧
    (0 < l.length → ∃ b off, A = some ⟨b, off, none⟩ ∧ b < w.heap.size ∧ ∀ i, i < l.length → w.cell? ⟨b, off + i, none⟩ = some (.int .u8 (l.getD i 0 : Nat))) ∧ (A = none → c = 0)

theorem BytesAt.below {w w' : World} {v : Value} {l : List Nat} (h : BytesAt w v l) (hb : Below w.heap.size w w') : BytesAt w' v l := by
  obtain ⟨A, c, h1, h2, h3, h4, h5, h6⟩ := h
  refine ⟨A, c, h1, h2, h3, h4, fun hl => ?_, h6⟩
  obtain ⟨b, off, h6, h7, h8⟩ := h5 hl
  exact ⟨b, off, h6, Nat.lt_of_lt_of_le h7 hb.size, fun i hi => (hb.cell (p := ⟨b, off + i, none⟩) h7).trans (h8 i hi)⟩

/-- Further below: what was made since lies above. -/
theorem BytesAt.later {w W w' : World} {v : Value} {l : List Nat} (h : BytesAt w v l) (hb : Below W.heap.size W w') (hw : Below w.heap.size w W) : BytesAt w' v l := (h.below hw).below hb

theorem Own.bytes {w : World} {base : Nat} {v : Value} {l : List Nat} (h : Own w base v l) (hby : ∀ x ∈ l, x < 256) : BytesAt w v l := by
  rcases h.2 with ⟨rfl, hl⟩ | ⟨g, cap, cur, rfl, hb, hg, hnc, hcm, _⟩
  · have : l = [] := by cases l with | nil => rfl | cons => simp at hl
    subst this
    exact ⟨none, 0, rfl, Nat.le_refl _, Nat.zero_le _, by simp, fun hh => absurd hh (by simp), fun _ => rfl⟩
  · refine ⟨some ⟨g, 0, none⟩, cap, rfl, hnc, hcm, hby, fun hl => ⟨g, 0, rfl, (Array.getElem?_eq_some_iff.1 hg).1, fun i hi => ?_⟩, fun hh => by cases hh⟩
    have := World.ownsRow.cells h (g := g) rfl i (bval (l.getD i 0)) (by simp [bvals, List.getD, List.getElem?_eq_getElem hi])
    rwa [add_at] at this

theorem info_u8_size : Try.prog.cellsOf 5 = 1 := by kernel_rfl

/-- The text of bytes. -/
def strB (l : List Nat) : ByteArray := ⟨(l.map UInt8.ofNat).toArray⟩

theorem strB_inj {l m : List Nat} (hl : ∀ x ∈ l, x < 256) (hm : ∀ x ∈ m, x < 256) (h : strB l = strB m) : l = m := by
  have h1 : l.map UInt8.ofNat = m.map UInt8.ofNat := by
    have := congrArg (fun b => b.data.toList) h
    simpa [strB] using this
  have h2 := congrArg (List.map UInt8.toNat) h1
  rw [List.map_map, List.map_map] at h2
  have key : ∀ q : List Nat, (∀ x ∈ q, x < 256) → q.map (UInt8.toNat ∘ UInt8.ofNat) = q := by
    intro q hq
    have : q.map (UInt8.toNat ∘ UInt8.ofNat) = q.map id := List.map_congr_left (fun x hx => by have := hq x hx; simp; omega)
    simpa using this
  rwa [key l hl, key m hm] at h2

theorem run_bytes {w : World} {v : Value} {l : List Nat} (h : BytesAt w v l) : (convert 24 9 v).run Try.prog w = .ok (.string (strB l)) w := by
  obtain ⟨A, c, rfl, h2, h3, h4, h5, h6⟩ := h
  rw [run_convert_bytes_string w 24 9 5 A l.length c Try.underlying24 Try.underlying5 Try.underlying9]
  rcases A with _ | ad
  · have : l = [] := by
      cases l with
      | nil => rfl
      | cons x t => obtain ⟨_, _, h, _⟩ := h5 (by simp); cases h
    subst this
    simp [Conv.bytesToString]
    rfl
  · have hl : (loadCells ad l.length).run Try.prog w = .ok ((l.map (fun n : Nat => (n : Int))).map (Value.int .u8)).toArray w := by
      have := run_loadCells_list (P := Try.prog) w ad ((l.map (fun n : Nat => (n : Int))).map (Value.int .u8)) (fun j u hu => by
        have hj : j < l.length := by
          rcases Nat.lt_or_ge j l.length with h | h
          · exact h
          · rw [List.getElem?_eq_none (by simpa using h)] at hu; cases hu
        obtain ⟨b, off, he, _, hc⟩ := h5 (by omega)
        injection he with he
        subst he
        rw [add_at, hc j hj]
        simp [List.getElem?_eq_getElem hj] at hu
        simp [List.getD, List.getElem?_eq_getElem hj, hu])
      simpa using this
    rw [run_bytesToString w ad l.length c _ hl, foldl_push_bytes]
    simp [strB, ByteArray.empty, ByteArray.emptyWithCapacity, Function.comp_def]
    rfl

set_option maxHeartbeats 400000 in
theorem same_at {w : World} {v u : Value} {l m : List Nat} (hv : BytesAt w v l) (hu : BytesAt w u m) :
    Calls Try.prog 10 #[v, u] w fun e w' => e = .returned (.bool (decide (l = m))) ∧ w = w' := by
  have h1 := run_bytes hv
  have h2 := run_bytes hu
  have hd : ((strB l).toList == (strB m).toList) = decide (l = m) := by
    obtain ⟨_, _, _, _, _, h4, _, _⟩ := hv
    obtain ⟨_, _, _, _, _, h5, _, _⟩ := hu
    by_cases h : l = m
    · subst h; simp
    · rw [decide_eq_false h, beq_eq_false_iff_ne]
      intro h'
      rw [ByteArray.toList_eq, ByteArray.toList_eq] at h'
      exact h (strB_inj h4 h5 (ByteArray.ext (Array.toList_inj.1 h')))
  have hd := Lib.hid hd
  obtain ⟨S, hS⟩ : ∃ S, strB l = S := ⟨_, rfl⟩
  obtain ⟨T, hT⟩ : ∃ T, strB m = T := ⟨_, rfl⟩
  rw [hS] at h1
  rw [hT] at h2
  clear hv hu
  rw [hS, hT] at hd
  clear hS hT
  go_enter Try.func10, Try.ntmps10
  go_wp2
  go_ret
  exact ⟨ret_bool hd.out, rfl⟩

theorem take_at {w : World} {v : Value} {l : List Nat} {n k e : Nat} (hv : BytesAt w v l) (ht : Taken l n k e) :
    Calls Try.prog 14 #[v] w fun e' w' => e' = .returned (.tuple #[.int .u64 n, .int .i64 k, .int .i64 e]) ∧ w = w' := by
  obtain ⟨A, c, rfl, h2, h3, h4, h5, _⟩ := hv
  have hm : (l.length : Int) ≤ 9223372036854775807 := by unfold maxLen at h3; omega
  rcases Nat.eq_zero_or_pos l.length with h0 | h0
  · have : l = [] := List.eq_nil_of_length_eq_zero h0
    subst this
    exact take_nil A c n k e (Lib.hid ht) w
  · obtain ⟨b, off, rfl, _, hc⟩ := h5 h0
    rcases Nat.lt_or_ge 10 l.length with h | h
    · exact take_long b off c l n k e (Lib.hid ht) hm (Lib.hid h4) w (Lib.hid hc) h
    · exact take_short b off c l n k e (Lib.hid ht) hm (Lib.hid h4) w (Lib.hid hc) h

theorem putL_300 : putL 300 = [172, 2] := by rw [putL_ge (by omega), putL_lt (by omega)]

/-- Where a number's bytes lie. -/
theorem own_at {w : World} {base : Nat} {v : Value} {l : List Nat} (h : Own w base v l) (hne : 0 < l.length) : ∃ g c, v = .slice (some ⟨g, 0, none⟩) l.length c ∧ l.length ≤ c ∧ c ≤ maxLen ∧ base ≤ g ∧ g < w.heap.size ∧ ∀ i, i < l.length → w.cell? ⟨g, 0 + i, none⟩ = some (.int .u8 (l.getD i 0 : Nat)) := by
  rcases h.2 with ⟨rfl, hl⟩ | ⟨g, cap, cur, rfl, hb, hg, hnc, hcm, _⟩
  · omega
  · refine ⟨g, cap, rfl, hnc, hcm, hb, (Array.getElem?_eq_some_iff.1 hg).1, fun i hi => ?_⟩
    have := World.ownsRow.cells h (g := g) rfl i (bval (l.getD i 0)) (by simp [bvals, List.getD, List.getElem?_eq_getElem hi])
    rwa [add_at] at this

theorem put_300 (w : World) : Calls Try.prog 11 #[.int .u64 300] w fun e w' => ∃ g c : Nat, e = .returned (.slice (some ⟨g, 0, none⟩) 2 c) ∧ (2 : Int) ≤ c ∧ Below w.heap.size w w' ∧ w'.cell? ⟨g, 0, none⟩ = some (.int .u8 172) ∧ w'.cell? ⟨g, 0 + 1, none⟩ = some (.int .u8 2) := by
  have hput := put_any 300 (by omega) w
  rw [putL_300] at hput
  refine hput.mono ?_
  rintro e w' ⟨v, rfl, ho, hb⟩
  obtain ⟨g, c, rfl, h2, _, _, _, hc⟩ := own_at ho (by simp)
  exact ⟨g, c, rfl, by simp at h2; omega, hb, by simpa using hc 0 (by simp), by simpa using hc 1 (by simp)⟩

set_option maxHeartbeats 800000 in
theorem alive_any (w : World) : Calls Try.prog 13 #[] w (Ret (.bool true) w) := by
  go_enter Try.func13, Try.ntmps13
  go_wp2_with (go_at_call 11; refine (put_300 _).mono ?_; rintro e w' ⟨g, c, rfl, hcp, hb, hc0, hc1⟩)
  go_ret
  exact ⟨rfl, hb⟩
end Go.Proofs.Ytllkknbkmcdkaaa
