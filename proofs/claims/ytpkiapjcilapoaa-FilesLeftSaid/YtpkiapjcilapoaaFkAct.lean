/-
  The program's own disk: bytes put behind a file; a call that is counted.
-/
import Derived.Test.YtpkiapjcilapoaaFkRight
import Derived.Test.YtpkiapjcilapoaaFkDo
import Derived.Lib.SliceRun
namespace Go.Proofs.Ytpkiapjcilapoaa
open Go.RowKit Go.Sort Go.Maps

theorem clone_any (v : Value) (l : List Nat) (w : World) (hv : BytesAt w v l) (hl : l.length ≤ 140737488355328) :
    Calls Try.prog 51 #[v] w fun e w' => ∃ v', e = .returned v' ∧ Own w' w.heap.size v' l ∧ Below w.heap.size w w' := by
  have h0 := hv
  obtain ⟨A, c, rfl, _, _, _, h5, h6⟩ := h0
  have q : ∀ (w : World) (a : Option Addr) (n c n' c' : Nat), (binOp .eql 30 (.slice a n c) (.slice none n' c')).run Try.prog w = .ok (.bool a.isNone) w := fun w a n c n' c' => Lib.run_eql_slice_nil w _ _ a n c n' c' Try.underlying30
  have hv := Lib.hid hv
  rcases A with _ | ad
  · have hl0 : l = [] := by
      cases l with
      | nil => rfl
      | cons x t => obtain ⟨_, _, h, _⟩ := h5 (by simp); cases h
    subst hl0
    clear h5 h6
    go_enter Try.func51, Try.ntmps51
    go_wp2
    go_ret
    exact ⟨_, rfl, own_none _ _, Below.refl _ _⟩
  · clear h5 h6
    go_enter Try.func51, Try.ntmps51
    go_wp2_with (at_builtin; refine append_bytes rfl (.tmp 5) (.tmp 6) rfl w.heap.size rfl (own_made w _ rfl) rfl (hv.out.below (below_box1 _ _)) (by simpa using hl) (by simp) ?_; intro v1 w1 o1 hb1)
    go_ret
    exact ⟨_, rfl, o1, (below_box1 _ _).trans hb1⟩

/-- A file's blocks: no two are one. -/
structure FileSep (f : CFile) : Prop where
  a1 : f.cv.ownBlock ≠ some f.q
  a2 : f.kv.ownBlock ≠ some f.q
  a3 : f.sv.ownBlock ≠ some f.q
  a4 : ∀ b, f.cv.ownBlock = some b → f.kv.ownBlock ≠ some b
  a5 : ∀ b, f.cv.ownBlock = some b → f.sv.ownBlock ≠ some b
  a6 : ∀ b, f.kv.ownBlock = some b → f.sv.ownBlock ≠ some b
  ro : ∀ b ∈ f.rb, b ∉ f.wb

theorem DiskK.sep {n p : Nat} {w : World} {d : CDisk} (h : DiskK n w p d) {f : CFile} (hf : f ∈ d.fs) : FileSep f := by
  have hnd := h.nodup
  rw [CDisk.wb_eq] at hnd
  have h1 := (List.nodup_append.1 hnd).2.1
  have h2 : f.wb.Nodup := by
    obtain ⟨A, B, hAB⟩ := List.append_of_mem hf
    rw [hAB, List.flatMap_append, List.flatMap_cons] at h1
    exact (List.nodup_append.1 (List.nodup_append.1 h1).2.1).1
  simp only [CFile.wb, List.nodup_cons, List.nodup_append, List.mem_append, Option.mem_toList, not_or, ne_eq] at h2
  obtain ⟨⟨pc, pk, ps⟩, _, ⟨_, _, kF⟩, cF⟩ := h2
  exact ⟨pc, pk, ps, fun b h1 h2 => cF b h1 b (.inl h2) rfl, fun b h1 h2 => cF b h1 b (.inr h2) rfl, fun b h1 h2 => kF b h1 b h2 rfl,
    fun b hb hw => h.ro b (CDisk.rb_file hf b hb) (CDisk.wb_file hf b hw)⟩

/-- A file with a part more. -/
abbrev partMore (f : CFile) (cv kv v : Value) (b : List Nat) (c : Nat) : CFile := { f with cv := cv, kv := kv, parts := f.parts ++ [(v, b)], ks := f.ks ++ [c] }
theorem all_more (f : CFile) (cv kv v : Value) (b : List Nat) (c : Nat) : (partMore f cv kv v b c).all = f.all ++ b := by simp [CFile.all]
theorem rb_more (f : CFile) (cv kv v : Value) (b : List Nat) (c : Nat) : (partMore f cv kv v b c).rb = f.rb ++ v.ownBlock.toList := by simp [CFile.rb]

set_option maxRecDepth 20000 in
set_option maxHeartbeats 4000000 in
theorem fileAdd_any {n : Nat} {w : World} {f : CFile} (h : FileK n w f) (hsep : FileSep f) (hn : n ≤ w.heap.size) (hl : f.parts.length ≤ 10000) (hlk : f.ks.length ≤ 10000) (v : Value) (b : List Nat) (hv : BytesAt w v b) (hvw : ∀ x, v.ownBlock = some x → x ∉ f.wb)
    (hsz : f.all.length + b.length ≤ 1000000000) (c : Nat) :
    Calls Try.prog 27 #[.pointer (some ⟨f.q, 0, none⟩), .int .i64 (c : Nat), v] w fun e w' => e = .returned (.tuple #[]) ∧ ∃ cv' kv', FileK n w' (partMore f cv' kv' v b c) ∧ Turns f.wb w w' ∧
      (∀ b, cv'.ownBlock = some b → f.cv.ownBlock = some b ∨ w.heap.size ≤ b) ∧ (∀ b, kv'.ownBlock = some b → f.kv.ownBlock = some b ∨ w.heap.size ≤ b) ∧ (∀ b, cv'.ownBlock = some b → kv'.ownBlock ≠ some b) := by
  have hv0 := hv
  obtain ⟨A, cp, rfl, _, _, _, _, _⟩ := hv0
  have hq := h.file
  have hqlt : f.q < w.heap.size := (Array.getElem?_eq_some_iff.1 hq).1
  have hlx : (f.parts.map partCells).length ≤ 10000 := by simpa using hl
  have cA := Lib.hid (histAddB_any hq h.ch h.ca hsep.a1 hsep.a2 hsep.a4 hlx hlk hn A b.length cp c)
  have hlen := fun W => hv.len (ty := 3) W
  have h := Lib.hid h
  have hsep := Lib.hid hsep
  have hv := Lib.hid hv
  have hvw := Lib.hid hvw
  go_enter Try.func27, Try.ntmps27
  go_wp2_with (go_at_call 58; refine cA.out.mono ?_; rintro e w2 ⟨rfl, cv', kv', q1, q2, q3, q4, q5, q6, q7⟩; have g3 := cell_at (i := 3) q1 rfl; have f3 := frozen_at 3 q1; have q4 := Lib.hid q4; have q1 := Lib.hid q1)
  go_end0
  have hT : Turns f.wb w w2 := q4.out.mono (fun x hx => .inl (by simp [CFile.wb] at hx ⊢; rcases hx with hx | hx | hx <;> simp [hx]))
  have hq2 : f.q < w2.heap.size := (Array.getElem?_eq_some_iff.1 q1.out).1
  have hcq : cv'.ownBlock ≠ some f.q := fun e => by
    rcases q5 _ e with k | k
    · exact hsep.out.a1 k
    · omega
  have hkq : kv'.ownBlock ≠ some f.q := fun e => by
    rcases q6 _ e with k | k
    · exact hsep.out.a2 k
    · omega
  have t3 : ∀ u, Turns [f.q] w2 (w2.setCell ⟨f.q, 3, none⟩ u) := fun u => Turns.set _ _ (by simp)
  have ro := hsep.out.ro
  refine ⟨rfl, cv', kv', ⟨?_, ?_, ?_, ?_, ?_⟩, hT.trans' (Turns.set _ _ (by simp [CFile.wb])), q5, q6, q7⟩
  · rw [all_more]
    have := heap_set_at q1.out 3 (.int .i64 ((f.all.length : Int) + (b.length : Int)))
    simpa using this
  · rw [List.map_append]
    exact q2.turns (t3 _) (fun x hx => by simp; rintro rfl; exact hcq hx)
  · exact q3.turns (t3 _) (fun x hx => by simp; rintro rfl; exact hkq hx)
  · refine (h.out.sy.turns q4.out (fun x hx => ?_)).turns (t3 _) (fun x hx => by simp; rintro rfl; exact hsep.out.a3 hx)
    simp only [List.mem_cons, List.mem_append, Option.mem_toList, not_or]
    exact ⟨fun e => hsep.out.a3 (by rw [← e]; exact hx), fun e => hsep.out.a5 x e hx, fun e => hsep.out.a6 x e hx⟩
  · intro y hy
    rcases List.mem_append.1 hy with hy | hy
    · have hyr : ∀ x, y.1.ownBlock = some x → x ∉ f.wb := fun x hx => ro x (List.mem_flatMap.2 ⟨y, hy, by simp [hx]⟩)
      exact ((h.out.bytes y hy).turns hT hyr).turns (t3 _) (fun x hx => by simp; rintro rfl; exact hyr _ hx (by simp [CFile.wb]))
    · simp at hy
      subst hy
      exact (hv.out.turns hT hvw.out).turns (t3 _) (fun x hx => by simp; rintro rfl; exact hvw.out _ hx (by simp [CFile.wb]))
end Go.Proofs.Ytpkiapjcilapoaa
