/-
  The calls stand in order, whatever is done; how many appends of a file are open.
-/
import Derived.Test.YtpkiapjcilapoaaFkCut
namespace Go.Proofs.Ytpkiapjcilapoaa
open Go.RowKit Go.Sort Go.Maps

/-- In order, and none later than now. -/
structure Ordered (d : CDisk) : Prop where
  ord : DiskOrd d
  kb : ∀ k ∈ d.ks, k ≤ d.calls
  sb : ∀ k ∈ d.ss, k ≤ d.calls
  fb : ∀ f ∈ d.fs, (∀ k ∈ f.ks, k ≤ d.calls) ∧ (∀ k ∈ f.ss, k ≤ d.calls)

theorem ordered_new : Ordered newDisk := ⟨⟨by simp, by simp, rfl, by simp, by simp, by simp, by simp⟩, by simp, by simp, by simp⟩

theorem sorted_snoc {l : List Nat} {c : Nat} (h : l.Pairwise (· ≤ ·)) (hb : ∀ k ∈ l, k ≤ c) : (l ++ [c]).Pairwise (· ≤ ·) := by
  rw [List.pairwise_append]
  exact ⟨h, by simp, fun a ha b hb' => by simp at hb'; subst hb'; exact hb a ha⟩

theorem FileOrd.empty (q : Nat) : FileOrd (newFile q) := ⟨by simp, by simp, rfl, by simp⟩

section
variable {d : CDisk}
/-- A change of names, a call later; files as they were, or one more. -/
theorem Ordered.changed (h : Ordered d) (fs : List CFile) (hfs : ∀ f ∈ fs, FileOrd f ∧ (∀ k ∈ f.ks, k ≤ d.calls) ∧ (∀ k ∈ f.ss, k ≤ d.calls)) (hsub : ∀ f ∈ d.fs, f ∈ fs) (mb : Option Nat) (cv kv : Value) (a : Nam)
    (h1 : a.from_.size ≤ maxLen) (h2 : a.to.size ≤ maxLen) (hq : a.to ≠ ByteArray.empty → ∃ f ∈ fs, f.q = a.q) : Ordered (Go.Proofs.Ytpkiapjcilapoaa.changed { tick d with fs := fs } mb cv kv a) := by
  have hkb : ∀ k ∈ d.ks, k ≤ d.calls + 1 := fun k hk => by have := h.kb k hk; omega
  refine ⟨⟨sorted_snoc h.ord.ks hkb, h.ord.ss, ?_, h.ord.sm, ?_, fun f hf => (hfs f hf).1, ?_⟩, ?_, fun k hk => by have := h.sb k hk; show k ≤ d.calls + 1; omega, fun f hf => ⟨fun k hk => by have := (hfs f hf).2.1 k hk; show k ≤ d.calls + 1; omega, fun k hk => by have := (hfs f hf).2.2 k hk; show k ≤ d.calls + 1; omega⟩⟩
  · show (d.nam ++ [a]).length = (d.ks ++ [d.calls + 1]).length
    simp [h.ord.len]
  · intro b hb
    rcases List.mem_append.1 hb with hb | hb
    · exact h.ord.nam b hb
    · simp at hb; subst hb; exact ⟨h1, h2⟩
  · intro b hb hne
    rcases List.mem_append.1 hb with hb | hb
    · obtain ⟨f, hf, e⟩ := h.ord.fq b hb hne
      exact ⟨f, hsub f hf, e⟩
    · simp at hb; subst hb; exact hq hne
  · intro k hk
    rcases List.mem_append.1 hk with hk | hk
    · exact hkb k hk
    · simp at hk; subst hk; exact Nat.le_refl _

/-- A file anew. -/
theorem Ordered.put (h : Ordered d) {A B : List CFile} {f f' : CFile} (hAB : d.fs = A ++ f :: B) (hq : f'.q = f.q) (ho : FileOrd f') (h1 : ∀ k ∈ f'.ks, k ≤ d.calls + 1) (h2 : ∀ k ∈ f'.ss, k ≤ d.calls + 1) : Ordered { tick d with fs := A ++ f' :: B } := by
  have hin : ∀ g ∈ A ++ f' :: B, g = f' ∨ g ∈ d.fs := fun g hg => by
    rw [List.mem_append, List.mem_cons] at hg
    rw [hAB]
    rcases hg with hg | hg | hg
    · exact .inr (by simp [hg])
    · exact .inl hg
    · exact .inr (by simp [hg])
  refine ⟨⟨h.ord.ks, h.ord.ss, h.ord.len, h.ord.sm, h.ord.nam, fun g hg => ?_, fun a ha hne => ?_⟩, fun k hk => by have := h.kb k hk; show k ≤ d.calls + 1; omega, fun k hk => by have := h.sb k hk; show k ≤ d.calls + 1; omega, fun g hg => ?_⟩
  · rcases hin g hg with rfl | hg
    · exact ho
    · exact h.ord.fs g hg
  · obtain ⟨g, hg, e⟩ := h.ord.fq a ha hne
    rw [hAB, List.mem_append, List.mem_cons] at hg
    rcases hg with hg | rfl | hg
    · exact ⟨g, by simp [hg], e⟩
    · exact ⟨f', by simp, by rw [hq]; exact e⟩
    · exact ⟨g, by simp [hg], e⟩
  · rcases hin g hg with rfl | hg
    · exact ⟨h1, h2⟩
    · exact ⟨fun k hk => by have := (h.fb g hg).1 k hk; show k ≤ d.calls + 1; omega, fun k hk => by have := (h.fb g hg).2 k hk; show k ≤ d.calls + 1; omega⟩
end

theorem ActK.ordered {N : Nat} {kind : Int} {nm s : ByteArray} {b : List Nat} {d d' : CDisk} {e : Nat} (h : ActK N kind nm s b d e d') (hN : Named (namesOf d.nam) d.fs) (hR : Righted d) (hO : Ordered d) (hc : d.calls ≤ 900000) : Ordered d' := by
  have hfs : ∀ f ∈ d.fs, FileOrd f ∧ (∀ k ∈ f.ks, k ≤ d.calls) ∧ (∀ k ∈ f.ss, k ≤ d.calls) := fun f hf => ⟨hO.ord.fs f hf, hO.fb f hf⟩
  rcases h with ⟨_, h⟩ | ⟨_, h⟩ | ⟨_, h⟩ | ⟨_, h⟩ | ⟨_, h⟩ | ⟨_, h⟩ | ⟨_, _, h⟩
  · rcases h with ⟨rfl, _⟩ | ⟨_, hr, _, _, q, mb, cv, kv, _, rfl⟩
    · exact hO
    · refine hO.changed _ (fun f hf => ?_) (fun f hf => List.mem_append_left _ hf) mb cv kv _ empty_size (right_size hr) (fun _ => ⟨newFile q, by simp, rfl⟩)
      rcases List.mem_append.1 hf with hf | hf
      · exact hfs f hf
      · simp at hf; subst hf; exact ⟨FileOrd.empty q, by simp, by simp⟩
  · rcases h with ⟨rfl, _⟩ | ⟨_, A, f, B, cv, kv, v, _, hAB, _, rfl⟩
    · exact hO
    · have hf : f ∈ d.fs := by rw [hAB]; simp
      obtain ⟨o1, o2, o3⟩ := hfs f hf
      have hb : ∀ k ∈ f.ks, k ≤ d.calls + 1 := fun k hk => by have := o2 k hk; omega
      refine hO.put hAB rfl ⟨sorted_snoc o1.ks hb, o1.ss, ?_, o1.sm⟩ (fun k hk => ?_) (fun k hk => by have := o3 k hk; omega)
      · show (f.parts ++ [_]).length = (f.ks ++ [_]).length
        simp [o1.len]
      · rcases List.mem_append.1 hk with hk | hk
        · exact hb k hk
        · simp at hk; omega
  · rcases h with ⟨rfl, _⟩ | ⟨_, A, f, B, sv, _, hAB, rfl⟩
    · exact hO
    · have hf : f ∈ d.fs := by rw [hAB]; simp
      obtain ⟨o1, o2, o3⟩ := hfs f hf
      have hb : ∀ k ∈ f.ss, k ≤ d.calls + 1 := fun k hk => by have := o3 k hk; omega
      refine hO.put hAB rfl ⟨o1.ks, sorted_snoc o1.ss hb, o1.len, fun k hk => ?_⟩ (fun k hk => by have := o2 k hk; omega) (fun k hk => ?_)
      · rcases List.mem_append.1 hk with hk | hk
        · exact o1.sm k hk
        · simp at hk; omega
      · rcases List.mem_append.1 hk with hk | hk
        · exact hb k hk
        · simp at hk; omega
  · rcases h with ⟨rfl, _⟩ | ⟨_, hr, q, mb, cv, kv, hf, rfl⟩
    · exact hO
    · exact hO.changed d.fs hfs (fun _ h => h) mb cv kv _ (right_size (hR _ _ hf)) (right_size hr) (fun _ => hN.file _ q hf)
  · rcases h with ⟨rfl, _⟩ | ⟨_, q, mb, cv, kv, hf, rfl⟩
    · exact hO
    · exact hO.changed d.fs hfs (fun _ h => h) mb cv kv _ (right_size (hR _ _ hf)) empty_size (fun hne => absurd rfl hne)
  · obtain ⟨_, sv, rfl⟩ := h
    have hb : ∀ k ∈ d.ss, k ≤ d.calls + 1 := fun k hk => by have := hO.sb k hk; omega
    refine ⟨⟨hO.ord.ks, sorted_snoc hO.ord.ss hb, hO.ord.len, fun k hk => ?_, hO.ord.nam, hO.ord.fs, hO.ord.fq⟩, fun k hk => by have := hO.kb k hk; show k ≤ d.calls + 1; omega, fun k hk => ?_, fun f hf => ⟨fun k hk => by have := (hO.fb f hf).1 k hk; show k ≤ d.calls + 1; omega, fun k hk => by have := (hO.fb f hf).2 k hk; show k ≤ d.calls + 1; omega⟩⟩
    · rcases List.mem_append.1 hk with hk | hk
      · exact hO.ord.sm k hk
      · simp at hk; omega
    · rcases List.mem_append.1 hk with hk | hk
      · exact hb k hk
      · simp at hk; show k ≤ d.calls + 1; omega
  · subst h; exact hO

/-- How many appends of a name's file are open. -/
def pendK (d : CDisk) (nm : ByteArray) : Nat := match findK d nm with
  | none => 0
  | some q => match d.fs.find? (fun f => decide (f.q = q)) with
    | some f => (openP f d.calls).length
    | none => 0

set_option maxRecDepth 20000 in
set_option maxHeartbeats 4000000 in
theorem pending_file {n p : Nat} {w : World} {d : CDisk} (h : DiskK n w p d) (hO : Ordered d) (hs : Small d) (nm : ByteArray) (hz : nm.size ≤ maxLen) {f : CFile} (hf : f ∈ d.fs) (hfk : findK d nm = some f.q) :
    Calls Try.prog 20 #[.pointer (some ⟨p, 0, none⟩), .string nm] w fun e w' => e = .returned (.int .i64 ((openP f d.calls).length : Nat)) ∧ ∃ q, w' = w.drewN q := by
  have cF := Lib.hid (find_any h nm hz)
  rw [hfk] at cF
  simp only [ptrV, Option.isSome] at cF
  have hF := h.files f hf
  have hFO := hO.ord.fs f hf
  have hsz := hs.fs f hf
  have hcl := hs.calls
  have cT : ∀ (W : World), W.heap = w.heap → Calls Try.prog 49 #[.pointer (some ⟨f.q, 0, none⟩), .int .i64 (d.calls : Nat)] W fun e w' => ∃ v1 v2, e = .returned (.tuple #[v1, v2]) ∧ RowsAt 1 w' v1 _ ∧ RowsAt 1 w' v2 _ ∧ ∃ q, w' = W.drewN q := fun W hW =>
    tillB_any (by rw [hW]; exact hF.file) (hF.ch.rows.heap hW) (hF.ca.rows.heap hW) (hF.sy.rows.heap hW) (by omega) (by omega) hFO.ks hFO.ss (by rw [List.length_map]; exact hFO.len) hFO.sm d.calls (by omega)
  simp only [← List.map_take, ← List.map_drop] at cT
  have cT := Lib.hid cT
  have c4 := h.c4
  have hqlt : f.q < w.heap.size := hF.wlt f.q (by simp [CFile.wb])
  have hp := h.plt
  clear h hO hs hF hFO hsz hcl hfk
  go_enter Try.func20, Try.ntmps20
  go_wp2_with (go_at_call 47; refine cF.out.mono ?_; rintro e w2 ⟨rfl, rfl⟩)
  go_region_with ((go_at_call 49; refine (cT.out _ (by rfl)).mono ?_; rintro e' w9 ⟨v1, v2, rfl, r1, r2, q1, rfl⟩; have hl2 : ∀ W, (Builtin.len_ #[73] 3 #[v2]).run Try.prog W = .ok (.int .i64 ((openP f d.calls).length : Nat)) W := (fun W => by (have := r2.len elemB.ht (ty := 3) W; rw [List.length_map] at this; exact this))))
  all_goals
    go_wp2
    go_ret
    exact ⟨rfl, by (try rw [World.drewN_drewN]); exact ⟨_, rfl⟩⟩
end Go.Proofs.Ytpkiapjcilapoaa
