/-
  Each call of the program's own disk, whole: the answer, the disk then. And sizes.
-/
import Derived.Test.YtpkiapjcilapoaaFkList
namespace Go.Proofs.Ytpkiapjcilapoaa
open Go.RowKit Go.Sort Go.Maps

def MakeK (N : Nat) (nm : ByteArray) (d : CDisk) (e : Nat) (d' : CDisk) : Prop :=
  (d' = d ∧ ((rightF nm = false ∧ e = 63) ∨ (rightF nm = true ∧ (∃ q, findK d nm = some q) ∧ e = 1) ∨ (rightF nm = true ∧ findK d nm = none ∧ 8 ≤ Maps.size (namesOf d.nam) ∧ e = 62))) ∨
  (e = 0 ∧ rightF nm = true ∧ findK d nm = none ∧ Maps.size (namesOf d.nam) < 8 ∧ ∃ q mb cv kv, N ≤ q ∧ d' = changed { tick d with fs := d.fs ++ [newFile q] } mb cv kv ⟨q, ByteArray.empty, nm⟩)
def AppendK (nm : ByteArray) (b : List Nat) (d : CDisk) (e : Nat) (d' : CDisk) : Prop :=
  (d' = d ∧ ((findK d nm = none ∧ e = 61) ∨ (∃ f ∈ d.fs, findK d nm = some f.q ∧ 1048576 < f.all.length + b.length ∧ e = 62))) ∨
  (e = 0 ∧ ∃ A f B cv kv v, findK d nm = some f.q ∧ d.fs = A ++ f :: B ∧ f.all.length + b.length ≤ 1048576 ∧ d' = { tick d with fs := A ++ partMore f cv kv v b (d.calls + 1) :: B })
def SyncK (nm : ByteArray) (d : CDisk) (e : Nat) (d' : CDisk) : Prop :=
  (d' = d ∧ findK d nm = none ∧ e = 61) ∨ (e = 0 ∧ ∃ A f B sv, findK d nm = some f.q ∧ d.fs = A ++ f :: B ∧ d' = { tick d with fs := A ++ syncedF f sv (d.calls + 1) :: B })
def RenameK (old nm : ByteArray) (d : CDisk) (e : Nat) (d' : CDisk) : Prop :=
  (d' = d ∧ ((rightF nm = false ∧ e = 63) ∨ (rightF nm = true ∧ findK d old = none ∧ e = 61))) ∨
  (e = 0 ∧ rightF nm = true ∧ ∃ q mb cv kv, findK d old = some q ∧ d' = changed (tick d) mb cv kv ⟨q, old, nm⟩)
def RemoveK (nm : ByteArray) (d : CDisk) (e : Nat) (d' : CDisk) : Prop :=
  (d' = d ∧ findK d nm = none ∧ e = 61) ∨ (e = 0 ∧ ∃ q mb cv kv, findK d nm = some q ∧ d' = changed (tick d) mb cv kv ⟨q, nm, ByteArray.empty⟩)
def SyncNamesK (d : CDisk) (e : Nat) (d' : CDisk) : Prop := e = 0 ∧ ∃ sv, d' = syncedN (tick d) sv

/-- A call that answers a number of an error and leaves a disk. -/
def OutK (n p : Nat) (d : CDisk) (w : World) (P : Nat → CDisk → Prop) : Ending → World → Prop := fun e w' => ∃ (e1 : Nat) (d' : CDisk), e = .returned (.int .i64 (e1 : Nat)) ∧ DidK n p d d' w w' ∧ P e1 d'

section
variable {n p : Nat} {w : World} {d : CDisk}
theorem make_out (h : DiskK n w p d) (hs : Small d) (nm : ByteArray) (hz : nm.size ≤ 9223372036854775807) :
    Calls Try.prog 21 #[.pointer (some ⟨p, 0, none⟩), .string nm] w (OutK n p d w (MakeK w.heap.size nm d)) := by
  have hno : ∀ e0, _ → Calls Try.prog 21 #[.pointer (some ⟨p, 0, none⟩), .string nm] w (OutK n p d w (MakeK w.heap.size nm d)) := fun e0 hw =>
    (make_no h nm hz (e0 := e0) hw).mono (fun e w' hr => ⟨e0, d, hr.1, DidK.below h hr.2, .inl ⟨rfl, hw⟩⟩)
  rcases Bool.eq_false_or_eq_true (rightF nm) with hR | hR
  · cases hf : findK d nm with
    | some q => exact hno 1 (.inr (.inl ⟨hR, ⟨q, hf⟩, rfl⟩))
    | none =>
      rcases Nat.lt_or_ge (Maps.size (namesOf d.nam)) 8 with h8 | h8
      · refine (make_ok h hs nm hz hR hf h8).mono ?_
        rintro e w' ⟨rfl, q, mb, cv, kv, hq, hd⟩
        exact ⟨0, _, rfl, hd, .inr ⟨rfl, hR, hf, h8, q, mb, cv, kv, hq, rfl⟩⟩
      · exact hno 62 (.inr (.inr ⟨hR, hf, h8, rfl⟩))
  · exact hno 63 (.inl ⟨hR, rfl⟩)

theorem append_out (h : DiskK n w p d) (hs : Small d) (nm : ByteArray) (hz : nm.size ≤ maxLen) (v : Value) (b : List Nat) (hv : BytesAt w v b) (hvp : b ≠ [] → v.ownBlock ≠ some p) (hb : b.length ≤ 1000000) :
    Calls Try.prog 22 #[.pointer (some ⟨p, 0, none⟩), .string nm, v] w (OutK n p d w (AppendK nm b d)) := by
  cases hf : findK d nm with
  | none =>
    refine (append_no h hs nm hz v b hv hb (.inl hf)).mono ?_
    rintro e w' ⟨rfl, rfl⟩
    rw [if_pos hf]
    exact ⟨61, d, rfl, DidK.refl h, .inl ⟨rfl, .inl ⟨hf, rfl⟩⟩⟩
  | some q =>
    obtain ⟨f, hfs, rfl⟩ := h.named.file nm q hf
    rcases Nat.lt_or_ge 1048576 (f.all.length + b.length) with hl | hl
    · refine (append_no h hs nm hz v b hv hb (.inr ⟨f, hfs, hf, hl⟩)).mono ?_
      rintro e w' ⟨rfl, rfl⟩
      rw [if_neg (by rw [hf]; simp)]
      exact ⟨62, d, rfl, DidK.refl h, .inl ⟨rfl, .inr ⟨f, hfs, hf, hl, rfl⟩⟩⟩
    · obtain ⟨A, B, hAB⟩ := List.append_of_mem hfs
      refine (append_ok h hs nm hz v b hv hvp hf hAB hl).mono ?_
      rintro e w' ⟨rfl, cv, kv, v', hd⟩
      exact ⟨0, _, rfl, hd, .inr ⟨rfl, A, f, B, cv, kv, v', hf, hAB, hl, rfl⟩⟩

theorem sync_out (h : DiskK n w p d) (hs : Small d) (nm : ByteArray) (hz : nm.size ≤ maxLen) :
    Calls Try.prog 15 #[.pointer (some ⟨p, 0, none⟩), .string nm] w (OutK n p d w (SyncK nm d)) := by
  refine (sync_any h hs nm hz).mono ?_
  rintro e w' (⟨hf, rfl, rfl⟩ | ⟨A, f, B, sv, hf, hAB, rfl, hd⟩)
  · exact ⟨61, d, rfl, DidK.refl h, .inl ⟨rfl, hf, rfl⟩⟩
  · exact ⟨0, _, rfl, hd, .inr ⟨rfl, A, f, B, sv, hf, hAB, rfl⟩⟩

theorem rename_out (h : DiskK n w p d) (hs : Small d) (old nm : ByteArray) (hzo : old.size ≤ maxLen) (hz : nm.size ≤ 9223372036854775807) :
    Calls Try.prog 38 #[.pointer (some ⟨p, 0, none⟩), .string old, .string nm] w (OutK n p d w (RenameK old nm d)) := by
  refine (rename_any h hs old nm hzo hz).mono ?_
  rintro e w' (⟨hR, rfl, hb⟩ | ⟨hR, hf, rfl, hb⟩ | ⟨q, mb, cv, kv, hR, hf, rfl, hd⟩)
  · exact ⟨63, d, rfl, DidK.below h hb, .inl ⟨rfl, .inl ⟨hR, rfl⟩⟩⟩
  · exact ⟨61, d, rfl, DidK.below h hb, .inl ⟨rfl, .inr ⟨hR, hf, rfl⟩⟩⟩
  · exact ⟨0, _, rfl, hd, .inr ⟨rfl, hR, q, mb, cv, kv, hf, rfl⟩⟩

theorem remove_out (h : DiskK n w p d) (hs : Small d) (nm : ByteArray) (hz : nm.size ≤ maxLen) :
    Calls Try.prog 40 #[.pointer (some ⟨p, 0, none⟩), .string nm] w (OutK n p d w (RemoveK nm d)) := by
  refine (remove_any h hs nm hz).mono ?_
  rintro e w' (⟨hf, rfl, rfl⟩ | ⟨q, mb, cv, kv, hf, rfl, hd⟩)
  · exact ⟨61, d, rfl, DidK.refl h, .inl ⟨rfl, hf, rfl⟩⟩
  · exact ⟨0, _, rfl, hd, .inr ⟨rfl, q, mb, cv, kv, hf, rfl⟩⟩

theorem syncNames_out (h : DiskK n w p d) (hs : Small d) :
    Calls Try.prog 17 #[.pointer (some ⟨p, 0, none⟩)] w (OutK n p d w (SyncNamesK d)) := by
  refine (syncNames_any h hs).mono ?_
  rintro e w' ⟨rfl, sv, hd⟩
  exact ⟨0, _, rfl, hd, rfl, sv, rfl⟩
end

/-- What an act does. -/
def ActK (N : Nat) (kind : Int) (nm s : ByteArray) (b : List Nat) (d : CDisk) (e : Nat) (d' : CDisk) : Prop :=
  (kind = 1 ∧ MakeK N nm d e d') ∨ (kind = 2 ∧ AppendK nm b d e d') ∨ (kind = 3 ∧ SyncK nm d e d') ∨ (kind = 4 ∧ RenameK nm s d e d') ∨ (kind = 5 ∧ RemoveK nm d e d') ∨ (kind = 6 ∧ SyncNamesK d e d') ∨ (¬ (1 ≤ kind ∧ kind ≤ 6) ∧ e = 0 ∧ d' = d)

/-- So many acts at the most. -/
structure Sized (k : Nat) (d : CDisk) : Prop where
  nam : d.nam.length ≤ k
  ks : d.ks.length ≤ k
  ss : d.ss.length ≤ k
  calls : d.calls ≤ k
  fs : ∀ f ∈ d.fs, f.parts.length ≤ k ∧ f.ks.length ≤ k ∧ f.ss.length ≤ k ∧ f.all.length ≤ 1048576
theorem Sized.small {k : Nat} {d : CDisk} (h : Sized k d) (hk : k ≤ 8000) : Small d :=
  ⟨Nat.le_trans h.nam hk, Nat.le_trans h.ks hk, Nat.le_trans h.ss hk, Nat.le_trans h.calls hk, fun f hf => by obtain ⟨a, b, c, e⟩ := h.fs f hf; exact ⟨by omega, by omega, by omega, e⟩⟩
theorem Sized.mono {k m : Nat} {d : CDisk} (h : Sized k d) (hk : k ≤ m) : Sized m d :=
  ⟨Nat.le_trans h.nam hk, Nat.le_trans h.ks hk, Nat.le_trans h.ss hk, Nat.le_trans h.calls hk, fun f hf => by obtain ⟨a, b, c, e⟩ := h.fs f hf; exact ⟨by omega, by omega, by omega, e⟩⟩

theorem Sized.changed {k : Nat} {d : CDisk} (h : Sized k d) (fs : List CFile) (hfs : ∀ f ∈ fs, f.parts.length ≤ k + 1 ∧ f.ks.length ≤ k + 1 ∧ f.ss.length ≤ k + 1 ∧ f.all.length ≤ 1048576) (mb : Option Nat) (cv kv : Value) (a : Nam) : Sized (k + 1) (Go.Proofs.Ytpkiapjcilapoaa.changed { tick d with fs := fs } mb cv kv a) := by
  have h1 := h.nam; have h2 := h.ks; have h3 := h.ss; have h4 := h.calls
  exact ⟨by simp [Go.Proofs.Ytpkiapjcilapoaa.changed]; omega, by simp [Go.Proofs.Ytpkiapjcilapoaa.changed]; omega, by simp [Go.Proofs.Ytpkiapjcilapoaa.changed]; omega, by simp [Go.Proofs.Ytpkiapjcilapoaa.changed]; omega, hfs⟩
theorem Sized.files {k : Nat} {d : CDisk} (h : Sized k d) (fs : List CFile) (hfs : ∀ f ∈ fs, f.parts.length ≤ k + 1 ∧ f.ks.length ≤ k + 1 ∧ f.ss.length ≤ k + 1 ∧ f.all.length ≤ 1048576) : Sized (k + 1) { tick d with fs := fs } := by
  have h1 := h.nam; have h2 := h.ks; have h3 := h.ss; have h4 := h.calls
  exact ⟨by show d.nam.length ≤ _; omega, by show d.ks.length ≤ _; omega, by show d.ss.length ≤ _; omega, by show d.calls + 1 ≤ _; omega, hfs⟩

theorem ActK.sized {k N : Nat} {kind : Int} {nm s : ByteArray} {b : List Nat} {d d' : CDisk} {e : Nat} (h : ActK N kind nm s b d e d') (hd : Sized k d) : Sized (k + 1) d' := by
  have hfs : ∀ f ∈ d.fs, f.parts.length ≤ k + 1 ∧ f.ks.length ≤ k + 1 ∧ f.ss.length ≤ k + 1 ∧ f.all.length ≤ 1048576 := fun f hf => by obtain ⟨a, b, c, e⟩ := hd.fs f hf; exact ⟨by omega, by omega, by omega, e⟩
  have hsame : Sized (k + 1) d := hd.mono (by omega)
  rcases h with ⟨_, h⟩ | ⟨_, h⟩ | ⟨_, h⟩ | ⟨_, h⟩ | ⟨_, h⟩ | ⟨_, h⟩ | ⟨_, _, h⟩
  · rcases h with ⟨rfl, _⟩ | ⟨_, _, _, _, q, mb, cv, kv, _, rfl⟩
    · exact hsame
    · refine hd.changed _ (fun f hf => ?_) mb cv kv _
      rcases List.mem_append.1 hf with hf | hf
      · exact hfs f hf
      · simp at hf; subst hf; simp [CFile.all]
  · rcases h with ⟨rfl, _⟩ | ⟨_, A, f, B, cv, kv, v, _, hAB, hl, rfl⟩
    · exact hsame
    · refine hd.files _ (fun g hg => ?_)
      rw [List.mem_append, List.mem_cons] at hg
      rcases hg with hg | rfl | hg
      · exact hfs g (by rw [hAB]; simp [hg])
      · have := hd.fs f (by rw [hAB]; simp)
        exact ⟨by simp; omega, by simp; omega, by simp; omega, by rw [all_more, List.length_append]; omega⟩
      · exact hfs g (by rw [hAB]; simp [hg])
  · rcases h with ⟨rfl, _⟩ | ⟨_, A, f, B, sv, _, hAB, rfl⟩
    · exact hsame
    · refine hd.files _ (fun g hg => ?_)
      rw [List.mem_append, List.mem_cons] at hg
      rcases hg with hg | rfl | hg
      · exact hfs g (by rw [hAB]; simp [hg])
      · have := hd.fs f (by rw [hAB]; simp)
        exact ⟨by simp; omega, by simp; omega, by simp; omega, this.2.2.2⟩
      · exact hfs g (by rw [hAB]; simp [hg])
  · rcases h with ⟨rfl, _⟩ | ⟨_, _, q, mb, cv, kv, _, rfl⟩
    · exact hsame
    · exact hd.changed d.fs hfs mb cv kv _
  · rcases h with ⟨rfl, _⟩ | ⟨_, q, mb, cv, kv, _, rfl⟩
    · exact hsame
    · exact hd.changed d.fs hfs mb cv kv _
  · obtain ⟨_, sv, rfl⟩ := h
    have h1 := hd.nam; have h2 := hd.ks; have h3 := hd.ss; have h4 := hd.calls
    exact ⟨by show d.nam.length ≤ _; omega, by show d.ks.length ≤ _; omega, by show (d.ss ++ [d.calls + 1]).length ≤ _; simp; omega, by show d.calls + 1 ≤ _; omega, hfs⟩
  · subst h; exact hsame

/-- What a name's file holds. -/
def Holds_ (d : CDisk) (nm : ByteArray) (b : List Nat) : Prop := ∃ f ∈ d.fs, findK d nm = some f.q ∧ f.all = b

theorem findK_changed (d : CDisk) (fs : List CFile) (mb : Option Nat) (cv kv : Value) (a : Nam) (nm : ByteArray) :
    findK (changed { tick d with fs := fs } mb cv kv a) nm = if nm = a.to ∧ a.to ≠ ByteArray.empty then some a.q else if nm = a.from_ then none else findK d nm := by
  show fileAt (namesOf (d.nam ++ [a])) nm = _
  rw [namesOf_snoc, fileAt_doN (isMap_names _)]
  rfl

theorem Holds_.put {d : CDisk} {A B : List CFile} {f f' : CFile} {nm : ByteArray} {b : List Nat} (h : Holds_ d nm b) (hAB : d.fs = A ++ f :: B) (hq : f'.q = f.q) (hn : findK d nm ≠ some f.q ∨ f'.all = f.all) : Holds_ { tick d with fs := A ++ f' :: B } nm b := by
  obtain ⟨g, hg, h1, h2⟩ := h
  rw [hAB, List.mem_append, List.mem_cons] at hg
  rcases hg with hg | rfl | hg
  · exact ⟨g, by simp [hg], h1, h2⟩
  · rcases hn with hn | hn
    · exact absurd h1 hn
    · exact ⟨f', by simp, by rw [hq]; exact h1, by rw [hn]; exact h2⟩
  · exact ⟨g, by simp [hg], h1, h2⟩

/-- All names are such as may be. -/
def Righted (d : CDisk) : Prop := ∀ x q, findK d x = some q → rightF x = true
theorem ActK.righted {N : Nat} {kind : Int} {nm s : ByteArray} {b : List Nat} {d d' : CDisk} {e : Nat} (h : ActK N kind nm s b d e d') (hR : Righted d) : Righted d' := by
  have keep : ∀ (fs : List CFile) (mb : Option Nat) (cv kv : Value) (a : Nam), (a.to ≠ ByteArray.empty → rightF a.to = true) → Righted (changed { tick d with fs := fs } mb cv kv a) := by
    intro fs mb cv kv a ha x q hx
    rw [findK_changed] at hx
    split at hx
    · rename_i k
      rw [k.1]; exact ha k.2
    · split at hx
      · cases hx
      · exact hR x q hx
  rcases h with ⟨_, h⟩ | ⟨_, h⟩ | ⟨_, h⟩ | ⟨hk, h⟩ | ⟨_, h⟩ | ⟨_, h⟩ | ⟨_, _, h⟩
  · rcases h with ⟨rfl, _⟩ | ⟨rfl, hr, hn, _, q, mb, cv, kv, _, rfl⟩
    · exact hR
    · exact keep _ mb cv kv _ (fun _ => hr)
  · rcases h with ⟨rfl, _⟩ | ⟨rfl, A, f, B, cv, kv, v, hf, hAB, hl, rfl⟩
    · exact hR
    · exact hR
  · rcases h with ⟨rfl, _⟩ | ⟨_, A, f, B, sv, _, hAB, rfl⟩
    · exact hR
    · exact hR
  · rcases h with ⟨rfl, _⟩ | ⟨rfl, hr, q, mb, cv, kv, _, rfl⟩
    · exact hR
    · exact keep d.fs mb cv kv _ (fun _ => hr)
  · rcases h with ⟨rfl, _⟩ | ⟨rfl, q, mb, cv, kv, _, rfl⟩
    · exact hR
    · exact keep d.fs mb cv kv _ (fun hh => absurd rfl hh)
  · obtain ⟨_, sv, rfl⟩ := h
    exact hR
  · subst h; exact hR
theorem righted_new : Righted newDisk := fun x q hx => absurd (hx.symm.trans (fileAt_nil x)) (by simp)
theorem sized_new : Sized 0 newDisk := ⟨Nat.le_refl _, Nat.le_refl _, Nat.le_refl _, Nat.le_refl _, by simp⟩
theorem ActK.error {N : Nat} {kind : Int} {nm s : ByteArray} {b : List Nat} {d d' : CDisk} {e : Nat} (h : ActK N kind nm s b d e d') (he : e ≠ 0) : d' = d := by
  rcases h with ⟨_, h⟩ | ⟨_, h⟩ | ⟨_, h⟩ | ⟨hk, h⟩ | ⟨_, h⟩ | ⟨_, h⟩ | ⟨_, _, h⟩
  · rcases h with h | h
    · exact h.1
    · exact absurd h.1 he
  · rcases h with h | h
    · exact h.1
    · exact absurd h.1 he
  · rcases h with h | h
    · exact h.1
    · exact absurd h.1 he
  · rcases h with h | h
    · exact h.1
    · exact absurd h.1 he
  · rcases h with h | h
    · exact h.1
    · exact absurd h.1 he
  · exact absurd h.1 he
  · exact h

/-- Files are apart. -/
theorem ActK.apart {N : Nat} {kind : Int} {nm s : ByteArray} {b : List Nat} {d d' : CDisk} {e : Nat} (h : ActK N kind nm s b d e d') (hN : Named (namesOf d.nam) d.fs) {x : ByteArray} {c : List Nat} (hx : Holds_ d x c) (hne : e ≠ 0 ∨ (x ≠ nm ∧ (kind = 4 → x ≠ s))) (hR : Righted d) : Holds_ d' x c := by
  have hone : ∀ (f : CFile), findK d nm = some f.q → x ≠ nm → findK d x ≠ some f.q := fun f hf hn hh => hn (hN.one x nm f.q hh hf)
  have keep : ∀ (fs : List CFile) (mb : Option Nat) (cv kv : Value) (a : Nam), (∀ f ∈ d.fs, f ∈ fs) → ¬ (x = a.to ∧ a.to ≠ ByteArray.empty) → x ≠ a.from_ → Holds_ (changed { tick d with fs := fs } mb cv kv a) x c := by
    intro fs mb cv kv a hfs h1 h2
    obtain ⟨g, hg, k1, k2⟩ := hx
    exact ⟨g, hfs g hg, by rw [findK_changed, if_neg h1, if_neg h2]; exact k1, k2⟩
  rcases h with ⟨_, h⟩ | ⟨_, h⟩ | ⟨_, h⟩ | ⟨hk, h⟩ | ⟨_, h⟩ | ⟨_, h⟩ | ⟨_, _, h⟩
  · rcases h with ⟨rfl, _⟩ | ⟨rfl, _, hn, _, q, mb, cv, kv, _, rfl⟩
    · exact hx
    · rcases hne with hne | ⟨hne, _⟩
      · exact absurd rfl hne
      · obtain ⟨g, hg, k1, k2⟩ := hx
        refine ⟨g, List.mem_append_left _ hg, ?_, k2⟩
        rw [findK_changed, if_neg (fun hh => hne hh.1)]
        rw [if_neg (right_ne (hR x _ k1))]; exact k1
  · rcases h with ⟨rfl, _⟩ | ⟨rfl, A, f, B, cv, kv, v, hf, hAB, hl, rfl⟩
    · exact hx
    · rcases hne with hne | ⟨hne, _⟩
      · exact absurd rfl hne
      · exact hx.put hAB rfl (.inl (hone f hf hne))
  · rcases h with ⟨rfl, _⟩ | ⟨_, A, f, B, sv, _, hAB, rfl⟩
    · exact hx
    · exact hx.put hAB rfl (.inr rfl)
  · rcases h with ⟨rfl, _⟩ | ⟨rfl, _, q, mb, cv, kv, _, rfl⟩
    · exact hx
    · rcases hne with hne | ⟨hne, hs⟩
      · exact absurd rfl hne
      · exact keep d.fs mb cv kv _ (fun _ hf => hf) (fun hh => hs hk hh.1) hne
  · rcases h with ⟨rfl, _⟩ | ⟨rfl, q, mb, cv, kv, _, rfl⟩
    · exact hx
    · rcases hne with hne | ⟨hne, _⟩
      · exact absurd rfl hne
      · exact keep d.fs mb cv kv _ (fun _ hf => hf) (fun hh => hh.2 rfl) hne
  · obtain ⟨_, sv, rfl⟩ := h
    exact hx
  · subst h; exact hx
end Go.Proofs.Ytpkiapjcilapoaa
