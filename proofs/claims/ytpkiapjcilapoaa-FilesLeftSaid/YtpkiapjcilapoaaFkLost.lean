/-
  What a disk holds that a loss of power has left. No program in here.
-/
import Derived.Test.YtpkiapjcilapoaaFkOrd
namespace Go.Proofs.Ytpkiapjcilapoaa
open Go.RowKit Go.Sort Go.Maps

theorem findK_snoc (d : CDisk) (fs : List CFile) (mb : Option Nat) (cv kv : Value) (a : Nam) (nm : ByteArray) :
    findK (changed { d with fs := fs } mb cv kv a) nm = if nm = a.to ∧ a.to ≠ ByteArray.empty then some a.q else if nm = a.from_ then none else findK d nm := by
  show fileAt (namesOf (d.nam ++ [a])) nm = _
  rw [namesOf_snoc, fileAt_doN (isMap_names _)]
  rfl

/-- Each name's bytes; no other name; each file synced. -/
theorem CutR.holds {d : CDisk} {l : List (ByteArray × List Nat)} (h : CutR d l) (hnd : (l.map (·.1)).Nodup) (hne : ∀ x ∈ l, x.1 ≠ ByteArray.empty) :
    (∀ x ∈ l, Holds_ d x.1 x.2) ∧ (∀ nm q, findK d nm = some q → ∃ x ∈ l, x.1 = nm) ∧ (∀ f ∈ d.fs, f.ks = [0] ∧ f.ss = [0] ∧ f.parts.length = 1 ∧ ∃ x ∈ l, f.all = x.2) := by
  induction h with
  | nil => exact ⟨by simp, fun nm q hq => absurd (hq.symm.trans (fileAt_nil nm)) (by simp), by simp⟩
  | snoc h q cv kv sv v b nm mb cv' kv' hq ih =>
    rw [List.map_append, List.nodup_append] at hnd
    obtain ⟨i1, i2, i3⟩ := ih hnd.1 (fun x hx => hne x (by simp [hx]))
    have hnm := hne (nm, b) (by simp)
    refine ⟨fun x hx => ?_, fun x q' hx => ?_, fun f hf => ?_⟩
    · rcases List.mem_append.1 hx with hx | hx
      · obtain ⟨f, hf, k1, k2⟩ := i1 x hx
        refine ⟨f, List.mem_append_left _ hf, ?_, k2⟩
        rw [findK_snoc, if_neg (fun hh => hnd.2.2 x.1 (List.mem_map.2 ⟨x, hx, rfl⟩) nm (by simp) hh.1), if_neg (hne x (by simp [hx]))]
        exact k1
      · simp at hx
        subst hx
        exact ⟨⟨q, cv, kv, sv, [(v, b)], [0], [0]⟩, List.mem_append_right _ (by simp), by rw [findK_snoc, if_pos ⟨rfl, hnm⟩], by simp [CFile.all]⟩
    · rw [findK_snoc] at hx
      split at hx
      · rename_i k
        exact ⟨(nm, b), by simp, k.1.symm⟩
      · split at hx
        · cases hx
        · obtain ⟨y, hy, e⟩ := i2 x q' hx
          exact ⟨y, by simp [hy], e⟩
    · rcases List.mem_append.1 hf with hf | hf
      · obtain ⟨k1, k2, k3, x, hx, k4⟩ := i3 f hf
        exact ⟨k1, k2, k3, x, by simp [hx], k4⟩
      · simp at hf
        subst hf
        exact ⟨rfl, rfl, rfl, (nm, b), by simp, by simp [CFile.all]⟩

theorem CutR.ordered {d : CDisk} {l : List (ByteArray × List Nat)} (h : CutR d l) (hsz : ∀ x ∈ l, x.1.size ≤ maxLen) : Ordered d := by
  induction h with
  | nil => exact ordered_new
  | @snoc d l h q cv kv sv v b nm mb cv' kv' hq ih =>
    have ho := ih (fun x hx => hsz x (by simp [hx]))
    have hc := h.calls.1
    have hkb : ∀ k ∈ d.ks, k ≤ d.calls := ho.kb
    have hF : FileOrd ⟨q, cv, kv, sv, [(v, b)], [0], [0]⟩ := ⟨by simp, by simp, rfl, by simp⟩
    have hfs : ∀ f ∈ d.fs ++ [⟨q, cv, kv, sv, [(v, b)], [0], [0]⟩], FileOrd f ∧ (∀ k ∈ f.ks, k ≤ d.calls) ∧ (∀ k ∈ f.ss, k ≤ d.calls) := fun f hf => by
      rcases List.mem_append.1 hf with hf | hf
      · exact ⟨ho.ord.fs f hf, ho.fb f hf⟩
      · simp at hf; subst hf; exact ⟨hF, by simp, by simp⟩
    refine ⟨⟨sorted_snoc ho.ord.ks hkb, ho.ord.ss, ?_, ho.ord.sm, ?_, fun f hf => (hfs f hf).1, ?_⟩, ?_, ho.sb, fun f hf => (hfs f hf).2⟩
    · show (d.nam ++ [_]).length = (d.ks ++ [_]).length
      simp [ho.ord.len]
    · intro a ha
      rcases List.mem_append.1 ha with ha | ha
      · exact ho.ord.nam a ha
      · simp at ha; subst ha; exact ⟨empty_size, hsz (nm, b) (by simp)⟩
    · intro a ha hne
      rcases List.mem_append.1 ha with ha | ha
      · obtain ⟨f, hf, e⟩ := ho.ord.fq a ha hne
        exact ⟨f, List.mem_append_left _ hf, e⟩
      · simp at ha; subst ha; exact ⟨⟨q, cv, kv, sv, [(v, b)], [0], [0]⟩, List.mem_append_right _ (by simp), rfl⟩
    · intro k hk
      rcases List.mem_append.1 hk with hk | hk
      · exact hkb k hk
      · simp at hk; subst hk; exact Nat.le_refl _

theorem Ordered.syncN {d : CDisk} (h : Ordered d) (sv : Value) (hc : d.calls ≤ 1000000) : Ordered (syncedN d sv) := by
  refine ⟨⟨h.ord.ks, sorted_snoc h.ord.ss h.sb, h.ord.len, fun k hk => ?_, h.ord.nam, h.ord.fs, h.ord.fq⟩, h.kb, fun k hk => ?_, h.fb⟩
  · rcases List.mem_append.1 hk with hk | hk
    · exact h.ord.sm k hk
    · simp at hk; omega
  · rcases List.mem_append.1 hk with hk | hk
    · exact h.sb k hk
    · simp at hk; subst hk; exact Nat.le_refl _

theorem CutR.sized {d : CDisk} {l : List (ByteArray × List Nat)} (h : CutR d l) (hl : l.length ≤ 7000) (hb : ∀ x ∈ l, x.2.length ≤ 1048576) (hnd : (l.map (·.1)).Nodup) (hne : ∀ x ∈ l, x.1 ≠ ByteArray.empty) (sv : Value) : Small (syncedN d sv) := by
  obtain ⟨z1, z2, z3, z4, z5⟩ := h.calls
  obtain ⟨_, _, i3⟩ := h.holds hnd hne
  refine ⟨by show d.nam.length ≤ _; omega, by show d.ks.length ≤ _; omega, by show (d.ss ++ [d.calls]).length ≤ _; rw [z2]; simp, by show d.calls ≤ _; omega, fun f hf => ?_⟩
  obtain ⟨k1, k2, k3, x, hx, k4⟩ := i3 f hf
  exact ⟨by omega, by rw [k1]; simp, by rw [k2]; simp, by rw [k4]; exact hb x hx⟩

/-- Nothing is open on it. -/
theorem open_none {f : CFile} (h1 : f.ks = [0]) (h2 : f.ss = [0]) (c : Nat) : (openP f c).length = 0 := by
  unfold openP
  rw [List.length_drop, List.length_take]
  have e : tillN f.ks c = 1 := by rw [h1]; simp [tillN]
  have e2 : durN f.ks f.ss c = 1 := by rw [h1, h2]; simp [durN, tillN]
  rw [e, e2]; omega

/-- What is synced last is durable, all of it. -/
theorem durN_all {ks ss : List Nat} {c : Nat} (hs : ss ≠ []) (hss : ∀ s ∈ ss, s ≤ c) (hk : ∀ k ∈ ks, k ≤ ss.getLast hs) : durN ks ss c = ks.length ∧ tillN ks c = ks.length := by
  have h1 : tillN ss c = ss.length := by
    unfold tillN
    rw [List.countP_eq_length]
    intro s h; simpa using hss s h
  have hpos : ss.length ≠ 0 := fun h => hs (List.eq_nil_of_length_eq_zero h)
  have hlast : ss.getD (ss.length - 1) 0 = ss.getLast hs := by
    rw [List.getLast_eq_getElem]
    simp [List.getD, List.getElem?_eq_getElem (show ss.length - 1 < ss.length by omega)]
  have h2 : tillN ks (ss.getLast hs) = ks.length := by
    unfold tillN
    rw [List.countP_eq_length]
    intro k h; simpa using hk k h
  have hlc : ss.getLast hs ≤ c := hss _ (List.getLast_mem hs)
  have h3 : tillN ks c = ks.length := by
    unfold tillN
    rw [List.countP_eq_length]
    intro k h; have := hk k h; simp; omega
  refine ⟨?_, h3⟩
  unfold durN
  rw [h1, if_neg hpos, hlast, h2]

/-- Names behind a loss of power at rest: all. -/
theorem thereD_all {d : CDisk} (hO : Ordered d) (hs : d.ss ≠ []) (hk : ∀ k ∈ d.ks, k ≤ d.ss.getLast hs) (names : Int) : thereD d d.calls names = d.nam := by
  obtain ⟨h1, h2⟩ := durN_all hs hO.sb hk
  unfold thereD openD
  rw [h1, h2, ← hO.ord.len, List.take_of_length_le (Nat.le_refl _)]
  simp
/-- .. and bytes. -/
theorem leftK_all {f : CFile} (hO : FileOrd f) {c : Nat} (hb : ∀ k ∈ f.ss, k ≤ c) (hs : f.ss ≠ []) (hk : ∀ k ∈ f.ks, k ≤ f.ss.getLast hs) (keep : List Bool) (torn : Int) : leftK f c keep torn = f.all ∧ openP f c = [] := by
  obtain ⟨h1, h2⟩ := durN_all hs hb hk
  have ho : openP f c = [] := by
    unfold openP
    rw [h1, h2, ← hO.len, List.take_of_length_le (Nat.le_refl _)]
    simp
  refine ⟨?_, ho⟩
  unfold leftK
  rw [ho, h1, ← hO.len, List.take_of_length_le (Nat.le_refl _)]
  simp [leftN]
  rfl

/-- Rising names are told by what stands there. -/
theorem names_eq {D D' : DW} (h : Tidy D) (h' : Tidy D') (hs : ∃ es, D = .map es ∧ ∀ q ∈ es, ∃ x, q.1 = .string x) (hs' : ∃ es, D' = .map es ∧ ∀ q ∈ es, ∃ x, q.1 = .string x) (hm : ∀ x, x ∈ strKeys D ↔ x ∈ strKeys D') : namesL D = namesL D' := by
  have nd : ∀ {E : DW}, Tidy E → (∃ es, E = .map es ∧ ∀ q ∈ es, ∃ x, q.1 = .string x) → (strKeys E).Nodup := by
    rintro E ⟨es, rfl, hp⟩ ⟨es', he, hx⟩
    injection he with he
    subst he
    simp only [strKeys]
    rw [List.nodup_iff_pairwise_ne, List.pairwise_map]
    refine hp.imp_of_mem (fun {a b} ha hb hab => ?_)
    obtain ⟨x, e1⟩ := hx a ha
    obtain ⟨y, e2⟩ := hx b hb
    rw [e1, e2] at hab ⊢
    simp only [strOf]
    intro e; exact hab (by rw [e])
  unfold namesL
  exact mergeSort_of_perm ((List.perm_ext_iff_of_nodup (nd h hs) (nd h' hs')).2 hm)
end Go.Proofs.Ytpkiapjcilapoaa
