/-
  A disk at rest: all is synced. What a loss of power leaves of it. No program in here.
-/
import Derived.Test.YtpkiapjcilapoaaFkLost
import Derived.Test.YtpkiapjcilapoaaFaApart
namespace Go.Proofs.Ytpkiapjcilapoaa
open Go.RowKit Go.Sort Go.Maps

/-- What is in a file is durable. -/
def Calm (f : CFile) : Prop := ∃ hs : f.ss ≠ [], ∀ k ∈ f.ks, k ≤ f.ss.getLast hs
def CalmAt (d : CDisk) (nm : ByteArray) : Prop := ∃ f ∈ d.fs, findK d nm = some f.q ∧ Calm f

theorem calm_synced {d : CDisk} {f : CFile} (hO : Ordered d) (hf : f ∈ d.fs) (sv : Value) : Calm (syncedF f sv (d.calls + 1)) := by
  refine ⟨by simp, fun k hk => ?_⟩
  have := (hO.fb f hf).1 k hk
  simp
  omega

theorem SyncK.calm {nm : ByteArray} {d d' : CDisk} {e : Nat} (h : SyncK nm d e d') (hO : Ordered d) :
    d'.nam = d.nam ∧ (findK d nm ≠ none → CalmAt d' nm) ∧ ∀ x, CalmAt d x → CalmAt d' x := by
  rcases h with ⟨rfl, h, _⟩ | ⟨_, A, f, B, sv, hf, hAB, rfl⟩
  · exact ⟨rfl, fun hh => absurd h hh, fun _ h => h⟩
  · have hfm : f ∈ d.fs := by rw [hAB]; simp
    have hc := calm_synced hO hfm sv
    refine ⟨rfl, fun _ => ⟨syncedF f sv (d.calls + 1), by simp, hf, hc⟩, fun x ⟨g, hg, h1, h2⟩ => ?_⟩
    rw [hAB, List.mem_append, List.mem_cons] at hg
    rcases hg with hg | rfl | hg
    · exact ⟨g, by simp [hg], h1, h2⟩
    · exact ⟨syncedF g sv (d.calls + 1), by simp, h1, hc⟩
    · exact ⟨g, by simp [hg], h1, h2⟩

theorem SyncK.act {N : Nat} {nm : ByteArray} {d d' : CDisk} {e : Nat} (h : SyncK nm d e d') : ActK N 3 nm ByteArray.empty [] d e d' := .inr (.inr (.inl ⟨rfl, h⟩))
theorem SyncNamesK.act {N : Nat} {d d' : CDisk} {e : Nat} (h : SyncNamesK d e d') : ActK N 6 ByteArray.empty ByteArray.empty [] d e d' := .inr (.inr (.inr (.inr (.inr (.inl ⟨rfl, h⟩)))))

/-- All is durable. -/
structure Rest (d : CDisk) : Prop where
  ord : Ordered d
  right : Righted d
  ss : d.ss ≠ []
  ks : ∀ k ∈ d.ks, k ≤ d.ss.getLast ss
  calm : ∀ nm q, findK d nm = some q → CalmAt d nm

theorem SyncNamesK.rest {d d' : CDisk} {e : Nat} (h : SyncNamesK d e d') (hN : Named (namesOf d.nam) d.fs) (hO : Ordered d) (hR : Righted d) (hc : d.calls ≤ 900000) (hall : ∀ nm q, findK d nm = some q → CalmAt d nm) : Rest d' ∧ d'.nam = d.nam := by
  have hO' := (h.act (N := 0)).ordered hN hR hO hc
  obtain ⟨_, sv, rfl⟩ := h
  exact ⟨⟨hO', hR, by simp, fun k hk => by have := hO.kb k hk; simp; omega, hall⟩, rfl⟩

theorem pickF_self (c : Nat) : pickF (c : Nat) (c + 1) = c := by
  unfold pickF
  rw [if_neg (by omega), Int.emod_eq_of_lt (by omega) (by omega)]
  simp

section
variable {n p : Nat} {w : World} {d : CDisk}
theorem Rest.quiet (hr : Rest d) {nm : ByteArray} {q : Nat} (hq : findK d nm = some q) : ∃ f ∈ d.fs, findK d nm = some f.q ∧ (openP f d.calls).length = 0 := by
  obtain ⟨f, hf, h1, hs, hk⟩ := hr.calm _ _ hq
  exact ⟨f, hf, h1, by rw [(leftK_all (hr.ord.ord.fs f hf) (hr.ord.fb f hf).2 hs hk [] 0).2]; rfl⟩

theorem Rest.cut (hr : Rest d) (h : DiskK n w p d) (names : Int) (keep : List Bool) (torn : Int) :
    (cutL d d.calls names keep torn).map (·.1) = (namesL (namesOf d.nam)).map (fun x => (⟨x.toArray⟩ : ByteArray)) ∧ ∀ x ∈ cutL d d.calls names keep torn, Holds_ d x.1 x.2 := by
  unfold cutL
  rw [thereD_all hr.ord hr.ss hr.ks]
  refine ⟨by rw [List.map_map]; rfl, fun x hx => ?_⟩
  obtain ⟨y, hy, rfl⟩ := List.mem_map.1 hx
  obtain ⟨q, hq⟩ := (names_mem h y).1 hy
  obtain ⟨f, hf, h1, hs, hk⟩ := hr.calm _ _ hq
  refine ⟨f, hf, h1, ?_⟩
  dsimp only
  rw [show fileAt (namesOf d.nam) ⟨y.toArray⟩ = some f.q from h1, leftAt_file h hf, (leftK_all (hr.ord.ord.fs f hf) (hr.ord.fb f hf).2 hs hk keep torn).1]

theorem names_nodup (h : DiskK n w p d) : (namesL (namesOf d.nam)).Nodup := by
  obtain ⟨es, he, hx⟩ := h.strs
  obtain ⟨es', he', hp⟩ := h.map.tidy
  rw [he] at he'
  injection he' with he'
  subst he'
  unfold namesL
  rw [(List.mergeSort_perm _ _).nodup_iff, he]
  simp only [strKeys]
  rw [List.nodup_iff_pairwise_ne, List.pairwise_map]
  refine hp.imp_of_mem (fun {a b} ha hb hab => ?_)
  obtain ⟨x, e1⟩ := hx a ha
  obtain ⟨y, e2⟩ := hx b hb
  rw [e1, e2] at hab ⊢
  simp only [strOf]
  intro e; exact hab (by rw [e])

theorem names_keys (D : DW) (x : List UInt8) : x ∈ strKeys D ↔ x ∈ namesL D := by
  unfold namesL
  exact (List.mergeSort_perm _ _).mem_iff.symm

/-- What the disk that is left is like. -/
structure LeftAs (d x : CDisk) : Prop where
  small : Small x
  ord : Ordered x
  right : Righted x
  calls : x.calls = 0
  names : namesL (namesOf x.nam) = namesL (namesOf d.nam)
  holds : ∀ nm b, Holds_ d nm b → Holds_ x nm b
  quiet : ∀ f ∈ x.fs, (openP f x.calls).length = 0

theorem Rest.left (hr : Rest d) (h : DiskK n w p d) (hsm : Small d) (hl : (namesL (namesOf d.nam)).length ≤ 7000) {names : Int} {keep : List Bool} {torn : Int} {n' pl : Nat} {w' : World} {dl : CDisk} {sv : Value}
    (h' : DiskK n' w' pl (syncedN dl sv)) (hc : CutR dl (cutL d d.calls names keep torn)) : LeftAs d (syncedN dl sv) := by
  obtain ⟨c1, c2⟩ := hr.cut h names keep torn
  generalize cutL d d.calls names keep torn = CL at c1 c2 hc
  have hnd : (CL.map (·.1)).Nodup := by
    rw [c1, List.nodup_iff_pairwise_ne, List.pairwise_map]
    refine (List.nodup_iff_pairwise_ne.1 (names_nodup h)).imp (fun hab e => hab ?_)
    have := congrArg (fun b => b.data.toList) e
    simpa using this
  have hin : ∀ x ∈ CL, ∃ q, findK d x.1 = some q := fun x hx => by obtain ⟨f, _, h1, _⟩ := c2 x hx; exact ⟨_, h1⟩
  have hri : ∀ x ∈ CL, rightF x.1 = true := fun x hx => by obtain ⟨q, hq⟩ := hin x hx; exact hr.right _ _ hq
  have hne : ∀ x ∈ CL, x.1 ≠ ByteArray.empty := fun x hx => right_ne (hri x hx)
  have hlen : CL.length = (namesL (namesOf d.nam)).length := by have := congrArg List.length c1; simpa using this
  have hb : ∀ x ∈ CL, x.2.length ≤ 1048576 := fun x hx => by obtain ⟨f, hf, _, e⟩ := c2 x hx; rw [← e]; exact (hsm.fs f hf).2.2.2
  obtain ⟨i1, i2, i3⟩ := hc.holds hnd hne
  obtain ⟨z1, z2, _⟩ := hc.calls
  have hO := hc.ordered (fun x hx => right_size (hri x hx))
  have hat : ∀ nm q, findK d nm = some q → ∃ x ∈ CL, x.1 = nm := fun nm q hq => by
    have h1 := (names_mem h nm.data.toList).2 ⟨q, by simpa using hq⟩
    have h2 : (⟨nm.data.toList.toArray⟩ : ByteArray) ∈ CL.map (·.1) := by rw [c1]; exact List.mem_map.2 ⟨_, h1, rfl⟩
    obtain ⟨x, hx, e⟩ := List.mem_map.1 h2
    exact ⟨x, hx, by simpa using e⟩
  have hho : ∀ nm b, Holds_ d nm b → Holds_ dl nm b := fun nm b hb => by
    have hb' := hb
    obtain ⟨f, hf, h1, _⟩ := hb'
    obtain ⟨x, hx, rfl⟩ := hat nm _ h1
    rw [holds_one h hb (c2 x hx)]
    exact i1 x hx
  refine ⟨hc.sized (by omega) hb hnd hne sv, hO.syncN sv (by omega), fun nm q hq => ?_, z1, ?_, hho, fun f hf => ?_⟩
  · obtain ⟨x, hx, rfl⟩ := i2 nm q hq
    exact hri x hx
  · refine names_eq h'.map.tidy h.map.tidy h'.strs h.strs (fun x => ?_)
    rw [names_keys, names_keys, names_mem h', names_mem h]
    constructor
    · rintro ⟨q, hq⟩
      obtain ⟨y, hy, e⟩ := i2 _ q hq
      rw [← e]
      exact hin y hy
    · rintro ⟨q, hq⟩
      obtain ⟨y, hy, e⟩ := hat _ q hq
      obtain ⟨f, hf, h1, _⟩ := i1 y hy
      rw [← e]
      exact ⟨_, h1⟩
  · obtain ⟨k1, k2, _⟩ := i3 f hf
    exact open_none k1 k2 _
end
end Go.Proofs.Ytpkiapjcilapoaa
