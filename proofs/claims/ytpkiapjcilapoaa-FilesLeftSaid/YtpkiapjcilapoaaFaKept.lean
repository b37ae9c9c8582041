/-
  What was durable is kept, whatever comes behind it. No program in here.
-/
import Derived.Test.YtpkiapjcilapoaaFaRest
namespace Go.Proofs.Ytpkiapjcilapoaa
open Go.RowKit Go.Sort Go.Maps

/-- A file has gone on. -/
structure FileMore (f f' : CFile) : Prop where
  q : f'.q = f.q
  parts : ∃ t, f'.parts = f.parts ++ t
  ks : ∃ t, f'.ks = f.ks ++ t
  ss : ∃ t, f'.ss = f.ss ++ t
theorem FileMore.refl (f : CFile) : FileMore f f := ⟨rfl, ⟨[], by simp⟩, ⟨[], by simp⟩, ⟨[], by simp⟩⟩
theorem FileMore.trans {f g h : CFile} (a : FileMore f g) (b : FileMore g h) : FileMore f h := by
  obtain ⟨a1, ⟨t1, a2⟩, ⟨t2, a3⟩, ⟨t3, a4⟩⟩ := a
  obtain ⟨b1, ⟨u1, b2⟩, ⟨u2, b3⟩, ⟨u3, b4⟩⟩ := b
  exact ⟨b1.trans a1, ⟨t1 ++ u1, by rw [b2, a2, List.append_assoc]⟩, ⟨t2 ++ u2, by rw [b3, a3, List.append_assoc]⟩, ⟨t3 ++ u3, by rw [b4, a4, List.append_assoc]⟩⟩

/-- A disk has gone on, and no name was taken away. -/
structure Grown (d0 d : CDisk) : Prop where
  nam : ∃ t, d.nam = d0.nam ++ t ∧ ∀ a ∈ t, a.from_ = ByteArray.empty ∧ findK d0 a.to = none
  ks : ∃ t, d.ks = d0.ks ++ t
  ss : ∃ t, d.ss = d0.ss ++ t
  fs : ∀ f ∈ d0.fs, ∃ f' ∈ d.fs, FileMore f f'
  calls : d0.calls ≤ d.calls
theorem Grown.refl (d : CDisk) : Grown d d := ⟨⟨[], by simp, by simp⟩, ⟨[], by simp⟩, ⟨[], by simp⟩, fun f hf => ⟨f, hf, FileMore.refl f⟩, Nat.le_refl _⟩

/-- Names that are there stay, whatever is made besides. -/
theorem find_more {l t : List Nam} {x : ByteArray} {q : Nat} (hx : fileAt (namesOf l) x = some q) (hne : x ≠ ByteArray.empty) (ht : ∀ a ∈ t, a.from_ = ByteArray.empty ∧ fileAt (namesOf l) a.to = none) : ∀ n, fileAt (namesOf (l ++ t.take n)) x = some q
  | 0 => by simpa using hx
  | n + 1 => by
    cases hs : t[n]? with
    | none =>
      have hl : t.length ≤ n := List.getElem?_eq_none_iff.1 hs
      have := find_more hx hne ht n
      rw [List.take_of_length_le hl] at this
      rw [List.take_of_length_le (by omega)]
      exact this
    | some a =>
      obtain ⟨h1, h2⟩ := ht a (List.mem_of_getElem? hs)
      rw [take_snoc hs, ← List.append_assoc, namesOf_snoc, fileAt_doN (isMap_names _)]
      have h3 : ¬ (x = a.to ∧ a.to ≠ ByteArray.empty) := fun e => by rw [e.1, h2] at hx; cases hx
      rw [if_neg h3, h1, if_neg hne]
      exact find_more hx hne ht n
theorem Grown.find {d0 d : CDisk} (h : Grown d0 d) (hR : Righted d0) {x : ByteArray} {q : Nat} (hx : findK d0 x = some q) : findK d x = some q := by
  obtain ⟨t, h1, h2⟩ := h.nam
  have := find_more (t := t) hx (right_ne (hR _ _ hx)) h2 t.length
  rw [List.take_length, ← h1] at this
  exact this

theorem Grown.put {d0 d : CDisk} (h : Grown d0 d) {A B : List CFile} {f f' : CFile} (hAB : d.fs = A ++ f :: B) (hf : FileMore f f') : Grown d0 { tick d with fs := A ++ f' :: B } := by
  refine ⟨h.nam, h.ks, h.ss, fun g hg => ?_, by have := h.calls; show d0.calls ≤ d.calls + 1; omega⟩
  obtain ⟨g', hg', hm⟩ := h.fs g hg
  rw [hAB, List.mem_append, List.mem_cons] at hg'
  rcases hg' with e | rfl | e
  · exact ⟨g', by simp [e], hm⟩
  · exact ⟨f', by simp, hm.trans hf⟩
  · exact ⟨g', by simp [e], hm⟩

/-- An act that takes no name away. -/
theorem Grown.step {N : Nat} {kind : Int} {nm s : ByteArray} {b : List Nat} {d0 d d' : CDisk} {e : Nat} (h : Grown d0 d) (hR : Righted d0) (ha : ActK N kind nm s b d e d') (hk : kind ≠ 4 ∧ kind ≠ 5) : Grown d0 d' := by
  rcases ha with ⟨_, ha⟩ | ⟨_, ha⟩ | ⟨_, ha⟩ | ⟨hk4, ha⟩ | ⟨hk5, ha⟩ | ⟨_, ha⟩ | ⟨_, _, ha⟩
  · rcases ha with ⟨rfl, _⟩ | ⟨_, _, hn, _, q, mb, cv, kv, _, rfl⟩
    · exact h
    · have hn0 : findK d0 nm = none := by
        cases hh : findK d0 nm with
        | none => rfl
        | some q' => rw [h.find hR hh] at hn; cases hn
      obtain ⟨t, h1, h2⟩ := h.nam
      obtain ⟨u, h3⟩ := h.ks
      refine ⟨⟨t ++ [⟨q, ByteArray.empty, nm⟩], by show d.nam ++ [_] = _; rw [h1, List.append_assoc], fun a hm => ?_⟩, ⟨u ++ [d.calls + 1], by show d.ks ++ [d.calls + 1] = _; rw [h3, List.append_assoc]⟩, h.ss, fun f hf => ?_, by have := h.calls; show d0.calls ≤ d.calls + 1; omega⟩
      · rcases List.mem_append.1 hm with hm | hm
        · exact h2 a hm
        · simp at hm; subst hm; exact ⟨rfl, hn0⟩
      · obtain ⟨f', hf', hm⟩ := h.fs f hf
        exact ⟨f', List.mem_append_left _ hf', hm⟩
  · rcases ha with ⟨rfl, _⟩ | ⟨_, A, f, B, cv, kv, v, _, hAB, _, rfl⟩
    · exact h
    · exact h.put hAB ⟨rfl, ⟨[(v, b)], rfl⟩, ⟨[d.calls + 1], rfl⟩, ⟨[], by simp⟩⟩
  · rcases ha with ⟨rfl, _⟩ | ⟨_, A, f, B, sv, _, hAB, rfl⟩
    · exact h
    · exact h.put hAB ⟨rfl, ⟨[], by simp⟩, ⟨[], by simp⟩, ⟨[d.calls + 1], rfl⟩⟩
  · exact absurd hk4 hk.1
  · exact absurd hk5 hk.2
  · obtain ⟨_, sv, rfl⟩ := ha
    obtain ⟨u, h3⟩ := h.ss
    exact ⟨h.nam, h.ks, ⟨u ++ [d.calls + 1], by show d.ss ++ [d.calls + 1] = _; rw [h3, List.append_assoc]⟩, h.fs, by have := h.calls; show d0.calls ≤ d.calls + 1; omega⟩
  · subst ha; exact h

theorem tillN_all {l t : List Nat} {c : Nat} (h : ∀ k ∈ l, k ≤ c) : l.length ≤ tillN (l ++ t) c := by
  unfold tillN
  rw [List.countP_append]
  have : l.countP (fun x => decide (x ≤ c)) = l.length := List.countP_eq_length.2 (fun k hk => by simpa using h k hk)
  omega
/-- What was durable once is durable. -/
theorem durN_ge {ks0 ss0 tk ts : List Nat} {c : Nat} (h0 : ss0 ≠ []) (hk : ∀ k ∈ ks0, k ≤ ss0.getLast h0) (hs : (ss0 ++ ts).Pairwise (· ≤ ·)) (hc : ∀ s ∈ ss0, s ≤ c) : ks0.length ≤ durN (ks0 ++ tk) (ss0 ++ ts) c := by
  have hT := tillN_all (t := ts) hc
  have hT2 := tillN_le (ss0 ++ ts) c
  have hpos : 0 < ss0.length := List.length_pos_iff.2 h0
  unfold durN
  rw [if_neg (by omega)]
  obtain ⟨T, hTe⟩ : ∃ T, tillN (ss0 ++ ts) c = T := ⟨_, rfl⟩
  rw [hTe] at hT hT2 ⊢
  have hge : ss0.getLast h0 ≤ (ss0 ++ ts).getD (T - 1) 0 := by
    have e1 : (ss0 ++ ts)[ss0.length - 1]'(by rw [List.length_append]; omega) = ss0.getLast h0 := by
      rw [List.getElem_append_left (by omega), List.getLast_eq_getElem]
    have e2 : (ss0 ++ ts).getD (T - 1) 0 = (ss0 ++ ts)[T - 1]'(by omega) := by
      rw [List.getD_eq_getElem?_getD, List.getElem?_eq_getElem (by omega)]; rfl
    rw [e2, ← e1]
    rcases Nat.lt_or_ge (ss0.length - 1) (T - 1) with hlt | hge
    · exact List.pairwise_iff_getElem.1 hs _ _ _ _ hlt
    · have : ss0.length - 1 = T - 1 := by omega
      simp only [this]
      exact Nat.le_refl _
  refine Nat.le_trans (tillN_all (t := tk) (c := ss0.getLast h0) hk) (tillN_mono _ hge)

theorem take_mid {α : Type} (l : List α) {D T m : Nat} (h : D ≤ T) : ∃ n, D ≤ n ∧ l.take D ++ ((l.take T).drop D).take m = l.take n := by
  refine ⟨min T (D + m), by omega, ?_⟩
  rw [List.take_drop, List.take_take]
  have e : l.take D = ((l.take (min (D + m) T)).take D) := by rw [List.take_take]; congr 1; omega
  rw [e, List.take_append_drop, Nat.min_comm]

theorem Rest.thereD {d0 d : CDisk} (hr : Rest d0) (h : Grown d0 d) (hO : Ordered d) {c : Nat} (hc : d0.calls ≤ c) (names : Int) {x : ByteArray} {q : Nat} (hx : findK d0 x = some q) : fileAt (namesOf (Go.Proofs.Ytpkiapjcilapoaa.thereD d c names)) x = some q := by
  obtain ⟨t, h1, h2⟩ := h.nam
  obtain ⟨tk, h3⟩ := h.ks
  obtain ⟨ts, h4⟩ := h.ss
  have hge : d0.ks.length ≤ durN d.ks d.ss c := by
    rw [h3, h4]
    exact durN_ge hr.ss hr.ks (by rw [← h4]; exact hO.ord.ss) (fun s hs => Nat.le_trans (hr.ord.sb s hs) hc)
  have hle := durN_le d.ks d.ss c hO.ord.ss
  unfold Go.Proofs.Ytpkiapjcilapoaa.thereD openD
  obtain ⟨n, hn, e⟩ := take_mid d.nam (m := pickF names (((d.nam.take (tillN d.ks c)).drop (durN d.ks d.ss c)).length + 1)) hle
  rw [e, h1]
  have hl := hr.ord.ord.len
  have e2 : (d0.nam ++ t).take n = d0.nam ++ t.take (n - d0.nam.length) := by
    rw [List.take_append, List.take_of_length_le (by omega)]
  rw [e2]
  exact find_more hx (right_ne (hr.right _ _ hx)) h2 _

theorem leftN_more (l : List (List Nat)) (keep : List Bool) (torn : Int) (b0 : List Nat) : ∀ i, ∃ t, (leftN l keep torn b0 i).1 = b0 ++ t ∧ b0.length ≤ (leftN l keep torn b0 i).2
  | 0 => ⟨[], by simp [leftN], by simp [leftN]⟩
  | i + 1 => by
    obtain ⟨t, h1, h2⟩ := leftN_more l keep torn b0 i
    cases hs : l[i]? with
    | none =>
      have e : leftN l keep torn b0 (i + 1) = leftN l keep torn b0 i := by rw [leftN, hs]
      rw [e]; exact ⟨t, h1, h2⟩
    | some p =>
      obtain ⟨⟨o, e⟩, hr⟩ : ∃ r, leftN l keep torn b0 i = r := ⟨_, rfl⟩
      rw [leftN_step hs keep torn b0 hr]
      rw [hr] at h1 h2
      dsimp only at h1 h2
      subst h1
      split
      · exact ⟨t ++ p, by simp, by simp only [List.length_append]; omega⟩
      · exact ⟨t ++ List.replicate p.length 0, by simp, h2⟩

theorem Calm.left {f f' : CFile} (hf : Calm f) (hl : f.parts.length = f.ks.length) (h : FileMore f f') (hO : FileOrd f') {c : Nat} (hc : ∀ s ∈ f.ss, s ≤ c) (keep : List Bool) (torn : Int) : ∃ t, leftK f' c keep torn = f.all ++ t := by
  obtain ⟨h0, hk⟩ := hf
  obtain ⟨_, ⟨tp, e1⟩, ⟨tk, e2⟩, ⟨ts, e3⟩⟩ := h
  have hge : f.ks.length ≤ durN f'.ks f'.ss c := by
    rw [e2, e3]
    exact durN_ge h0 hk (by rw [← e3]; exact hO.ss) hc
  obtain ⟨D, hD⟩ : ∃ D, durN f'.ks f'.ss c = D := ⟨_, rfl⟩
  rw [hD] at hge
  have ep : f'.parts.take D = f.parts ++ tp.take (D - f.parts.length) := by
    rw [e1, List.take_append, List.take_of_length_le (by omega)]
  have ea : allParts (f'.parts.take D) = f.all ++ allParts (tp.take (D - f.parts.length)) := by
    rw [ep]; unfold allParts CFile.all; rw [List.flatMap_append]
  unfold leftK
  rw [hD, ea]
  dsimp only
  obtain ⟨t, g1, g2⟩ := leftN_more ((openP f' c).map (·.2)) keep torn (f.all ++ allParts (tp.take (D - f.parts.length))) (openP f' c).length
  rw [g1]
  rw [List.length_append] at g2
  refine ⟨((allParts (tp.take (D - f.parts.length)) ++ t).take ((leftN ((openP f' c).map (·.2)) keep torn (f.all ++ allParts (tp.take (D - f.parts.length))) (openP f' c).length).2 - f.all.length)), ?_⟩
  rw [List.append_assoc, List.take_append, List.take_of_length_le (by omega)]

/-- The map of names, as it is made: its keys are texts, no two alike, no more than there were changes. -/
def Strung (D : DW) (n : Nat) : Prop := ∃ es : List (Lit × DW), D = .map es ∧ (∀ q ∈ es, ∃ x, q.1 = .string x) ∧ es.length ≤ n ∧ es.Pairwise (fun p q => p.1 ≠ q.1)
theorem Strung.del {D : DW} {n : Nat} (h : Strung D n) (k : Lit) : Strung (D.del k) n := by
  obtain ⟨es, rfl, h1, h2, h3⟩ := h
  exact ⟨es.filter fun p => !p.1.sameKey k, rfl, fun q hq => h1 q (List.mem_filter.1 hq |>.1), Nat.le_trans (List.length_filter_le _ _) h2, h3.filter _⟩
theorem Strung.put {D : DW} {n : Nat} (h : Strung D n) (nm : ByteArray) (v : DW) : Strung (D.put (keyL nm) v) (n + 1) := by
  obtain ⟨es, rfl, h1, h2, h3⟩ := h
  have hp := Go.WideShapes.insert_perm (keyL nm, v) (es.filter fun p => !p.1.sameKey (keyL nm))
  refine ⟨DataW.insert (keyL nm, v) (es.filter fun p => !p.1.sameKey (keyL nm)), rfl, fun q hq => ?_, ?_, ?_⟩
  · rcases List.mem_cons.1 (hp.mem_iff.1 hq) with e | hq
    · exact ⟨nm.data.toList, by rw [e]; rfl⟩
    · exact h1 q (List.mem_filter.1 hq |>.1)
  · rw [hp.length_eq, List.length_cons]
    exact Nat.succ_le_succ (Nat.le_trans (List.length_filter_le _ _) h2)
  · refine (hp.pairwise_iff (fun {_ _} hne => Ne.symm hne)).2 (List.pairwise_cons.2 ⟨fun q hq => ?_, h3.filter _⟩)
    have hf := (List.mem_filter.1 hq).2
    obtain ⟨x, hx⟩ := h1 q (List.mem_filter.1 hq |>.1)
    intro e
    rw [← e] at hf
    simp [keyL, Lit.sameKey] at hf
theorem strung_names (l : List Nam) : Strung (namesOf l) l.length := by
  suffices h : ∀ (l : List Nam) (D : DW) (n : Nat), Strung D n → Strung (l.foldl doN D) (n + l.length) from by
    have := h l (.map []) 0 ⟨[], rfl, by simp, by simp, List.Pairwise.nil⟩
    rw [Nat.zero_add] at this
    exact this
  intro l
  induction l with
  | nil => exact fun D n h => h
  | cons a t ih =>
    intro D n h
    have h1 : Strung (doN D a) (n + 1) := by
      unfold doN
      split
      · obtain ⟨es, e, h1, h2, h3⟩ := h.del (keyL a.from_)
        exact ⟨es, e, h1, by omega, h3⟩
      · exact (h.del _).put _ _
    have := ih _ _ h1
    rw [List.length_cons]
    rw [show n + (t.length + 1) = n + 1 + t.length by omega]
    exact this
theorem named_iff (l : List Nam) (x : List UInt8) : x ∈ namesL (namesOf l) ↔ ∃ q, fileAt (namesOf l) ⟨x.toArray⟩ = some q := by
  have hh := has_names ⟨x.toArray⟩ l
  obtain ⟨es, he, hs, _⟩ := strung_names l
  unfold namesL
  rw [(List.mergeSort_perm _ _).mem_iff]
  rw [← Option.isSome_iff_exists, ← hh, he]
  simp only [keyL, has_eq, strKeys, List.mem_map, List.any_eq_true]
  refine exists_congr fun q => and_congr_right fun hq => ?_
  obtain ⟨y, hy⟩ := hs q hq
  rw [hy]
  simp [strOf, Lit.sameKey]
theorem namesL_le (l : List Nam) : (namesL (namesOf l)).length ≤ l.length := by
  obtain ⟨es, he, hs, hl, _⟩ := strung_names l
  rw [he]
  simpa [namesL, strKeys] using hl
theorem namesL_nodup (l : List Nam) : (namesL (namesOf l)).Nodup := by
  obtain ⟨es, he, hx, _, hp⟩ := strung_names l
  unfold namesL
  rw [(List.mergeSort_perm _ _).nodup_iff, he]
  simp only [strKeys]
  rw [List.nodup_iff_pairwise_ne, List.pairwise_map]
  refine hp.imp_of_mem (fun {a b} ha hb hab => ?_)
  obtain ⟨x, e1⟩ := hx a ha
  obtain ⟨y, e2⟩ := hx b hb
  rw [e1, e2] at hab ⊢
  simp only [strOf]
  intro e; exact hab (by rw [e])

/-- Every name that was given may be one. -/
def NamRight (d : CDisk) : Prop := ∀ a ∈ d.nam, a.to = ByteArray.empty ∨ rightF a.to = true
theorem namRight_new : NamRight newDisk := fun a ha => by cases ha
theorem ActK.namRight {N : Nat} {kind : Int} {nm s : ByteArray} {b : List Nat} {d d' : CDisk} {e : Nat} (h : ActK N kind nm s b d e d') (hR : NamRight d) : NamRight d' := by
  have hadd : ∀ (a : Nam), (a.to = ByteArray.empty ∨ rightF a.to = true) → ∀ x ∈ d.nam ++ [a], x.to = ByteArray.empty ∨ rightF x.to = true := fun a ha x hx => by
    rcases List.mem_append.1 hx with hx | hx
    · exact hR x hx
    · simp at hx; subst hx; exact ha
  rcases h with ⟨_, h⟩ | ⟨_, h⟩ | ⟨_, h⟩ | ⟨_, h⟩ | ⟨_, h⟩ | ⟨_, h⟩ | ⟨_, _, h⟩
  · rcases h with ⟨rfl, _⟩ | ⟨_, hr, _, _, q, mb, cv, kv, _, rfl⟩
    · exact hR
    · exact hadd _ (.inr hr)
  · rcases h with ⟨rfl, _⟩ | ⟨_, A, f, B, cv, kv, v, _, hAB, _, rfl⟩
    · exact hR
    · exact hR
  · rcases h with ⟨rfl, _⟩ | ⟨_, A, f, B, sv, _, hAB, rfl⟩
    · exact hR
    · exact hR
  · rcases h with ⟨rfl, _⟩ | ⟨_, hr, q, mb, cv, kv, hf, rfl⟩
    · exact hR
    · exact hadd _ (.inr hr)
  · rcases h with ⟨rfl, _⟩ | ⟨_, q, mb, cv, kv, hf, rfl⟩
    · exact hR
    · exact hadd _ (.inl rfl)
  · obtain ⟨_, sv, rfl⟩ := h; exact hR
  · subst h; exact hR

/-- What the disk that is left holds. -/
structure KeptAs (d0 x : CDisk) : Prop where
  small : Small x
  right : Righted x
  holds : ∀ nm b, Holds_ d0 nm b → ∃ t, Holds_ x nm (b ++ t)

theorem Rest.keeps {n0 p0 n p : Nat} {w0 w : World} {d0 d : CDisk} (hr : Rest d0) (hd0 : DiskK n0 w0 p0 d0) (h : Grown d0 d) (hO : Ordered d) (hN : NamRight d) (hd : DiskK n w p d) (hs : Small d) (hl : d.nam.length ≤ 7000) {c : Nat} (hc : d0.calls ≤ c) {names : Int} {keep : List Bool} {torn : Int} {dl : CDisk}
    (hcut : CutR dl (cutL d c names keep torn)) (sv : Value) : KeptAs d0 (syncedN dl sv) := by
  have hsub : ∀ a ∈ Go.Proofs.Ytpkiapjcilapoaa.thereD d c names, a ∈ d.nam := by
    unfold Go.Proofs.Ytpkiapjcilapoaa.thereD openD
    intro a ha
    rcases List.mem_append.1 ha with ha | ha
    · exact List.mem_of_mem_take ha
    · exact List.mem_of_mem_take (List.mem_of_mem_drop (List.mem_of_mem_take ha))
  have hlen : (Go.Proofs.Ytpkiapjcilapoaa.thereD d c names).length ≤ 14000 := by
    unfold Go.Proofs.Ytpkiapjcilapoaa.thereD openD
    rw [List.length_append]
    have h1 := List.length_take_le (durN d.ks d.ss c) d.nam
    have h2 : (((d.nam.take (tillN d.ks c)).drop (durN d.ks d.ss c)).take (pickF names (((d.nam.take (tillN d.ks c)).drop (durN d.ks d.ss c)).length + 1))).length ≤ d.nam.length := by
      simp only [List.length_take, List.length_drop]; omega
    have h3 : (d.nam.take (durN d.ks d.ss c)).length ≤ d.nam.length := by simp only [List.length_take]; omega
    omega
  have hlen2 : (namesL (namesOf (Go.Proofs.Ytpkiapjcilapoaa.thereD d c names))).length ≤ 7000 := by
    obtain ⟨n1, _, e⟩ := take_mid d.nam (D := durN d.ks d.ss c) (T := tillN d.ks c) (m := pickF names (((d.nam.take (tillN d.ks c)).drop (durN d.ks d.ss c)).length + 1)) (durN_le d.ks d.ss c hO.ord.ss)
    have h1 := namesL_le (Go.Proofs.Ytpkiapjcilapoaa.thereD d c names)
    have h2 : (Go.Proofs.Ytpkiapjcilapoaa.thereD d c names).length ≤ d.nam.length := by
      unfold Go.Proofs.Ytpkiapjcilapoaa.thereD openD
      rw [e, List.length_take]; omega
    omega
  have hin : ∀ x ∈ cutL d c names keep torn, rightF x.1 = true := fun x hx => by
    obtain ⟨y, hy, rfl⟩ := List.mem_map.1 hx
    obtain ⟨q, hq⟩ := (named_iff _ y).1 hy
    obtain ⟨a, ha, _, h2, h3⟩ := fileAt_mem _ _ _ hq
    rcases hN a (hsub a ha) with e | e
    · exact absurd e h3
    · rw [h2] at e; exact e
  have hby : ∀ x ∈ cutL d c names keep torn, x.2.length ≤ 1048576 := fun x hx => by
    obtain ⟨y, hy, rfl⟩ := List.mem_map.1 hx
    dsimp only
    unfold leftAt
    split
    · simp
    · split
      · rename_i f hf
        have hfm := List.mem_of_find?_eq_some hf
        exact Nat.le_trans (leftK_len (hO.ord.fs f hfm) c keep torn) (hs.fs f hfm).2.2.2
      · simp
  have hnd : ((cutL d c names keep torn).map (·.1)).Nodup := by
    unfold cutL
    rw [List.map_map, List.nodup_iff_pairwise_ne, List.pairwise_map]
    refine (List.nodup_iff_pairwise_ne.1 (namesL_nodup (Go.Proofs.Ytpkiapjcilapoaa.thereD d c names))).imp (fun hab e => hab ?_)
    have := congrArg (fun b : ByteArray => b.data.toList) e
    simpa using this
  have hne : ∀ x ∈ cutL d c names keep torn, x.1 ≠ ByteArray.empty := fun x hx => right_ne (hin x hx)
  obtain ⟨i1, i2, _⟩ := hcut.holds hnd hne
  refine ⟨hcut.sized (by unfold cutL; rw [List.length_map]; exact hlen2) hby hnd hne sv, fun nm q hq => ?_, fun nm b hb => ?_⟩
  · obtain ⟨x, hx, rfl⟩ := i2 nm q hq
    exact hin x hx
  · obtain ⟨f, hf, hq, rfl⟩ := hb
    obtain ⟨f2, hf2, hq2, hcalm⟩ := hr.calm _ _ hq
    have e2 : f2 = f := file_oneK hd0 hf2 hf (by have := hq2.symm.trans hq; injection this)
    subst e2
    obtain ⟨f', hf', hm⟩ := h.fs f2 hf
    obtain ⟨t, ht⟩ := hcalm.left (hr.ord.ord.fs f2 hf).len hm (hO.ord.fs f' hf') (c := c) (fun s hs => Nat.le_trans ((hr.ord.fb f2 hf).2 s hs) hc) keep torn
    refine ⟨t, ?_⟩
    have hth := hr.thereD h hO hc names hq
    have hx : (nm, f2.all ++ t) ∈ cutL d c names keep torn := by
      unfold cutL
      refine List.mem_map.2 ⟨nm.data.toList, (named_iff _ _).2 ⟨f2.q, by simpa using hth⟩, ?_⟩
      have en : (⟨nm.data.toList.toArray⟩ : ByteArray) = nm := by simp
      rw [en, hth, ← hm.q, leftAt_file hd hf', ht]
    exact i1 _ hx
end Go.Proofs.Ytpkiapjcilapoaa
