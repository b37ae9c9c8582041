/-
  A set grows closed: what is known of the greatest counters of a closed set, and of the operation that leans on all of it.
-/
import Derived.Test.YteclkaecjogbjaaOpClosed
import Derived.Test.YteclkaecjogbjaaOpMost
import Derived.Test.YteclkaecjogbjaaOpEmpty
namespace Go.Proofs.Yteclkaecjogbjaa
open Go.RowKit Go.Sort

theorem mostL_add (l : List OpV) (o : OpV) : mostL (l ++ [o]) = withF (mostL l) o.n o.r := by unfold mostL; rw [List.foldl_append]; rfl
theorem hasId_iff (l : List OpV) (n r : Int) : hasId l n r = true ↔ ∃ o ∈ l, o.n = n ∧ o.r = r := by
  unfold hasId
  simp [List.any_eq_true]
theorem hasId_mono {l l' : List OpV} {n r : Int} (h : hasId l n r = true) : hasId (l ++ l') n r = true := by
  rw [hasId_iff] at *
  obtain ⟨o, ho, h⟩ := h
  exact ⟨o, List.mem_append_left _ ho, h⟩

/-- What the greatest counters are, of operations whose stamps are right. -/
theorem mostL_spec : ∀ (l : List OpV), (∀ o ∈ l, rightB o.n o.r = true) → ∀ i : Nat, i < 8 → (0 ≤ mostL l i ∧ mostL l i ≤ 1048576) ∧ (∀ o ∈ l, o.r = i → o.n ≤ mostL l i) ∧ (mostL l i ≠ 0 → hasId l (mostL l i) i = true) := by
  intro l
  induction hn : l.length generalizing l with
  | zero =>
    obtain rfl : l = [] := List.eq_nil_of_length_eq_zero hn
    exact fun _ i _ => ⟨⟨Int.le_refl _, by show (0 : Int) ≤ _; omega⟩, fun o ho => absurd ho (by simp), fun h => absurd rfl h⟩
  | succ n ih0 =>
    intro h i hi
    obtain ⟨l', o, rfl⟩ : ∃ l' o, l = l' ++ [o] := by
      rcases List.eq_nil_or_concat l with rfl | ⟨l', o, rfl⟩
      · simp at hn
      · exact ⟨l', o, by simp⟩
    have ih := ih0 l' (by simpa using hn)
    clear ih0 hn
    revert h
    generalize l' = l at *
    intro h
    obtain ⟨⟨a0, a1⟩, a2, a3⟩ := ih (fun x hx => h x (by simp [hx])) i hi
    obtain ⟨⟨b0, b1⟩, b2, b3⟩ := rightB_parts (h o (by simp))
    obtain ⟨k, hk, hrk⟩ : ∃ k : Nat, k < 8 ∧ o.r = k := ⟨o.r.toNat, by omega, by omega⟩
    have hw : withF (mostL l) o.n o.r = upd (mostL l) k (max (mostL l k) o.n) := by rw [hrk]; exact withF_in (replB_in (by omega) (by omega))
    rw [mostL_add, hw]
    unfold upd
    by_cases hik : i = k
    · subst hik
      simp only [if_true]
      refine ⟨⟨by omega, by omega⟩, fun x hx hxr => ?_, fun h0 => ?_⟩
      · rcases List.mem_append.1 hx with hx | hx
        · have := a2 x hx hxr; omega
        · have : x = o := by simpa using hx
          subst this; omega
      · rcases Int.le_total o.n (mostL l i) with hle | hle
        · rw [Int.max_eq_left hle] at h0 ⊢
          exact hasId_mono (a3 h0)
        · rw [Int.max_eq_right hle]
          exact (hasId_iff _ _ _).2 ⟨o, by simp, rfl, hrk⟩
    · simp only [if_neg hik]
      refine ⟨⟨a0, a1⟩, fun x hx hxr => ?_, fun h0 => hasId_mono (a3 h0)⟩
      rcases List.mem_append.1 hx with hx | hx
      · exact a2 x hx hxr
      · have : x = o := by simpa using hx
        subst this
        omega

theorem closed_right {l : List OpV} (h : closedB l = true) : ∀ o ∈ l, opB o = true := by
  intro o ho
  obtain ⟨i, hi, rfl⟩ := List.mem_iff_getElem.1 ho
  exact (((closedB_iff l).1 h).1 i _ hi (List.getElem?_eq_getElem hi)).1
theorem closed_stamps {l : List OpV} (h : closedB l = true) : ∀ o ∈ l, rightB o.n o.r = true := fun o ho => (opB_parts (closed_right h o ho)).1

/-- The operation that leans on all of a set. -/
def nextO (f : Nat → Int) (r : Int) : OpV := { zeroO with n := mostF f + 1, r := r, deps := f, kind := 1, side := 2, ch := 97 }
theorem mostF_of {f : Nat → Int} (h : ∀ i, i < 8 → 0 ≤ f i ∧ f i ≤ 1048576) : 0 ≤ mostF f ∧ mostF f ≤ 1048576 ∧ ∀ i, i < 8 → f i ≤ mostF f := by
  have h1 : ∀ i, i < 8 → f i < mostF f + 1 := fun i hi => (mostK_iff f (mostF f + 1) 7).1 (by show mostF f < _; omega) i (by omega)
  have h2 : mostF f < 1048577 := (mostK_iff f 1048577 7).2 fun i hi => by have := h i (by omega); omega
  have := h1 0 (by omega)
  have := h 0 (by omega)
  exact ⟨by omega, by omega, fun i hi => by have := h1 i hi; omega⟩

theorem nextO_right {f : Nat → Int} {r : Int} (hf : ∀ i, i < 8 → 0 ≤ f i ∧ f i ≤ 1048576) (hm : mostF f < 1048576) (hr : 0 ≤ r ∧ r < 8) : opB (nextO f r) = true := by
  obtain ⟨m0, _, m2⟩ := mostF_of hf
  have h1 : rightB (nextO f r).n (nextO f r).r = true := decide_eq_true ⟨by show 1 ≤ mostF f + 1; omega, by show mostF f + 1 ≤ _; omega, hr.1, hr.2⟩
  have h2 : depsB (nextO f r) = true := (depsB_iff _).2 fun i hi => ⟨(hf i hi).1, by show f i < mostF f + 1; have := m2 i hi; omega⟩
  have h3 : fieldsB (nextO f r) = true := by rw [fieldsB_1 rfl]; exact (by decide : insB (nextO (fun _ => 0) 0) = true)
  have h4 : eqOp (ownO (nextO f r)) (nextO f r) = true := by
    rw [ownO_1 rfl]
    exact eqOp_self _
  have h5 : namedB (nextO f r) = true := by
    unfold namedB
    have := hasB_zero h2
    show (hasB _ 0 0 && (hasB _ 0 0 && (hasB _ 0 0 && hasB _ 0 0))) = true
    rw [this]; rfl
  unfold opB
  rw [h1, h2, h3, h4, h5]; rfl

theorem closed_grows {l : List OpV} {r : Int} (h : closedB l = true) (hm : mostF (mostL l) < 1048576) (hr : 0 ≤ r ∧ r < 8) : closedB (l ++ [nextO (mostL l) r]) = true := by
  have hs := mostL_spec l (closed_stamps h)
  have hf : ∀ i, i < 8 → 0 ≤ mostL l i ∧ mostL l i ≤ 1048576 := fun i hi => (hs i hi).1
  have hright := nextO_right hf hm hr
  obtain ⟨_, _, m2⟩ := mostF_of hf
  obtain ⟨g1, g2⟩ := (closedB_iff l).1 h
  refine (closedB_iff _).2 ⟨fun i o hi ho => ?_, fun o ho => ?_⟩
  · rw [List.length_append, List.length_singleton] at hi
    rcases Nat.lt_or_ge i l.length with hlt | hge
    · rw [List.getElem?_append_left hlt] at ho
      rw [List.take_append_of_le_length (by omega)]
      exact g1 i o hlt ho
    · obtain rfl : i = l.length := by omega
      rw [List.getElem?_append_right (Nat.le_refl _), Nat.sub_self] at ho
      obtain rfl : nextO (mostL l) r = o := by simpa using ho
      refine ⟨hright, ?_⟩
      rw [List.take_left, Bool.eq_false_iff]
      intro hh
      obtain ⟨x, hx, hxn, _⟩ := (hasId_iff _ _ _).1 hh
      have hxr := rightB_parts (closed_stamps h x hx)
      have h8 : x.r.toNat < 8 := by omega
      have := (hs x.r.toNat h8).2.1 x hx (by omega)
      have := m2 _ h8
      have hxn' : x.n = mostF (mostL l) + 1 := hxn
      omega
  · rw [amongB_iff]
    intro k hk h0
    rcases List.mem_append.1 ho with ho | ho
    · exact hasId_mono ((amongB_iff _ _).1 (g2 o ho) k hk h0)
    · obtain rfl : o = nextO (mostL l) r := by simpa using ho
      exact hasId_mono ((hs k hk).2.2 h0)
end Go.Proofs.Yteclkaecjogbjaa
