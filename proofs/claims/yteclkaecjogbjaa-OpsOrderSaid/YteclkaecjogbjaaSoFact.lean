/-
  What is known of sorted operations: they are those handed in, they rise, sorted again they stay.
-/
import Derived.Test.YteclkaecjogbjaaSoSort
namespace Go.Proofs.Yteclkaecjogbjaa
open Go.RowKit Go.Sort

theorem Per.onto {lo hi : Nat} {s s' : Nat → Nat} (h : Per lo hi s s') : ∀ {u : Nat}, lo ≤ u → u < hi → ∃ t, lo ≤ t ∧ t < hi ∧ s' t = s u := by
  induction h with
  | refl => exact fun {u} a b => ⟨u, a, b, rfl⟩
  | @swap s' i j _ a b c d ih =>
    intro u h1 h2
    obtain ⟨t, t1, t2, t3⟩ := ih h1 h2
    by_cases e : t = i
    · exact ⟨j, c, d, by unfold swf; rw [if_pos rfl, ← e]; exact t3⟩
    · by_cases e' : t = j
      · by_cases e2 : i = j
        · exact absurd (e'.trans e2.symm) e
        · exact ⟨i, a, b, by unfold swf; rw [if_neg e2, if_pos rfl, ← e']; exact t3⟩
      · exact ⟨t, t1, t2, by unfold swf; rw [if_neg e', if_neg e]; exact t3⟩

theorem lst_map (l : List OpV) : (List.range l.length).map (lst l) = l := by
  apply List.ext_getElem
  · simp
  · intro i h1 h2
    rw [List.getElem_map, List.getElem_range]
    have := lst_at (l := l) (t := i) h2
    rw [List.getElem?_eq_getElem h2] at this
    injection this with this
    exact this.symm
theorem lst_of_map {n : Nat} {D : Nat → OpV} {t : Nat} (h : t < n) : lst ((List.range n).map D) t = D t := by
  unfold lst
  rw [List.getElem?_map, List.getElem?_range h]; rfl

theorem SortOf.length {l l' : List OpV} (h : SortOf l l') : l'.length = l.length := by
  obtain ⟨s, _, _, rfl⟩ := h; simp
theorem SortOf.rises {l l' : List OpV} (h : SortOf l l') {t u : Nat} (h1 : t < u) (h2 : u < l'.length) : Pc (lst l') t u := by
  have hl := h.length
  obtain ⟨s, hp, hs, rfl⟩ := h
  rw [hl] at h2
  have := hs t u (Nat.zero_le _) h1 h2
  unfold Pc at *
  rw [lst_of_map (by omega), lst_of_map h2]
  omega

theorem Srt.same {L : Nat → OpV} {n : Nat} {s : Nat → Nat} (hid : ∀ t u, t < u → u < n → Pc L t u) (hm : ∀ t, t < n → s t < n) (hs : Srt L 0 n s) : ∀ t, t < n → s t = t := by
  have inc : ∀ t u, t < u → u < n → s t < s u := fun t u h1 h2 => by
    have h := hs t u (Nat.zero_le _) h1 h2
    rcases Nat.lt_trichotomy (s t) (s u) with g | g | g
    · exact g
    · rw [g] at h; exact h.irr.elim
    · exact (h.trans (hid _ _ g (hm t (by omega)))).irr.elim
  have lower : ∀ t, t < n → t ≤ s t := by
    intro t
    induction t with
    | zero => intro _; exact Nat.zero_le _
    | succ t ih => intro ht; have := ih (by omega); have := inc t (t + 1) (by omega) ht; omega
  have upper : ∀ k t, t + k + 1 = n → s t ≤ t := by
    intro k
    induction k with
    | zero => intro t ht; have := hm t (by omega); omega
    | succ k ih => intro t ht; have := ih (t + 1) (by omega); have := inc t (t + 1) (by omega) (by omega); omega
  intro t ht
  exact Nat.le_antisymm (upper (n - 1 - t) t (by omega)) (lower t ht)

/-- Sorted again they stay. -/
theorem SortOf.again {l l' l'' : List OpV} (h : SortOf l l') (h' : SortOf l' l'') : l'' = l' := by
  have hr := fun t u h1 h2 => h.rises (t := t) (u := u) h1 h2
  obtain ⟨s, hp, hs, rfl⟩ := h'
  have hm : ∀ t, t < l'.length → s t < l'.length := fun t ht => by
    obtain ⟨u, _, u2, u3⟩ := hp.mem (t := t) (Nat.zero_le _) ht
    rw [u3]; exact u2
  have hid := Srt.same hr hm hs
  have : (List.range l'.length).map (fun t => lst l' (s t)) = (List.range l'.length).map (lst l') := List.map_congr_left fun t ht => by rw [hid t (List.mem_range.1 ht)]
  rw [this, lst_map]

/-- They are those handed in. -/
theorem SortOf.perm {l l' : List OpV} (h : SortOf l l') : l'.Perm l := by
  obtain ⟨s, hp, hs, rfl⟩ := h
  have hinj : ∀ t u, t < l.length → u < l.length → s t = s u → t = u := fun t u h1 h2 he => by
    rcases Nat.lt_trichotomy t u with g | g | g
    · have := hs t u (Nat.zero_le _) g h2; rw [he] at this; exact this.irr.elim
    · exact g
    · have := hs u t (Nat.zero_le _) g h1; rw [he] at this; exact this.irr.elim
  have hnd : ((List.range l.length).map s).Nodup := by
    rw [List.Nodup, List.pairwise_map]
    refine List.Pairwise.imp_of_mem ?_ (List.nodup_range (n := l.length))
    intro a b ha hb hab he
    exact hab (hinj a b (List.mem_range.1 ha) (List.mem_range.1 hb) he)
  have hperm : ((List.range l.length).map s).Perm (List.range l.length) := by
    refine (List.perm_ext_iff_of_nodup hnd List.nodup_range).2 fun x => ?_
    rw [List.mem_map, List.mem_range]
    constructor
    · rintro ⟨t, ht, rfl⟩
      obtain ⟨u, _, u2, u3⟩ := hp.mem (t := t) (Nat.zero_le _) (List.mem_range.1 ht)
      rw [u3]; exact u2
    · intro hx
      obtain ⟨t, _, t2, t3⟩ := hp.onto (u := x) (Nat.zero_le _) hx
      exact ⟨t, List.mem_range.2 t2, t3⟩
  have := hperm.map (lst l)
  rw [List.map_map, lst_map] at this
  exact this
theorem SortOf.mem {l l' : List OpV} (h : SortOf l l') {o : OpV} : o ∈ l' ↔ o ∈ l := h.perm.mem_iff
end Go.Proofs.Yteclkaecjogbjaa
