/-
  A closed set, sorted: the stamps rise, and what an operation leans on stands ahead of it.
-/
import Derived.Test.YteclkaecjogbjaaSoSame
import Derived.Test.YteclkaecjogbjaaOpGrow
namespace Go.Proofs.Yteclkaecjogbjaa
open Go.RowKit Go.Sort

theorem good_apart {l : List OpV} (h : GoodTo l l.length) : (l.map fun o => (o.n, o.r)).Nodup := by
  rw [List.Nodup, List.pairwise_iff_getElem]
  intro i j hi hj hij he
  simp only [List.getElem_map, Prod.mk.injEq] at he
  rw [List.length_map] at hi hj
  have := (h j l[j] hj (List.getElem?_eq_getElem hj)).2
  have ht : hasId (l.take j) l[j].n l[j].r = true := by
    rw [hasId_iff]
    exact ⟨l[i], List.mem_take_iff_getElem.2 ⟨i, by omega, rfl⟩, he.1, he.2⟩
  rw [ht] at this
  exact absurd this (by simp)

theorem closed_rises {l l' : List OpV} (hc : closedB l = true) (h : SortOf l l') {t u : Nat} (h1 : t < u) (h2 : u < l'.length) : cmpS (lst l' t).n (lst l' t).r (lst l' u).n (lst l' u).r = -1 := by
  rw [cmpS_lt]
  have hp := h.rises h1 h2
  have hn : (l'.map fun o => (o.n, o.r)).Nodup := ((h.perm.map _).nodup_iff).2 (good_apart ((closedB_iff l).1 hc).1)
  rw [List.Nodup, List.pairwise_iff_getElem] at hn
  have := hn t u (by rw [List.length_map]; omega) (by rw [List.length_map]; omega) h1
  simp only [List.getElem_map] at this
  have e1 := lst_at (l := l') (t := t) (by omega)
  have e2 := lst_at (l := l') (t := u) h2
  rw [List.getElem?_eq_getElem (by omega)] at e1
  rw [List.getElem?_eq_getElem h2] at e2
  injection e1 with e1
  injection e2 with e2
  rw [e1, e2] at this
  unfold Pc at hp
  rcases hp with hp | ⟨g1, g2, _⟩
  · exact hp
  · exact absurd (Prod.ext g1 g2) this
theorem closed_right' {l l' : List OpV} (hc : closedB l = true) (h : SortOf l l') {i : Nat} (hi : i < l'.length) : lst l' i ∈ l ∧ opB (lst l' i) = true := by
  have hm : lst l' i ∈ l' := List.mem_of_getElem? (lst_at hi)
  exact ⟨h.mem.1 hm, closed_right hc _ (h.mem.1 hm)⟩
theorem closed_named {l l' : List OpV} (hc : closedB l = true) (h : SortOf l l') {i : Nat} (hi : i < l'.length) : namedB (lst l' i) = true := by
  have := (closed_right' hc h hi).2
  unfold opB at this
  simp only [Bool.and_eq_true] at this
  exact this.2.2.2.2
/-- What it leans on is ahead. -/
theorem closed_ahead {l l' : List OpV} (hc : closedB l = true) (h : SortOf l l') {i r : Nat} (hi : i < l'.length) (hr : r < 8) (h0 : (lst l' i).deps r ≠ 0) {k : Int} (hk : FindIs l' ((lst l' i).deps r) r k) : 0 ≤ k ∧ k < i := by
  obtain ⟨hm, ho⟩ := closed_right' hc h hi
  have hd : depsB (lst l' i) = true := by
    unfold opB at ho
    simp only [Bool.and_eq_true] at ho
    exact ho.2.1
  have hdr := (depsB_iff _).1 hd r hr
  have ha := ((closedB_iff l).1 hc).2 _ hm
  unfold amongB at ha
  rw [List.all_eq_true] at ha
  have ha := ha r (List.mem_range.2 hr)
  rw [Bool.or_eq_true] at ha
  have hid : hasId l ((lst l' i).deps r) r = true := by
    rcases ha with ha | ha
    · exact absurd (by simpa using ha) h0
    · exact ha
  obtain ⟨o, hol, hon, hor⟩ := (hasId_iff _ _ _).1 hid
  obtain ⟨j, hj, hoj⟩ := List.mem_iff_getElem.1 (h.mem.2 hol)
  have ej := lst_at (l := l') (t := j) hj
  rw [List.getElem?_eq_getElem hj] at ej
  injection ej with ej
  rw [hoj] at ej
  rcases hk with ⟨q, rfl, hq, hqn, hqr, _⟩ | ⟨_, hno⟩
  · refine ⟨by omega, ?_⟩
    rcases Nat.lt_trichotomy q i with g | g | g
    · omega
    · subst g; omega
    · have := (cmpS_lt _ _ _ _).1 (closed_rises hc h g hq)
      omega
  · exact absurd ⟨by rw [← ej]; exact hon, by rw [← ej]; exact hor⟩ (hno j hj)
end Go.Proofs.Yteclkaecjogbjaa
