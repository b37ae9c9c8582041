/-
  Closed, and each replica's greatest counter, in whatever order.
-/
import Derived.Test.YteclkaecjogbjaaSoClosed
namespace Go.Proofs.Yteclkaecjogbjaa
open Go.RowKit Go.Sort

theorem good_iff {l : List OpV} : GoodTo l l.length ↔ (∀ o ∈ l, opB o = true) ∧ (l.map fun o => (o.n, o.r)).Nodup := by
  constructor
  · intro h
    refine ⟨fun o ho => ?_, good_apart h⟩
    obtain ⟨i, hi, rfl⟩ := List.mem_iff_getElem.1 ho
    exact (h i _ hi (List.getElem?_eq_getElem hi)).1
  · rintro ⟨h1, h2⟩ i o hi ho
    refine ⟨h1 o (List.mem_of_getElem? ho), ?_⟩
    rw [Bool.eq_false_iff]
    intro h
    obtain ⟨o', ho', e1, e2⟩ := (hasId_iff _ _ _).1 h
    obtain ⟨j, hj, rfl⟩ := List.mem_take_iff_getElem.1 ho'
    rw [List.Nodup, List.pairwise_iff_getElem] at h2
    have := h2 j i (by rw [List.length_map]; omega) (by rw [List.length_map]; omega) (by omega)
    rw [List.getElem?_eq_getElem hi] at ho
    injection ho with ho
    simp only [List.getElem_map] at this
    exact this (Prod.ext (by rw [ho]; exact e1) (by rw [ho]; exact e2))
theorem hasId_perm {l l' : List OpV} (h : l.Perm l') (n r : Int) : hasId l n r = hasId l' n r := by
  rw [Bool.eq_iff_iff, hasId_iff, hasId_iff]
  constructor
  · rintro ⟨o, ho, e⟩; exact ⟨o, h.mem_iff.1 ho, e⟩
  · rintro ⟨o, ho, e⟩; exact ⟨o, h.mem_iff.2 ho, e⟩
theorem closedB_perm {l l' : List OpV} (h : l.Perm l') : closedB l = closedB l' := by
  have ha : ∀ o, amongB l o = amongB l' o := fun o => by
    unfold amongB
    congr 1
    funext r
    rw [hasId_perm h]
  rw [Bool.eq_iff_iff, closedB_iff, closedB_iff, good_iff, good_iff]
  constructor
  · rintro ⟨⟨a, b⟩, c⟩
    exact ⟨⟨fun o ho => a o (h.mem_iff.2 ho), ((h.map _).nodup_iff).1 b⟩, fun o ho => by rw [← ha]; exact c o (h.mem_iff.2 ho)⟩
  · rintro ⟨⟨a, b⟩, c⟩
    exact ⟨⟨fun o ho => a o (h.mem_iff.1 ho), ((h.map _).nodup_iff).2 b⟩, fun o ho => by rw [ha]; exact c o (h.mem_iff.1 ho)⟩

theorem withF_comm (f : Nat → Int) (n r n' r' : Int) : withF (withF f n r) n' r' = withF (withF f n' r') n r := by
  unfold withF
  by_cases h : replB r = true
  · by_cases h' : replB r' = true
    · simp only [if_pos h, if_pos h']
      funext t
      unfold upd
      by_cases e : r.toNat = r'.toNat
      · rw [e]; by_cases g : t = r'.toNat
        · simp only [if_pos g, if_true]; omega
        · simp only [if_neg g]
      · by_cases g : t = r'.toNat
        · have g2 : ¬ t = r.toNat := by omega
          have g3 : ¬ r'.toNat = r.toNat := by omega
          simp only [if_pos g, if_neg g2, if_neg g3]
        · by_cases g2 : t = r.toNat
          · have g3 : ¬ r.toNat = r'.toNat := e
            simp only [if_neg g, if_pos g2, if_neg g3]
          · simp only [if_neg g, if_neg g2]
    · simp only [if_pos h, if_neg h']
  · simp only [if_neg h]
theorem mostL_perm {l l' : List OpV} (h : l.Perm l') : mostL l = mostL l' := by
  unfold mostL
  exact h.foldl_eq' (fun x _ y _ z => withF_comm z x.n x.r y.n y.r) _
theorem turned_perm (l : List OpV) (k : Nat) : (l.drop k ++ l.take k).Perm l := by
  have h := List.perm_append_comm (l₁ := l.drop k) (l₂ := l.take k)
  rwa [List.take_append_drop] at h

/-- How many of these are x. -/
def cntO (l : List OpV) (x : OpV) : Nat := l.countP fun o => eqOp o x
theorem cntO_snoc {l : List OpV} {k : Nat} {o : OpV} (h : l[k]? = some o) (x : OpV) : cntO (l.take (k + 1)) x = cntO (l.take k) x + (if eqOp o x = true then 1 else 0) := by
  unfold cntO
  rw [take_snoc h, List.countP_append, List.countP_cons, List.countP_nil, Nat.zero_add]
theorem cntO_perm {l l' : List OpV} (h : l.Perm l') (x : OpV) : cntO l x = cntO l' x := h.countP_eq _
end Go.Proofs.Yteclkaecjogbjaa
