/-
  An operation that may be has small numbers and short texts.
-/
import Derived.Test.YthpgfnhecfgiaaaGreatDoorBaBytes
import Derived.Test.YthpgfnhecfgiaaaGreatDoorMOpB
namespace Go.Proofs.YthpgfnhecfgiaaaGreatDoor
open Go.RowKit Go.Sort
set_option maxRecDepth 20000

theorem toList_eq {a b : ByteArray} (h : a.toList = b.toList) : a = b := (Lib.bytes_beq_iff a b).1 (by rw [h]; simp)
theorem rightB_iff {n r : Int} : rightB n r = true ↔ 1 ≤ n ∧ n ≤ 1048576 ∧ 0 ≤ r ∧ r < 8 := by
  unfold rightB; exact decide_eq_true_iff
theorem chB_iff {c : Int} : chB c = true ↔ c = 0 ∨ 32 ≤ c ∧ c ≤ 126 := by
  unfold chB; exact decide_eq_true_iff
def Sml (x : Int) : Prop := 0 ≤ x ∧ x ≤ 1048576
theorem sml_zero : Sml 0 := ⟨by omega, by omega⟩
theorem Sml.in_ {x : Int} (h : Sml x) : InR x := ⟨by have := h.1; omega, by have := h.2; omega⟩

theorem eqOp_parts {a b : OpV} (h : eqOp a b = true) : (a.rn = b.rn ∧ a.rr = b.rr) ∧ a.side = b.side ∧ a.ch = b.ch ∧ (a.un = b.un ∧ a.ur = b.ur) ∧ a.key = b.key ∧ a.name = b.name ∧ a.value = b.value ∧ (a.fn = b.fn ∧ a.fr = b.fr) ∧ (a.tn = b.tn ∧ a.tr = b.tr) := by
  unfold eqOp at h
  simp only [Bool.and_eq_true, eqS_iff, eqA_iff, beq_iff_eq] at h
  obtain ⟨_, _, _, h1, h2, h3, h4, h5, h6, h7, h8, h9⟩ := h
  exact ⟨h1, h2, h3, h4, toList_eq h5, toList_eq h6, toList_eq h7, ⟨h8.1, h8.2.1⟩, ⟨h9.1, h9.2.1⟩⟩

theorem opB_small {o : OpV} (h : opB o = true) : (∀ i, i < 21 → Sml (fld o i)) ∧ TxtR 64 o := by
  unfold opB at h
  simp only [Bool.and_eq_true] at h
  obtain ⟨h1, h2, h3, h4, _⟩ := h
  rw [rightB_iff] at h1
  rw [depsB_iff] at h2
  obtain ⟨⟨r1, r2⟩, sd, cc, ⟨u1, u2⟩, ky, nm, vl, ⟨f1, f2⟩, t1, t2⟩ := eqOp_parts h4
  have hd : ∀ i, i < 8 → Sml (o.deps i) := fun i hi => by
    have := h2 i hi
    exact ⟨this.1, by omega⟩
  simp only [ownO] at r1 r2 sd cc u1 u2 ky nm vl f1 f2 t1 t2
  have hk : o.kind = 1 ∨ o.kind = 2 ∨ o.kind = 3 ∨ o.kind = 4 ∨ o.kind = 5 := by
    unfold fieldsB at h3
    by_cases k1 : o.kind = 1
    · exact .inl k1
    by_cases k2 : o.kind = 2
    · exact .inr (.inl k2)
    by_cases k3 : o.kind = 3
    · exact .inr (.inr (.inl k3))
    by_cases k4 : o.kind = 4
    · exact .inr (.inr (.inr (.inl k4)))
    by_cases k5 : o.kind = 5
    · exact .inr (.inr (.inr (.inr k5)))
    simp [k1, k2, k3, k4, k5] at h3
  have key : Sml o.kind ∧ Sml o.rn ∧ Sml o.rr ∧ Sml o.side ∧ Sml o.ch ∧ Sml o.un ∧ Sml o.ur ∧ Sml o.fn ∧ Sml o.fr ∧ Sml o.tn ∧ Sml o.tr ∧ o.key.size ≤ 64 ∧ o.name.size ≤ 64 ∧ o.value.size ≤ 64 := by
    unfold fieldsB at h3
    rcases hk with k | k | k | k | k <;> simp only [k] at h3 r1 r2 sd cc u1 u2 ky nm vl f1 f2 t1 t2 ⊢ <;> simp at h3 r1 r2 sd cc u1 u2 ky nm vl f1 f2 t1 t2
    · rw [← u1, ← u2, ← ky, ← nm, ← vl, ← f1, ← f2, ← t1, ← t2]
      unfold insB at h3
      split at h3
      · rename_i hz
        rw [zeroS_iff] at hz
        simp only [Bool.and_eq_true, beq_iff_eq, chB_iff] at h3
        rw [hz.1, hz.2, h3.1]
        exact ⟨by unfold Sml; omega, sml_zero, sml_zero, by unfold Sml; omega, by unfold Sml; omega, sml_zero, sml_zero, sml_zero, sml_zero, sml_zero, sml_zero, by decide, by decide, by decide⟩
      · simp only [Bool.and_eq_true, Bool.or_eq_true, beq_iff_eq, chB_iff, rightB_iff] at h3
        exact ⟨by unfold Sml; omega, by unfold Sml; omega, by unfold Sml; omega, by unfold Sml; omega, by unfold Sml; omega, sml_zero, sml_zero, sml_zero, sml_zero, sml_zero, sml_zero, by decide, by decide, by decide⟩
    · rw [← sd, ← cc, ← u1, ← u2, ← ky, ← nm, ← vl, ← f1, ← f2, ← t1, ← t2]
      rw [rightB_iff] at h3
      exact ⟨by unfold Sml; omega, by unfold Sml; omega, by unfold Sml; omega, sml_zero, sml_zero, sml_zero, sml_zero, sml_zero, sml_zero, sml_zero, sml_zero, by decide, by decide, by decide⟩
    · rw [← sd, ← cc, ← nm, ← vl, ← f1, ← f2, ← t1, ← t2]
      obtain ⟨h3, h3'⟩ := h3
      unfold placeB at h3
      rw [rightB_iff] at h3'
      simp only [Bool.and_eq_true, Bool.or_eq_true, zeroS_iff, rightB_iff] at h3
      obtain ⟨⟨hu, _⟩, hky⟩ := h3
      unfold keyB at hky
      have hky := (of_decide_eq_true hky).1
      exact ⟨by unfold Sml; omega, by unfold Sml; omega, by unfold Sml; omega, sml_zero, sml_zero, by unfold Sml; omega, by unfold Sml; omega, sml_zero, sml_zero, sml_zero, sml_zero, hky.2.1, by decide, by decide⟩
    · rw [← sd, ← cc, ← u1, ← u2, ← ky, ← f1, ← f2, ← t1, ← t2]
      obtain ⟨h3, h3'⟩ := h3
      rw [rightB_iff] at h3
      unfold attrB nameB valueB at h3'
      simp only [Bool.and_eq_true, decide_eq_true_eq] at h3'
      exact ⟨by unfold Sml; omega, by unfold Sml; omega, by unfold Sml; omega, sml_zero, sml_zero, sml_zero, sml_zero, sml_zero, sml_zero, sml_zero, sml_zero, by decide, by omega, by omega⟩
    · rw [← r1, ← r2, ← sd, ← cc, ← u1, ← u2, ← ky]
      obtain ⟨⟨h3, h3''⟩, h3'⟩ := h3
      rw [rightB_iff] at h3 h3''
      unfold attrB nameB valueB at h3'
      simp only [Bool.and_eq_true, decide_eq_true_eq] at h3'
      exact ⟨by unfold Sml; omega, sml_zero, sml_zero, sml_zero, sml_zero, sml_zero, sml_zero, by unfold Sml; omega, by unfold Sml; omega, by unfold Sml; omega, by unfold Sml; omega, by decide, by omega, by omega⟩
  obtain ⟨q1, q2, q3, q4, q5, q6, q7, q8, q9, q10, q11, q12, q13, q14⟩ := key
  refine ⟨fun i hi => below21 (p := fun i => Sml (fld o i)) ⟨⟨by show 0 ≤ o.n; omega, by show o.n ≤ _; omega⟩, ⟨by show 0 ≤ o.r; omega, by show o.r ≤ _; omega⟩, hd 0 (by omega), hd 1 (by omega), hd 2 (by omega), hd 3 (by omega), hd 4 (by omega), hd 5 (by omega), hd 6 (by omega), hd 7 (by omega), q1, q2, q3, q4, q5, q6, q7, q8, q9, q10, q11⟩ hi, fun c hc => ?_⟩
  rcases (by omega : c = 0 ∨ c = 1 ∨ c = 2) with rfl | rfl | rfl
  · exact q12
  · exact q13
  · exact q14
theorem opB_num {o : OpV} (h : opB o = true) : NumR o := fun i hi => ((opB_small h).1 i hi).in_
theorem opB_txt {o : OpV} (h : opB o = true) : TxtR 1000 o := fun c hc => Nat.le_trans ((opB_small h).2 c hc) (by omega)
end Go.Proofs.YthpgfnhecfgiaaaGreatDoor
