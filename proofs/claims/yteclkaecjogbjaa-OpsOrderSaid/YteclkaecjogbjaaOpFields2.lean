/-
  The fields that an operation's kind uses, by the kind: the program.
-/
import Derived.Test.YteclkaecjogbjaaOpFields
namespace Go.Proofs.Yteclkaecjogbjaa
open Go.RowKit Go.Sort

def fieldsB (o : OpV) : Bool := if o.kind = 1 then insB o else if o.kind = 3 then placeB o && rightB o.rn o.rr else if o.kind = 2 then rightB o.rn o.rr else if o.kind = 4 then rightB o.rn o.rr && attrB o else if o.kind = 5 then rightB o.fn o.fr && rightB o.tn o.tr && attrB o else false

theorem kind_cases (k : Int) : (k = 1 ∧ Hid ((k == 1) = true)) ∨ (k = 3 ∧ Hid ((k == 1) = false ∧ (k == 3) = true)) ∨ (k = 2 ∧ Hid ((k == 1) = false ∧ (k == 3) = false ∧ (k == 2) = true)) ∨ (k = 4 ∧ Hid ((k == 1) = false ∧ (k == 3) = false ∧ (k == 2) = false ∧ (k == 4) = true)) ∨ (k = 5 ∧ Hid ((k == 1) = false ∧ (k == 3) = false ∧ (k == 2) = false ∧ (k == 4) = false ∧ (k == 5) = true)) ∨ ((k ≠ 1 ∧ k ≠ 3 ∧ k ≠ 2 ∧ k ≠ 4 ∧ k ≠ 5) ∧ Hid ((k == 1) = false ∧ (k == 3) = false ∧ (k == 2) = false ∧ (k == 4) = false ∧ (k == 5) = false)) := by
  by_cases h1 : k = 1
  · subst h1; exact .inl ⟨rfl, Lib.hid rfl⟩
  by_cases h3 : k = 3
  · subst h3; exact .inr (.inl ⟨rfl, Lib.hid ⟨rfl, rfl⟩⟩)
  by_cases h2 : k = 2
  · subst h2; exact .inr (.inr (.inl ⟨rfl, Lib.hid ⟨rfl, rfl, rfl⟩⟩))
  by_cases h4 : k = 4
  · subst h4; exact .inr (.inr (.inr (.inl ⟨rfl, Lib.hid ⟨rfl, rfl, rfl, rfl⟩⟩)))
  by_cases h5 : k = 5
  · subst h5; exact .inr (.inr (.inr (.inr (.inl ⟨rfl, Lib.hid ⟨rfl, rfl, rfl, rfl, rfl⟩⟩))))
  exact .inr (.inr (.inr (.inr (.inr ⟨⟨h1, h3, h2, h4, h5⟩, Lib.hid ⟨beq_eq_false_iff_ne.2 h1, beq_eq_false_iff_ne.2 h3, beq_eq_false_iff_ne.2 h2, beq_eq_false_iff_ne.2 h4, beq_eq_false_iff_ne.2 h5⟩⟩))))

theorem fieldsB_1 {o : OpV} (h : o.kind = 1) : fieldsB o = insB o := by unfold fieldsB; rw [if_pos h]
theorem fieldsB_3 {o : OpV} (h : o.kind = 3) : fieldsB o = (placeB o && rightB o.rn o.rr) := by unfold fieldsB; rw [if_neg (by omega), if_pos h]
theorem fieldsB_2 {o : OpV} (h : o.kind = 2) : fieldsB o = rightB o.rn o.rr := by unfold fieldsB; rw [if_neg (by omega), if_neg (by omega), if_pos h]
theorem fieldsB_4 {o : OpV} (h : o.kind = 4) : fieldsB o = (rightB o.rn o.rr && attrB o) := by unfold fieldsB; rw [if_neg (by omega), if_neg (by omega), if_neg (by omega), if_pos h]
theorem fieldsB_5 {o : OpV} (h : o.kind = 5) : fieldsB o = (rightB o.fn o.fr && rightB o.tn o.tr && attrB o) := by unfold fieldsB; rw [if_neg (by omega), if_neg (by omega), if_neg (by omega), if_neg (by omega), if_pos h]
theorem fieldsB_0 {o : OpV} (h : o.kind ≠ 1 ∧ o.kind ≠ 3 ∧ o.kind ≠ 2 ∧ o.kind ≠ 4 ∧ o.kind ≠ 5) : fieldsB o = false := by unfold fieldsB; rw [if_neg h.1, if_neg h.2.1, if_neg h.2.2.1, if_neg h.2.2.2.1, if_neg h.2.2.2.2]

set_option maxHeartbeats 3200000 in
theorem fieldsRight_any (o : OpV) (ho : o.Fits) (w : World) : Calls Try.prog 24 #[.agg (OpC o)] w (Ret (.bool (fieldsB o)) w) := by
  obtain ⟨W, hW, hb, hA⟩ := op_box w o
  have c10 := hA.c10
  have c11 := hA.c11
  have c12 := hA.c12
  have c20 := hA.c20
  have c21 := hA.c21
  have c23 := hA.c23
  have c24 := hA.c24
  have l0 := hA.lt
  rcases kind_cases o.kind with ⟨hk, hq⟩ | ⟨hk, hq⟩ | ⟨hk, hq⟩ | ⟨hk, hq⟩ | ⟨hk, hq⟩ | ⟨hk, hq⟩
  · have H := Lib.hid (fieldsB_1 hk)
    have q1 := hq.out
    clear hq hk
    go_enter Try.func24, Try.ntmps24
    go_wp2_with (first
      | (refine load_op hA rfl rfl ?_)
      | (go_at_call 43; refine (insertRight_any _ _).mono ?_; rintro e w' ⟨rfl, hb'⟩))
    go_ret
    exact ⟨ret_bool H.out.symm, then_call hb hb'⟩
  · have H := Lib.hid (fieldsB_3 hk)
    obtain ⟨q1, q3⟩ := hq.out
    clear hq hk
    replace H : (placeB o = false ∧ Hid (false = fieldsB o)) ∨ (placeB o = true ∧ Hid (rightB o.rn o.rr = fieldsB o)) := by
      rw [H.out]; cases placeB o
      · exact .inl ⟨rfl, Lib.hid rfl⟩
      · exact .inr ⟨rfl, Lib.hid rfl⟩
    rcases H with ⟨p, H⟩ | ⟨p, H⟩
    all_goals
      go_enter Try.func24, Try.ntmps24
      go_wp2_with (first
        | (refine load_op hA rfl rfl ?_)
        | (go_at_call 44; refine (placeRight_any _ ho _).mono ?_; rintro e w' ⟨rfl, hb'⟩; rw [p]; replace c11 := cell_later hb' c11; replace c12 := cell_later hb' c12; replace hb := then_call hb hb')
        | (go_at_call 22; refine (right_any _ _ _).mono ?_; rintro e w'' ⟨rfl, hb''⟩; replace hb := then_call hb hb''))
      go_ret
      exact ⟨ret_bool H.out, hb⟩
  · have H := Lib.hid (fieldsB_2 hk)
    obtain ⟨q1, q3, q2⟩ := hq.out
    clear hq hk
    go_enter Try.func24, Try.ntmps24
    go_wp2_with (first
      | (go_at_call 22; refine (right_any _ _ _).mono ?_; rintro e w'' ⟨rfl, hb''⟩; replace hb := then_call hb hb''))
    go_ret
    exact ⟨ret_bool H.out.symm, hb⟩
  · have H := Lib.hid (fieldsB_4 hk)
    obtain ⟨q1, q3, q2, q4⟩ := hq.out
    clear hq hk
    replace H : (rightB o.rn o.rr = false ∧ Hid (false = fieldsB o)) ∨ (rightB o.rn o.rr = true ∧ Hid (attrB o = fieldsB o)) := by
      rw [H.out]; cases rightB o.rn o.rr
      · exact .inl ⟨rfl, Lib.hid rfl⟩
      · exact .inr ⟨rfl, Lib.hid rfl⟩
    rcases H with ⟨p, H⟩ | ⟨p, H⟩
    all_goals
      go_enter Try.func24, Try.ntmps24
      go_wp2_with (first
        | (refine load_op hA rfl rfl ?_)
        | (go_at_call 22; refine (right_any _ _ _).mono ?_; rintro e w'' ⟨rfl, hb''⟩; rw [p]; replace hA := hA.after hb''; replace hb := then_call hb hb'')
        | (go_at_call 45; refine (attrRight_any _ ho _).mono ?_; rintro e w3 ⟨rfl, hb3⟩; replace hb := then_call hb hb3))
      go_ret
      exact ⟨ret_bool H.out, hb⟩
  · have H := Lib.hid (fieldsB_5 hk)
    obtain ⟨q1, q3, q2, q4, q5⟩ := hq.out
    clear hq hk
    replace H : (rightB o.fn o.fr = false ∧ Hid (false = fieldsB o)) ∨ (rightB o.fn o.fr = true ∧ ((rightB o.tn o.tr = false ∧ Hid (false = fieldsB o)) ∨ (rightB o.tn o.tr = true ∧ Hid (attrB o = fieldsB o)))) := by
      rw [H.out]; cases rightB o.fn o.fr
      · exact .inl ⟨rfl, Lib.hid rfl⟩
      · refine .inr ⟨rfl, ?_⟩
        cases rightB o.tn o.tr
        · exact .inl ⟨rfl, Lib.hid rfl⟩
        · exact .inr ⟨rfl, Lib.hid rfl⟩
    rcases H with ⟨p, H⟩ | ⟨p, ⟨p2, H⟩ | ⟨p2, H⟩⟩
    all_goals
      go_enter Try.func24, Try.ntmps24
      go_wp2_with (first
        | (refine load_op hA rfl rfl ?_)
        | (go_at_call 22; refine (right_any _ _ _).mono ?_; rintro e w'' ⟨rfl, hb''⟩; (first | rw [p] | rw [p2]); replace hA := hA.after hb''; replace c23 := cell_later hb'' c23; replace c24 := cell_later hb'' c24; replace hb := then_call hb hb'')
        | (go_at_call 45; refine (attrRight_any _ ho _).mono ?_; rintro e w3 ⟨rfl, hb3⟩; replace hb := then_call hb hb3))
      go_ret
      exact ⟨ret_bool H.out, hb⟩
  · have H := Lib.hid (fieldsB_0 hk)
    obtain ⟨q1, q3, q2, q4, q5⟩ := hq.out
    clear hq hk
    go_enter Try.func24, Try.ntmps24
    go_wp2
    go_ret
    exact ⟨ret_bool H.out.symm, hb⟩
end Go.Proofs.Yteclkaecjogbjaa
