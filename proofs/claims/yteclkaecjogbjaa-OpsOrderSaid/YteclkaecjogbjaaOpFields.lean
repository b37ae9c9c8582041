/-
  The fields that an operation's kind uses: the program.
-/
import Derived.Test.YteclkaecjogbjaaOpLeaf
namespace Go.Proofs.Yteclkaecjogbjaa
open Go.RowKit Go.Sort

set_option maxHeartbeats 1600000 in
theorem insertRight_any (o : OpV) (w : World) : Calls Try.prog 43 #[.agg (OpC o)] w (Ret (.bool (insB o)) w) := by
  obtain ⟨W, hW, hb, hA⟩ := op_box w o
  have c11 := hA.c11
  have c12 := hA.c12
  have c13 := hA.c13
  have c14 := hA.c14
  have l0 := hA.lt
  have H : (zeroS o.rn o.rr = true ∧ (((o.side == 2) = true ∧ Hid (chB o.ch = insB o)) ∨ ((o.side == 2) = false ∧ Hid (false = insB o)))) ∨ (zeroS o.rn o.rr = false ∧ ((rightB o.rn o.rr = false ∧ Hid (false = insB o)) ∨ (rightB o.rn o.rr = true ∧ (((o.side == 1) = true ∧ Hid (chB o.ch = insB o)) ∨ ((o.side == 1) = false ∧ (((o.side == 2) = true ∧ Hid (chB o.ch = insB o)) ∨ ((o.side == 2) = false ∧ Hid (false = insB o)))))))) := by
    unfold insB
    cases zeroS o.rn o.rr <;> cases rightB o.rn o.rr <;> cases h1 : o.side == 1 <;> cases h2 : o.side == 2 <;> simp [Lib.hid]
    all_goals exact Lib.hid rfl
  clear hA
  rcases H with ⟨z, ⟨s2, H⟩ | ⟨s2, H⟩⟩ | ⟨z, ⟨r, H⟩ | ⟨r, ⟨s1, H⟩ | ⟨s1, ⟨s2, H⟩ | ⟨s2, H⟩⟩⟩⟩
  all_goals
    go_enter Try.func43, Try.ntmps43
    go_wp2_with (first
      | (go_at_call 49; refine (none_any _ _ _).mono ?_; rintro e w' ⟨rfl, hb'⟩; rw [z]; replace c11 := cell_later hb' c11; replace c12 := cell_later hb' c12; replace c13 := cell_later hb' c13; replace c14 := cell_later hb' c14; replace hb := then_call hb hb')
      | (go_at_call 22; refine (right_any _ _ _).mono ?_; rintro e w'' ⟨rfl, hb''⟩; rw [r]; replace c13 := cell_later hb'' c13; replace c14 := cell_later hb'' c14; replace hb := then_call hb hb'')
      | (go_at_call 50; refine (charRight_any _ _).mono ?_; rintro e w3 ⟨rfl, rfl⟩))
    go_ret
    exact ⟨ret_bool H.out, hb⟩

set_option maxHeartbeats 1600000 in
theorem placeRight_any (o : OpV) (ho : o.Fits) (w : World) : Calls Try.prog 44 #[.agg (OpC o)] w (Ret (.bool (placeB o)) w) := by
  obtain ⟨W, hW, hb, hA⟩ := op_box w o
  have c11 := hA.c11
  have c12 := hA.c12
  have c15 := hA.c15
  have c16 := hA.c16
  have c17 := hA.c17
  have l0 := hA.lt
  have hk := ho.key
  have heq := fun (a b a' b' : Int) (w : World) => run_eqS 9998 a b a' b' w
  have H : (zeroS o.un o.ur = true ∧ ((eqS o.un o.ur o.rn o.rr = true ∧ Hid (false = placeB o)) ∨ (eqS o.un o.ur o.rn o.rr = false ∧ Hid (keyB o.key = placeB o)))) ∨ (zeroS o.un o.ur = false ∧ ((rightB o.un o.ur = false ∧ Hid (false = placeB o)) ∨ (rightB o.un o.ur = true ∧ ((eqS o.un o.ur o.rn o.rr = true ∧ Hid (false = placeB o)) ∨ (eqS o.un o.ur o.rn o.rr = false ∧ Hid (keyB o.key = placeB o)))))) := by
    unfold placeB
    cases zeroS o.un o.ur <;> cases rightB o.un o.ur <;> cases eqS o.un o.ur o.rn o.rr <;> simp [Lib.hid]
    all_goals exact Lib.hid rfl
  clear hA
  rcases H with ⟨z, ⟨e1, H⟩ | ⟨e1, H⟩⟩ | ⟨z, ⟨r, H⟩ | ⟨r, ⟨e1, H⟩ | ⟨e1, H⟩⟩⟩
  all_goals
    go_enter Try.func44, Try.ntmps44
    go_wp2_with (first
      | (go_at_call 49; refine (none_any _ _ _).mono ?_; rintro e w' ⟨rfl, hb'⟩; rw [z]; replace c11 := cell_later hb' c11; replace c12 := cell_later hb' c12; replace c15 := cell_later hb' c15; replace c16 := cell_later hb' c16; replace c17 := cell_later hb' c17; replace hb := then_call hb hb')
      | (go_at_call 22; refine (right_any _ _ _).mono ?_; rintro e w'' ⟨rfl, hb''⟩; rw [r]; replace c11 := cell_later hb'' c11; replace c12 := cell_later hb'' c12; replace c15 := cell_later hb'' c15; replace c16 := cell_later hb'' c16; replace c17 := cell_later hb'' c17; replace hb := then_call hb hb'')
      | (go_at_call 51; refine (keyRight_any _ _ hk).mono ?_; rintro e w3 ⟨rfl, rfl⟩))
    go_ret
    exact ⟨ret_bool H.out, hb⟩
end Go.Proofs.Yteclkaecjogbjaa
