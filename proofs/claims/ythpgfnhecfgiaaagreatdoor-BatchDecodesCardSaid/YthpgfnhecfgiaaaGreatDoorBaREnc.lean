/-
  The document's own Encode.
-/
import Derived.Test.YthpgfnhecfgiaaaGreatDoorBaRaw
import Derived.Test.YthpgfnhecfgiaaaGreatDoorBaEnc
namespace Go.Proofs.YthpgfnhecfgiaaaGreatDoor
open Go.RowKit Go.Sort
set_option maxRecDepth 20000

set_option maxHeartbeats 4000000 in
theorem refEncode_any (v : Value) (l : List OpV) (w : World) (hv : OpsAt w v l) (hf : ∀ o ∈ l, o.Fits) :
    Calls Tryz.prog 19 #[v] w fun e w' => ∃ v', e = .returned (.tuple #[v', .int .i64 (encP l).2]) ∧ Own w' w.heap.size v' (encP l).1 ∧ Below w.heap.size w w' := by
  have hll := fun W => hv.len 3 W
  have hle := hv.le
  have hv := Lib.hid hv
  rcases Nat.lt_or_ge 200 l.length with h200 | h200
  · have hE : Hid (encP l = ([], 1)) := Lib.hid (by unfold encP; rw [if_pos h200])
    have hg : decide ((200 : Int) < (l.length : Int)) = true := decide_eq_true (by omega)
    go_enter Tryz.func19, Tryz.ntmps19
    go_wp2
    refine bodyPost_ret (results_tmp2 rfl _ _ _) rfl ?_
    exact ⟨_, by rw [hE.out]; rfl, by rw [hE.out]; exact own_none _ _, Below.refl _ _⟩
  · have hg : decide ((200 : Int) < (l.length : Int)) = false := decide_eq_false (by omega)
    go_enter Tryz.func19, Tryz.ntmps19
    go_wp2
    go_loopw [4] (fun i wr => ∃ k : Nat, i = .int .i64 k ∧ k ≤ l.length ∧ Below w.heap.size w wr ∧ Hid (∀ j, j < k → ∀ h : j < l.length, opB l[j] = true)) (fun i _ => l.length - (intOf i).toNat)
    case atStart => exact ⟨0, rfl, Nat.zero_le _, Below.refl _ _, Lib.hid fun j h => absurd h (Nat.not_lt_zero _)⟩
    case round =>
      obtain ⟨k, rfl, hk, hb, hP⟩ := hrel
      by_cases hlt : k < l.length
      · have hk4 : (k : Int) < (l.length : Int) := by omega
        obtain ⟨o, ho⟩ : ∃ o, l[k]? = some o := ⟨_, List.getElem?_eq_getElem hlt⟩
        have hoe : l[k] = o := by rw [List.getElem?_eq_getElem hlt] at ho; injection ho
        obtain ⟨bk, off, hix, hc, hbk⟩ := hv.out.index ho
        have hc := range_after hc hb hbk
        have hfo := hf o (List.mem_of_getElem? ho)
        have HC := fun W => refOpRight_any o hfo W
        cases hq : opB o with
        | false =>
          have hr : Hid (encP l = ([], 71)) := Lib.hid (by
            unfold encP
            rw [if_neg (by omega), if_neg]
            rw [Bool.not_eq_true]
            unfold allB_
            rw [List.all_eq_false]
            exact ⟨o, List.mem_of_getElem? ho, by rw [hq]; simp⟩)
          rw [hq] at HC
          clear hq
          go_wp2_with (first
            | ((with_reducible refine load_mid hc ?_ ?_ ?_); rfl; rfl)
            | (go_at_call 38; refine (HC _).mono ?_; rintro e w2 ⟨rfl, hb2⟩))
          refine bodyPost_ret (results_tmp2 rfl _ _ _) rfl ?_
          exact ⟨_, by rw [hr.out]; rfl, by rw [hr.out]; exact own_none _ _, hb.trans (hb2.mono hb.size)⟩
        | true =>
          have hn : Hid (∀ j, j < k + 1 → ∀ h : j < l.length, opB l[j] = true) := Lib.hid fun j hj h => by
            rcases Nat.lt_or_ge j k with h' | h'
            · exact hP.out j h' h
            · obtain rfl : j = k := by omega
              rw [hoe]; exact hq
          rw [hq] at HC
          clear hq hP hoe
          go_wp2_with (first
            | ((with_reducible refine load_mid hc ?_ ?_ ?_); rfl; rfl)
            | (go_at_call 38; refine (HC _).mono ?_; rintro e w2 ⟨rfl, hb2⟩))
          exact ⟨⟨k + 1, by go_num, hlt, hb.trans (hb2.mono hb.size), hn⟩, by simp [intOf]; omega⟩
      · have hk4 : ¬ (k : Int) < (l.length : Int) := by omega
        have hall : ∀ o ∈ l, opB o = true := fun o ho => by
          obtain ⟨j, hj, rfl⟩ := List.getElem_of_mem ho
          exact hP.out j (by omega) hj
        have hr : Hid (encP l = (batchB l, 0)) := Lib.hid (by
          unfold encP
          rw [if_neg (by omega), if_pos (show allB_ l = true from List.all_eq_true.2 hall)])
        have HR := fun W h => refRaw_any v l W h h200 (fun o ho => opB_num (hall o ho)) (fun o ho => opB_txt (hall o ho))
        clear hP hall
        go_wp2_with (go_at_call 39; refine (HR _ (hv.out.below hb)).mono ?_; rintro e w2 ⟨v2, rfl, ho2, hb2⟩)
        refine bodyPost_ret (results_tmp2 rfl _ _ _) rfl ?_
        exact ⟨_, by rw [hr.out]; rfl, by rw [hr.out]; exact ho2.lower hb.size, hb.trans (hb2.mono hb.size)⟩
end Go.Proofs.YthpgfnhecfgiaaaGreatDoor
