/-
  Operations as bytes: the program's Encode, whole.
-/
import Derived.Test.YthpgfnhecfgiaaaGreatDoorBaPutN
import Derived.Test.YthpgfnhecfgiaaaGreatDoorBaTex
import Derived.Test.YthpgfnhecfgiaaaGreatDoorBaFits
namespace Go.Proofs.YthpgfnhecfgiaaaGreatDoor
open Go.RowKit Go.Sort
set_option maxRecDepth 20000

set_option maxHeartbeats 1000000 in
theorem wrongOp_any (o : OpV) (ho : o.Fits) (w : World) : Calls Tryz.prog 41 #[.agg (OpC o)] w (Ret (.bool (!opB o)) w) := by
  obtain ⟨W, hW, hb, hA⟩ := op_box w o
  go_enter Tryz.func41, Tryz.ntmps41
  go_wp2_with (first
    | ((with_reducible refine load_op hA ?_ ?_ ?_); rfl; rfl)
    | (go_at_call 42; refine (opRight_any o ho _).mono ?_; rintro e w2 ⟨rfl, hb2⟩))
  go_ret
  exact ⟨rfl, then_call hb hb2⟩

def allB_ (l : List OpV) : Bool := l.all opB

set_option maxHeartbeats 2000000 in
theorem indexWrong_any (v : Value) (l : List OpV) (w : World) (hv : OpsAt w v l) (hf : ∀ o ∈ l, o.Fits) :
    Calls Tryz.prog 70 #[v, .func (.func 41) #[] #[]] w fun e w' => ∃ k : Int, e = .returned (.int .i64 k) ∧ decide (0 ≤ k) = (!allB_ l) ∧ Below w.heap.size w w' := by
  have hll := fun W => hv.len 3 W
  have hle := hv.le
  have hv := Lib.hid hv
  go_enter Tryz.func70, Tryz.ntmps70
  go_wp2
  go_loopw [8] (fun i wr => ∃ k : Nat, i = .int .i64 k ∧ k ≤ l.length ∧ Below w.heap.size w wr ∧ Hid (∀ j, j < k → ∀ h : j < l.length, opB l[j] = true)) (fun i _ => l.length - (intOf i).toNat)
  case atStart => exact ⟨0, rfl, Nat.zero_le _, Below.refl _ _, Lib.hid fun j h => absurd h (Nat.not_lt_zero _)⟩
  case round =>
    obtain ⟨k, rfl, hk, hb, hP⟩ := hrel
    by_cases hlt : k < l.length
    · have hk4 : (k : Int) < (l.length : Int) := by omega
      obtain ⟨o, ho⟩ : ∃ o, l[k]? = some o := ⟨_, List.getElem?_eq_getElem hlt⟩
      have hoe : l[k] = o := by rw [List.getElem?_eq_getElem hlt] at ho; injection ho
      obtain ⟨bk, off, hix, hc, hbk⟩ := hv.out.index ho
      have hc := range_after hc hb hbk
      have hfo := hf o (List.mem_of_getElem? ho)
      cases hq : opB o with
      | false =>
        have hr : Hid (allB_ l = false) := Lib.hid (by
          unfold allB_
          rw [List.all_eq_false]
          exact ⟨o, List.mem_of_getElem? ho, by rw [hq]; simp⟩)
        have HC := fun W => wrongOp_any o hfo W
        rw [hq] at HC
        simp only [Bool.not_false] at HC
        clear hq
        go_wp2_with (first
          | ((with_reducible refine load_mid hc ?_ ?_ ?_); rfl; rfl)
          | (go_at_call 41; refine (HC _).mono ?_; rintro e w2 ⟨rfl, hb2⟩))
        go_ret
        exact ⟨_, rfl, by rw [hr.out]; simp, hb.trans (hb2.mono hb.size)⟩
      | true =>
        have hn : Hid (∀ j, j < k + 1 → ∀ h : j < l.length, opB l[j] = true) := Lib.hid fun j hj h => by
          rcases Nat.lt_or_ge j k with h' | h'
          · exact hP.out j h' h
          · obtain rfl : j = k := by omega
            rw [hoe]; exact hq
        have HC := fun W => wrongOp_any o hfo W
        rw [hq] at HC
        simp only [Bool.not_true] at HC
        clear hq hP hoe
        go_wp2_with (first
          | ((with_reducible refine load_mid hc ?_ ?_ ?_); rfl; rfl)
          | (go_at_call 41; refine (HC _).mono ?_; rintro e w2 ⟨rfl, hb2⟩))
        exact ⟨⟨k + 1, by go_num, hlt, hb.trans (hb2.mono hb.size), hn⟩, by simp [intOf]; omega⟩
    · have hk4 : ¬ (k : Int) < (l.length : Int) := by omega
      have hr : Hid (allB_ l = true) := Lib.hid (by
        unfold allB_
        rw [List.all_eq_true]
        intro o ho
        obtain ⟨j, hj, rfl⟩ := List.getElem_of_mem ho
        exact hP.out j (by omega) hj)
      clear hP
      go_wp2
      go_ret
      exact ⟨_, rfl, by rw [hr.out]; simp, hb⟩

set_option maxHeartbeats 1000000 in
theorem containsWrong_any (v : Value) (l : List OpV) (w : World) (hv : OpsAt w v l) (hf : ∀ o ∈ l, o.Fits) :
    Calls Tryz.prog 40 #[v, .func (.func 41) #[] #[]] w (Ret (.bool (!allB_ l)) w) := by
  have hv := Lib.hid hv
  go_enter Tryz.func40, Tryz.ntmps40
  go_wp2_with (go_at_call 70; refine (indexWrong_any v l _ hv.out hf).mono ?_; rintro e w2 ⟨k, rfl, hk, hb2⟩)
  go_ret
  exact ⟨rfl, hb2⟩

set_option maxHeartbeats 1000000 in
theorem allRight_any (v : Value) (l : List OpV) (w : World) (hv : OpsAt w v l) (hf : ∀ o ∈ l, o.Fits) :
    Calls Tryz.prog 20 #[v] w (Ret (.bool (allB_ l)) w) := by
  have hv := Lib.hid hv
  go_enter Tryz.func20, Tryz.ntmps20
  go_wp2_with (go_at_call 40; refine (containsWrong_any v l _ hv.out hf).mono ?_; rintro e w2 ⟨rfl, hb2⟩)
  go_ret
  exact ⟨ret_bool (by simp), hb2⟩

/-- What Encode answers: the bytes, and the error's number. -/
def encP (l : List OpV) : List Nat × Int := if 200 < l.length then ([], 1) else if allB_ l = true then (batchB l, 0) else ([], 71)

theorem batchB_byte (l : List OpV) : ∀ x ∈ batchB l, x < 256 := by
  intro x hx
  unfold batchB at hx
  rcases List.mem_append.1 hx with h | h
  · exact putL_byte _ x h
  · rcases List.mem_append.1 h with h | h
    · exact numB_byte l 21 x h
    · rcases List.mem_append.1 h with h | h
      · exact truB_byte l 2 x h
      · exact texB_byte l 3 x h
theorem encP_byte (l : List OpV) : ∀ x ∈ (encP l).1, x < 256 := by
  unfold encP
  split
  · simp
  · split
    · exact batchB_byte l
    · simp

set_option maxHeartbeats 4000000 in
theorem encode_any (v : Value) (l : List OpV) (w : World) (hv : OpsAt w v l) (hf : ∀ o ∈ l, o.Fits) :
    Calls Tryz.prog 9 #[v] w fun e w' => ∃ v', e = .returned (.tuple #[v', .int .i64 (encP l).2]) ∧ Own w' w.heap.size v' (encP l).1 ∧ Below w.heap.size w w' := by
  have hll := fun W => hv.len 3 W
  have hle := hv.le
  have hv := Lib.hid hv
  rcases Nat.lt_or_ge 200 l.length with h200 | h200
  · have hE : Hid (encP l = ([], 1)) := Lib.hid (by unfold encP; rw [if_pos h200])
    have hg : decide ((200 : Int) < (l.length : Int)) = true := decide_eq_true (by omega)
    go_enter Tryz.func9, Tryz.ntmps9
    go_wp2
    refine bodyPost_ret (results_tmp2 rfl _ _ _) rfl ?_
    exact ⟨_, by rw [hE.out]; rfl, by rw [hE.out]; exact own_none _ _, Below.refl _ _⟩
  · have hg : decide ((200 : Int) < (l.length : Int)) = false := decide_eq_false (by omega)
    cases hq : allB_ l with
    | false =>
      have hE : Hid (encP l = ([], 71)) := Lib.hid (by unfold encP; rw [if_neg (by omega), if_neg (by rw [hq]; simp)])
      have HC := fun W h => allRight_any v l W h hf
      rw [hq] at HC
      clear hq
      go_enter Tryz.func9, Tryz.ntmps9
      go_wp2_with (go_at_call 20; refine (HC _ hv.out).mono ?_; rintro e w2 ⟨rfl, hb2⟩)
      refine bodyPost_ret (results_tmp2 rfl _ _ _) rfl ?_
      exact ⟨_, by rw [hE.out]; rfl, by rw [hE.out]; exact own_none _ _, hb2⟩
    | true =>
      have hE : Hid (encP l = (batchB l, 0)) := Lib.hid (by unfold encP; rw [if_neg (by omega), if_pos hq])
      have hall : ∀ o ∈ l, opB o = true := List.all_eq_true.1 hq
      have hN := Lib.hid (fun o ho => opB_num (hall o ho) : ∀ o ∈ l, NumR o)
      have hT := Lib.hid (fun o ho => opB_txt (hall o ho) : ∀ o ∈ l, TxtR 1000 o)
      have HC := fun W h => allRight_any v l W h hf
      rw [hq] at HC
      have hl1 := Lib.hid (putL_len10 (n := l.length) (by omega))
      have hl2 := Lib.hid (numB_len hN.out (by omega) (k := 21) (Nat.le_refl _))
      have hl3 := Lib.hid (truB_len (l := l) (by omega) (k := 2))
      have hl4 := Lib.hid (texB_len hT.out (by omega) (k := 3) (Nat.le_refl _))
      have hcv : ∀ W, (convert 3 52 (.int .i64 (l.length : Int))).run Tryz.prog W = .ok (.int .u64 ((l.length : Nat) : Int)) W := fun W => by
        have hw : IntKind.u64.wrap (l.length : Int) = (l.length : Int) := by
          rw [IntKind.wrap_u64]; omega
        go_simp
      clear hq hall
      go_enter Tryz.func9, Tryz.ntmps9
      go_wp2_with (first
        | (go_at_call 20; refine (HC _ hv.out).mono ?_; rintro e w2 ⟨rfl, hb2⟩)
        | (go_at_call 21; refine (put_any l.length (by omega) _).mono ?_; rintro e w3 ⟨v3, rfl, ho3, hb3⟩; have hb3W := hb2.trans (hb3.mono hb2.size); have hv3 := hv.out.below hb3W)
        | (go_at_call 22; refine (putNumbers_any v l _ hv3 (by omega) hN.out).mono ?_; rintro e w4 ⟨v4, rfl, ho4, hb4⟩; have hb4W := hb3W.trans (hb4.mono hb3W.size); have ho34 := (ho3.lower hb2.size).later hb4)
        | (go_at_call 23; refine (putTruths_any v l _ hv5 (by omega)).mono ?_; rintro e w6 ⟨v6, rfl, ho6, hb6⟩; have hb6W := hb5W.trans (hb6.mono hb5W.size); have ho56 := hown5.later hb6)
        | (go_at_call 24; refine (putTexts_any v l _ hv7 (by omega) hT.out).mono ?_; rintro e w8 ⟨v8, rfl, ho8, hb8⟩; have hb8W := hb7W.trans (hb8.mono hb7W.size); have ho78 := hown7.later hb8)
        | (at_builtin; refine append_bytes rfl (.tmp 23) (.tmp 25) rfl w.heap.size rfl ho78 rfl (ho8.bytes (texB_byte _ _)) (by have := hl1.out; have := hl2.out; have := hl3.out; have := hl4.out; simp only [List.length_append]; omega) hb8W.size ?_; intro v9 w9 hown9 hb9)
        | (at_builtin; refine append_bytes rfl (.tmp 19) (.tmp 21) rfl w.heap.size rfl ho56 rfl (ho6.bytes (truB_byte _ _)) (by have := hl1.out; have := hl2.out; have := hl3.out; have := hl4.out; simp only [List.length_append]; omega) hb6W.size ?_; intro v7 w7 hown7 hb7; have hb7W := hb6W.trans hb7; have hv7 := hv.out.below hb7W)
        | (at_builtin; refine append_bytes rfl (.tmp 15) (.tmp 17) rfl w.heap.size rfl ho34 rfl (ho4.bytes (numB_byte _ _)) (by have := hl1.out; have := hl2.out; have := hl3.out; have := hl4.out; omega) hb4W.size ?_; intro v5 w5 hown5 hb5; have hb5W := hb4W.trans hb5; have hv5 := hv.out.below hb5W))
      refine bodyPost_ret (results_tmp2 rfl _ _ _) rfl ?_
      exact ⟨_, by rw [hE.out]; rfl, by rw [hE.out]; show Own _ _ _ (batchB l); unfold batchB; simpa [List.append_assoc] using hown9, hb8W.trans hb9⟩
end Go.Proofs.YthpgfnhecfgiaaaGreatDoor
