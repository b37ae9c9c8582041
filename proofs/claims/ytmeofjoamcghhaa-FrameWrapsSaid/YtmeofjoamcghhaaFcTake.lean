/-
  The code's own Take.
-/
import Derived.Test.YtmeofjoamcghhaaFcTakeNum
import Derived.IntWalk
namespace Go.Proofs.Ytmeofjoamcghhaa
open Go.RowKit Go.Sort

set_option maxRecDepth 20000 in
set_option maxHeartbeats 1000000 in
theorem cTake_no (v : Value) (l : List Nat) (w : World) (hv : BytesAt w v l) (hm : mayB l = false) :
    Calls Try.prog 16 #[v] w (GivesF (0, [], 0, 51) w) := by
  have cM := may_any v l w hv
  rw [hm] at cM
  have cM := Lib.hid cM
  clear hv hm
  go_enter Try.func16, Try.ntmps16
  go_wp2_with (go_at_call 22; refine cM.out.mono ?_; rintro e w1 ⟨rfl, k1⟩)
  refine bodyPost_ret (results_four rfl _ _ _) rfl ?_
  exact GivesF.nil k1

set_option maxRecDepth 20000 in
set_option maxHeartbeats 1000000 in
theorem cTake_short (v : Value) (l : List Nat) (w : World) (hv : BytesAt w v l) (hm : mayB l = true) (hl : (l.length : Int) < 11) :
    Calls Try.prog 16 #[v] w (GivesF (0, [], 0, 52) w) := by
  have hlv := fun W => hv.len (ty := 3) W
  have cM := may_any v l w hv
  rw [hm] at cM
  have cM := Lib.hid cM
  clear hv hm
  go_enter Try.func16, Try.ntmps16
  go_wp2_with (go_at_call 22; refine cM.out.mono ?_; rintro e w1 ⟨rfl, k1⟩)
  refine bodyPost_ret (results_four rfl _ _ _) rfl ?_
  exact GivesF.nil k1

/-- The length that a frame tells, of bytes that may begin one. -/
theorem may_len {l : List Nat} (hm : mayB l = true) (hl : 11 ≤ l.length) : numL ((l.take 7).drop 3) ≤ 65536 := by
  have h7 : min l.length 7 = 7 := by omega
  rw [mayB, h7] at hm
  simp only [Bool.and_eq_true, Bool.or_eq_true, decide_eq_true_eq] at hm
  omega

set_option maxRecDepth 20000 in
set_option maxHeartbeats 2000000 in
theorem cTake_more (v : Value) (l : List Nat) (w : World) (hv : BytesAt w v l) (hm : mayB l = true) (hl : 11 ≤ l.length) (n : Nat) (hn : numL ((l.take 7).drop 3) = n) (hs : l.length < 11 + n) :
    Calls Try.prog 16 #[v] w (GivesF (0, [], 0, 52) w) := by
  have hlv := fun W => hv.len (ty := 3) W
  have hn6 : n ≤ 65536 := by have := may_len hm hl; omega
  have cM := may_any v l w hv
  rw [hm] at cM
  obtain ⟨v1, h1, b1⟩ := hv.between (i := 3) (j := 7) (by omega) (by omega)
  have h1 : ∀ W, (Instr.slice 22 v (some (.int .i64 3)) (some (.int .i64 7)) none).run Try.prog W = .ok v1 W := h1
  have cN : Hid (∀ W, Below w.heap.size w W → Calls Try.prog 23 #[v1] W fun e w' => e = .returned (.int .u32 ((n : Nat) : Int)) ∧ W = w') := Lib.hid (fun W hb => by rw [← hn]; exact number_any v1 _ W (by simp; omega) (b1.below hb))
  have cM := Lib.hid cM
  have hl2 : (11 : Int) ≤ l.length := by omega
  have hs2 : (l.length : Int) < 11 + (n : Int) := by omega
  clear hv hm b1 hn
  go_enter Try.func16, Try.ntmps16
  go_wp2_with (first
    | (go_at_call 22; refine cM.out.mono ?_; rintro e w1 ⟨rfl, k1⟩)
    | (go_at_call 23; refine (cN.out _ k1).mono ?_; rintro e w1 ⟨rfl, rfl⟩))
  refine bodyPost_ret (results_four rfl _ _ _) rfl ?_
  exact GivesF.nil k1

set_option maxRecDepth 20000 in
set_option maxHeartbeats 4000000 in
theorem cTake_full (v : Value) (l : List Nat) (w : World) (hv : BytesAt w v l) (hm : mayB l = true) (hl : 11 ≤ l.length) (n : Nat) (hn : numL ((l.take 7).drop 3) = n) (hs : 11 + n ≤ l.length) :
    Calls Try.prog 16 #[v] w (GivesF (if numL ((l.take 11).drop 7) = sumF (l.take (11 + n)) then (l.getD 2 0, (l.take (11 + n)).drop 11, 11 + n, 0) else (0, [], 0, 51)) w) := by
  have hlv := fun W => hv.len (ty := 3) W
  have hn6 : n ≤ 65536 := by have := may_len hm hl; omega
  have cM := may_any v l w hv
  rw [hm] at cM
  obtain ⟨v1, h1, b1⟩ := hv.between (i := 3) (j := 7) (by omega) (by omega)
  have h1 : ∀ W, (Instr.slice 22 v (some (.int .i64 3)) (some (.int .i64 7)) none).run Try.prog W = .ok v1 W := h1
  obtain ⟨v2, h2, b2⟩ := hv.between (i := 7) (j := 11) (by omega) (by omega)
  have h2 : ∀ W, (Instr.slice 22 v (some (.int .i64 7)) (some (.int .i64 11)) none).run Try.prog W = .ok v2 W := h2
  obtain ⟨v3, h3, b3⟩ := hv.first (k := 11 + n) (by omega)
  obtain ⟨v4, h4, b4⟩ := hv.between (i := 11) (j := 11 + n) (by omega) (by omega)
  have hcst : ((11 + n : Nat) : Int) = 11 + (n : Int) := by omega
  rw [hcst] at h3 h4
  have h4 : ∀ W, (Instr.slice 22 v (some (.int .i64 11)) (some (.int .i64 (11 + (n : Int)))) none).run Try.prog W = .ok v4 W := h4
  obtain ⟨d, hd⟩ : ∃ d, l.getD 2 0 = d := ⟨_, rfl⟩
  obtain ⟨a2, i2, c2, r2, _⟩ := hv.idxL 2 hd (by omega)
  have i2 : ∀ W, (Instr.indexAt 22 v (.int .i64 2)).run Try.prog W = .ok (.pointer (some a2)) W := i2
  have cN : Hid (∀ W, Below w.heap.size w W → Calls Try.prog 23 #[v1] W fun e w' => e = .returned (.int .u32 ((n : Nat) : Int)) ∧ W = w') := Lib.hid (fun W hb => by rw [← hn]; exact number_any v1 _ W (by simp; omega) (b1.below hb))
  obtain ⟨X, hX⟩ : ∃ X, numL ((l.take 11).drop 7) = X := ⟨_, rfl⟩
  have cX : Hid (∀ W, Below w.heap.size w W → Calls Try.prog 23 #[v2] W fun e w' => e = .returned (.int .u32 ((X : Nat) : Int)) ∧ W = w') := Lib.hid (fun W hb => by rw [← hX]; exact number_any v2 _ W (by simp; omega) (b2.below hb))
  obtain ⟨S, hS⟩ : ∃ S, sumF (l.take (11 + n)) = S := ⟨_, rfl⟩
  have cS : Hid (∀ W, Below w.heap.size w W → Calls Try.prog 20 #[v3] W (Ret (.int .u32 (S : Nat)) W)) := Lib.hid (fun W hb => by rw [← hS]; exact frameSum_any v3 _ W (by simp; omega) (b3.below hb))
  obtain ⟨B, hB⟩ : ∃ B, (l.take (11 + n)).drop 11 = B := ⟨_, rfl⟩
  have hBl : B.length ≤ 140737488355328 := by rw [← hB]; simp; omega
  rw [hB] at b4
  rw [hd, hX, hS, hB]
  have cC : Hid (∀ W, Below w.heap.size w W → Calls Try.prog 24 #[v4] W fun e w' => ∃ v', e = .returned v' ∧ Own w' W.heap.size v' B ∧ Below W.heap.size W w') := Lib.hid (fun W hb => clone_any v4 B W (b4.below hb) hBl)
  have cM := Lib.hid cM
  have hl2 : (11 : Int) ≤ l.length := by omega
  have hs2 : 11 + (n : Int) ≤ (l.length : Int) := by omega
  have c2 := Lib.hid c2
  clear hv hm b1 b2 b3 b4 hn hX hS hB hd hcst
  by_cases hXS : X = S
  · rw [if_pos hXS]
    have hne : ((X : Int) != (S : Int)) = false := by simp [hXS]
    have hXS := Lib.hid hXS
    go_enter Try.func16, Try.ntmps16
    go_wp2_with (first
      | (go_at_call 22; refine cM.out.mono ?_; rintro e w1 ⟨rfl, k1⟩; have k1 := Lib.hid k1)
      | (go_at_call 23; refine (cN.out _ k1.out).mono ?_; rintro e w1 ⟨rfl, rfl⟩))
    go_region_held3 (fun _ => True) (trivial) (first
      | (go_at_call 23; refine (cX.out _ (Below.drew k1.out)).mono ?_; rintro e w2 ⟨rfl, rfl⟩)
      | (go_at_call 20; refine (cS.out _ (Below.drew k1.out)).mono ?_; rintro e w2 ⟨rfl, k2⟩))
    have j2 : Below w.heap.size w w2 := then_call (Below.drew k1.out) k2
    have q2 : w2.cell? a2 = some (.int .u8 (d : Int)) := (j2.cell (p := a2) r2).trans c2.out
    have j2 := Lib.hid j2
    clear k2
    go_wp2_with (fail)
    go_region_held3 (fun w' => w'.cell? a2 = some (.int .u8 (d : Int))) (first | go_keep | assumption) ((go_at_call 24; refine (cC.out _ (Below.drew j2.out)).mono ?_; rintro e w3 ⟨v3', rfl, o3, k3⟩; have q3 : w3.cell? a2 = some (.int .u8 (d : Int)) := (k3.cell (p := a2) (Nat.lt_of_lt_of_le r2 j2.out.size)).trans q2))
    go_wp2
    refine bodyPost_ret (results_four rfl _ _ _) rfl ?_
    exact ⟨_, by simp [Int.natCast_add], o3.lower j2.out.size, then_call (Below.drew j2.out) k3⟩
  · rw [if_neg hXS]
    have hne : ((X : Int) != (S : Int)) = true := bne_iff_ne.2 (by omega)
    have hXS := Lib.hid hXS
    go_enter Try.func16, Try.ntmps16
    go_wp2_with (first
      | (go_at_call 22; refine cM.out.mono ?_; rintro e w1 ⟨rfl, k1⟩; have k1 := Lib.hid k1)
      | (go_at_call 23; refine (cN.out _ k1.out).mono ?_; rintro e w1 ⟨rfl, rfl⟩))
    go_region_held3 (fun _ => True) (trivial) (first
      | (go_at_call 23; refine (cX.out _ (Below.drew k1.out)).mono ?_; rintro e w2 ⟨rfl, rfl⟩)
      | (go_at_call 20; refine (cS.out _ (Below.drew k1.out)).mono ?_; rintro e w2 ⟨rfl, k2⟩))
    go_wp2
    refine bodyPost_ret (results_four rfl _ _ _) rfl ?_
    exact GivesF.nil (then_call (Below.drew k1.out) k2)

theorem cTake_any (v : Value) (l : List Nat) (w : World) (hv : BytesAt w v l) : Calls Try.prog 16 #[v] w (GivesF (takeF l) w) := by
  rw [← take_c l hv.byte]
  unfold takeC
  cases hm : mayB l with
  | false => exact cTake_no v l w hv hm
  | true =>
    rw [if_neg (by simp)]
    by_cases hl : l.length < 11
    · rw [if_pos hl]; exact cTake_short v l w hv hm (by omega)
    · rw [if_neg hl]
      by_cases hs : l.length < 11 + numL ((l.take 7).drop 3)
      · rw [if_pos hs]; exact cTake_more v l w hv hm (by omega) _ rfl hs
      · rw [if_neg hs]; exact cTake_full v l w hv hm (by omega) _ rfl (by omega)
end Go.Proofs.Ytmeofjoamcghhaa
