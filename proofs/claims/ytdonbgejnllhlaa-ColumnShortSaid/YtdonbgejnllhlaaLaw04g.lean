/-
  ColumnShort, walked.
-/
import Derived.Test.YtdonbgejnllhlaaLaw04c
import Derived.Test.YtdonbgejnllhlaaRow2
namespace Go.Proofs.Ytdonbgejnllhlaa
open Go.RowKit Go.Sort

/-- The values that rise by one and the same step. -/
def steps (f s : Int) : Nat → List Int
  | 0 => []
  | k + 1 => steps f s k ++ [w64 (f + k * s)]

theorem steps_len (f s : Int) : ∀ k, (steps f s k).length = k
  | 0 => rfl
  | k + 1 => by rw [steps, List.length_append, steps_len f s k]; rfl
theorem steps_in (f s : Int) : ∀ k, ∀ x ∈ steps f s k, InR x
  | 0, x, h => by simp [steps] at h
  | k + 1, x, h => by
    rw [steps] at h
    rcases List.mem_append.1 h with h | h
    · exact steps_in f s k x h
    · simp at h; subst h; exact w64_in _

theorem steps_delta {f s : Int} (hf : InR f) (hs : InR s) : ∀ k, deltaL 0 (steps f s (k + 1)) = f :: List.replicate k s
  | 0 => by
    have h := w64_id hf
    simp [steps, deltaL, h]
  | k + 1 => by
    have hl : (steps f s (k + 1)).getLast?.getD 0 = w64 (f + k * s) := by rw [steps]; simp
    rw [steps, delta_snoc, steps_delta hf hs k, hl, List.replicate_succ', ← List.cons_append]
    congr 2
    have e : f + ((k + 1 : Nat) : Int) * s = f + (k : Int) * s + s := by rw [Int.natCast_add, Int.add_mul]; omega
    rw [e]
    unfold InR at hs
    unfold w64
    omega

theorem putL_short {n : Nat} (h : n ≤ 65536) : (putL n).length ≤ 3 := putL_len 2 n (by omega)

theorem one_run {x : Int} (hx : InR x) {k : Nat} (hk : k ≤ 65536) : (bytesR (List.replicate k x)).length ≤ 13 ∧ (k = 0 ∨ 1 ≤ (bytesR (List.replicate k x)).length) := by
  rcases Nat.eq_zero_or_pos k with rfl | h
  · simp [bytesR, runsL, encR]
  · have h1 := bytes_rep (x := x) (t := []) (fun y t' h => by cases h) h
    rw [List.append_nil] at h1
    have h2 := putL_short hk
    have h3 := putL_len10 (zigN_lt hx)
    have h4 := putL_pos k
    rw [h1, List.length_append, List.length_append]
    have : (bytesR []).length = 0 := by simp [bytesR, runsL, encR]
    omega

theorem short_delta {f s : Int} (hf : InR f) (hs : InR s) {k : Nat} (hk : k ≤ 65536) : (bytesR (deltaL 0 (steps f s k))).length ≤ 26 := by
  cases k with
  | zero => simp [steps, deltaL, bytesR, runsL, encR]
  | succ k =>
    rw [steps_delta hf hs k]
    by_cases h : s = f
    · subst h
      rw [← List.replicate_succ]
      have := (one_run hs hk).1
      omega
    · have h1 := bytes_rep (x := f) (t := List.replicate k s) (m := 1) (fun y t' ht => by
        cases k with
        | zero => cases ht
        | succ k => rw [List.replicate_succ] at ht; injection ht with ht _; rw [← ht]; exact h) (by omega)
      have e : List.replicate 1 f ++ List.replicate k s = f :: List.replicate k s := rfl
      rw [e] at h1
      have h2 := (one_run hs (k := k) (by omega)).1
      have h3 := putL_len10 (zigN_lt hf)
      have h4 := putL_short (n := 1) (by omega)
      rw [h1, List.length_append, List.length_append]
      omega

/-- What stands in x at a round's head. -/
def StepU (f s : Int) (k : Nat) (U : Int) : Prop := U = IntKind.u64.wrap (f + k * s)
theorem StepU.next {f s : Int} {k : Nat} {U : Int} (h : StepU f s k U) : IntKind.i64.wrap U = w64 (f + k * s) ∧ StepU f s (k + 1) (IntKind.u64.wrap (U + IntKind.u64.wrap s)) := by
  unfold StepU at *
  have e : f + ((k + 1 : Nat) : Int) * s = f + (k : Int) * s + s := by rw [Int.natCast_add, Int.add_mul]; omega
  refine ⟨?_, ?_⟩
  · rw [h, IntKind.wrap_i64, IntKind.wrap_u64]
    unfold w64
    omega
  · rw [e, h]
    rw [IntKind.wrap_u64, IntKind.wrap_u64, IntKind.wrap_u64, IntKind.wrap_u64]
    omega
theorem StepU.in_ {f s : Int} {k : Nat} {U : Int} (h : StepU f s k U) : 0 ≤ U ∧ U ≤ 18446744073709551615 := by
  unfold StepU at h
  rw [h, IntKind.wrap_u64]
  omega

set_option maxRecDepth 20000 in
set_option maxHeartbeats 3000000 in
theorem columnShort_walk' (f s n : Int) (N : Nat) (w : World) (hf : InR f) (hs : InR s) (hN : N ≤ 65536) (hn : (0 ≤ n ∧ n % 65537 = N) ∨ (n < 0 ∧ -9223372036854775808 ≤ n ∧ -(n + 1) % 65537 = N)) :
    Calls Try.prog 7 #[.int .i64 f, .int .i64 s, .int .i64 n] w (Ret (.bool true) w) := by
  have hA := one_run hf hN
  have hB := short_delta hf hs hN
  have hU0 : Hid (StepU f s 0 (IntKind.u64.wrap f)) := hide (by unfold StepU; simp)
  have hf := hide hf
  have hs := hide hs
  have hfin : ((N : Int) == 0) = (((bytesR (List.replicate N f)).length : Int) == 0) := by
    rcases hA.2 with h | h
    · subst h; simp [bytesR, runsL, encR]
    · have : N ≠ 0 := by
        rintro rfl
        simp [bytesR, runsL, encR] at h
      rw [Bool.eq_iff_iff, beq_iff_eq, beq_iff_eq]
      omega
  have cR : Hid (∀ W v, RowAt W v (ints (List.replicate N f)) → Calls Try.prog 11 #[v] W fun e w' => ∃ v', e = .returned v' ∧ BytesAt w' v' (bytesR (List.replicate N f)) ∧ Below W.heap.size W w') :=
    hide fun W v h => (cRuns_any v _ W h (fun x hx => by rw [List.eq_of_mem_replicate hx]; exact hf.out) (by simpa using hN)).mono fun e w' ⟨v', h1, h2, h3⟩ => ⟨v', h1, h2.bytes (bytesR_byte _), h3⟩
  have cD : Hid (∀ W v, RowAt W v (ints (steps f s N)) → Calls Try.prog 13 #[v] W fun e w' => ∃ v', e = .returned v' ∧ BytesAt w' v' (bytesR (deltaL 0 (steps f s N))) ∧ Below W.heap.size W w') :=
    hide fun W v h => (cDeltas_any v _ W h (steps_in f s N) (by rw [steps_len]; exact hN)).mono fun e w' ⟨v', h1, h2, h3⟩ => ⟨v', h1, h2.bytes (bytesR_byte _), h3⟩
  obtain ⟨X1, e1⟩ : ∃ X, bytesR (List.replicate N f) = X := ⟨_, rfl⟩
  obtain ⟨X2, e2⟩ : ∃ X, bytesR (deltaL 0 (steps f s N)) = X := ⟨_, rfl⟩
  rw [e1] at hA hfin cR
  rw [e2] at hB cD
  obtain ⟨hA1, _⟩ := hA
  have hfin := hide hfin
  obtain ⟨U0, hU⟩ : ∃ U, IntKind.u64.wrap f = U := ⟨_, rfl⟩
  have hU0' := hU0
  rw [hU] at hU0
  clear e1 e2
  rcases hn with ⟨hn0, hn1⟩ | ⟨hn0, hn2, hn1⟩
  · go_enter Try.func7, Try.ntmps7
    go_wp2
    rw [hn1]
    clear hn0 hn1
    go_loopw [7, 8, 9, 10] (fun o q x t wr => ∃ (i : Nat) (U : Int), t = .int .i64 i ∧ x = .int .u64 U ∧ i ≤ N ∧ OwnRow wr w.heap.size 3 o (ints (List.replicate i f)) ∧ OwnRow wr w.heap.size 3 q (ints (steps f s i)) ∧ ApartRow o q ∧ Hid (StepU f s i U) ∧ 0 ≤ U ∧ U ≤ 18446744073709551615 ∧ Below w.heap.size w wr) (fun _ _ _ t _ => N - (intOf t).toNat)
    case atStart => exact ⟨0, U0, rfl, rfl, by omega, OwnRow.none_ _ _ _, OwnRow.none_ _ _ _, ApartRow.nil _, hU0, hU0.out.in_.1, hU0.out.in_.2, Below.refl _ _⟩
    case round =>
      obtain ⟨i, U, rfl, rfl, hi, ho, hq, hap, hU, hUa, hUb, hbel⟩ := hrel
      have hlo : (ints (List.replicate i f)).length ≤ 65536 := by rw [ints_len]; simp; omega
      have hlq : (ints (steps f s i)).length ≤ 65536 := by rw [ints_len, steps_len]; omega
      rcases Nat.lt_or_ge i N with hiN | hiN
      · obtain ⟨hw1, hnext⟩ := hU.out.next
        have hin := hnext.in_
        have hnext := hide hnext
        obtain ⟨y, hy⟩ : ∃ y, w64 (f + i * s) = y := ⟨_, rfl⟩
        rw [hy] at hw1
        have hy := hide hy
        go_wp2_with (first
          | (at_builtin; refine append_one2 elemI rfl (.tmp 27) (.tmp 29) rfl w.heap.size rfl ho hq hap.symm rfl rfl (by omega) hbel.size ?_; intro v2 w2 ho2 hq2 hap2 hb2; have k2 := hbel.trans hb2)
          | (at_builtin; refine append_one2 elemI rfl (.tmp 31) (.tmp 34) rfl w.heap.size rfl hq2 ho2 hap2.symm rfl rfl (by omega) k2.size ?_; intro v3 w3 hq3 ho3 hap3 hb3; have k3 := k2.trans hb3))
        go_roundw
        case rel => exact ⟨i + 1, _, by go_num, rfl, by omega, by rw [List.replicate_succ', ints_app]; exact ho3, by rw [steps, ints_app, hy.out]; exact hq3, hap3, hnext, hin.1, hin.2, k3⟩
        case measure => simp [intOf]; omega
      · have hiN' : i = N := by omega
        rw [hiN'] at ho hq
        have ro := hide ho.row
        have rq := hide hq.row
        clear hiN'
        go_wp2_with (first
          | (go_at_call 11; refine (cR.out _ _ ro.out).mono ?_; rintro e' w4 ⟨v4, rfl, h4, hb4⟩; have k4 := then_call hbel hb4; have rq := keepR rq hb4; have hl4 := fun W => h4.len (ty := 3) W)
          | (go_at_call 13; refine (cD.out _ _ rq.out).mono ?_; rintro e' w5 ⟨v5, rfl, h5, hb5⟩; have k5 := then_call k4 hb5; have hl5 := fun W => h5.len (ty := 3) W)
          | (go_at_call 9; refine (alive4_any _).mono ?_; rintro e' w12 ⟨rfl, hb12⟩))
        go_ret
        exact ⟨ret_bool (by first | rfl | (rw [hfin.out]; simp)), then_call k5 hb12⟩
  · have hn3 : -((n + 1).tmod 65537) = (N : Int) := by
      rw [← hn1, ← Int.neg_tmod, Int.tmod_eq_emod_of_nonneg (by omega)]
    go_enter Try.func7, Try.ntmps7
    go_wp2
    clear hn0 hn1 hn2 hn3
    go_loopw [7, 8, 9, 10] (fun o q x t wr => ∃ (i : Nat) (U : Int), t = .int .i64 i ∧ x = .int .u64 U ∧ i ≤ N ∧ OwnRow wr w.heap.size 3 o (ints (List.replicate i f)) ∧ OwnRow wr w.heap.size 3 q (ints (steps f s i)) ∧ ApartRow o q ∧ Hid (StepU f s i U) ∧ 0 ≤ U ∧ U ≤ 18446744073709551615 ∧ Below w.heap.size w wr) (fun _ _ _ t _ => N - (intOf t).toNat)
    case atStart => exact ⟨0, U0, rfl, rfl, by omega, OwnRow.none_ _ _ _, OwnRow.none_ _ _ _, ApartRow.nil _, hU0, hU0.out.in_.1, hU0.out.in_.2, Below.refl _ _⟩
    case round =>
      obtain ⟨i, U, rfl, rfl, hi, ho, hq, hap, hU, hUa, hUb, hbel⟩ := hrel
      have hlo : (ints (List.replicate i f)).length ≤ 65536 := by rw [ints_len]; simp; omega
      have hlq : (ints (steps f s i)).length ≤ 65536 := by rw [ints_len, steps_len]; omega
      rcases Nat.lt_or_ge i N with hiN | hiN
      · obtain ⟨hw1, hnext⟩ := hU.out.next
        have hin := hnext.in_
        have hnext := hide hnext
        obtain ⟨y, hy⟩ : ∃ y, w64 (f + i * s) = y := ⟨_, rfl⟩
        rw [hy] at hw1
        have hy := hide hy
        go_wp2_with (first
          | (at_builtin; refine append_one2 elemI rfl (.tmp 27) (.tmp 29) rfl w.heap.size rfl ho hq hap.symm rfl rfl (by omega) hbel.size ?_; intro v2 w2 ho2 hq2 hap2 hb2; have k2 := hbel.trans hb2)
          | (at_builtin; refine append_one2 elemI rfl (.tmp 31) (.tmp 34) rfl w.heap.size rfl hq2 ho2 hap2.symm rfl rfl (by omega) k2.size ?_; intro v3 w3 hq3 ho3 hap3 hb3; have k3 := k2.trans hb3))
        go_roundw
        case rel => exact ⟨i + 1, _, by go_num, rfl, by omega, by rw [List.replicate_succ', ints_app]; exact ho3, by rw [steps, ints_app, hy.out]; exact hq3, hap3, hnext, hin.1, hin.2, k3⟩
        case measure => simp [intOf]; omega
      · have hiN' : i = N := by omega
        rw [hiN'] at ho hq
        have ro := hide ho.row
        have rq := hide hq.row
        clear hiN'
        go_wp2_with (first
          | (go_at_call 11; refine (cR.out _ _ ro.out).mono ?_; rintro e' w4 ⟨v4, rfl, h4, hb4⟩; have k4 := then_call hbel hb4; have rq := keepR rq hb4; have hl4 := fun W => h4.len (ty := 3) W)
          | (go_at_call 13; refine (cD.out _ _ rq.out).mono ?_; rintro e' w5 ⟨v5, rfl, h5, hb5⟩; have k5 := then_call k4 hb5; have hl5 := fun W => h5.len (ty := 3) W)
          | (go_at_call 9; refine (alive4_any _).mono ?_; rintro e' w12 ⟨rfl, hb12⟩))
        go_ret
        exact ⟨ret_bool (by first | rfl | (rw [hfin.out]; simp)), then_call k5 hb12⟩

theorem columnShort_walk (f s n : Int) (hf0 : -9223372036854775808 ≤ f) (hf1 : f ≤ 9223372036854775807) (hs0 : -9223372036854775808 ≤ s) (hs1 : s ≤ 9223372036854775807) (hn0 : -9223372036854775808 ≤ n) (_hn1 : n ≤ 9223372036854775807) (w : World) :
    Calls Try.prog 7 #[.int .i64 f, .int .i64 s, .int .i64 n] w (Ret (.bool true) w) := by
  rcases (show n < 0 ∨ 0 ≤ n by omega) with h | h
  · exact columnShort_walk' f s n (-(n + 1) % 65537).toNat w ⟨hf0, hf1⟩ ⟨hs0, hs1⟩ (by omega) (.inr ⟨h, hn0, by omega⟩)
  · exact columnShort_walk' f s n (n % 65537).toNat w ⟨hf0, hf1⟩ ⟨hs0, hs1⟩ (by omega) (.inl ⟨h, by omega⟩)
end Go.Proofs.Ytdonbgejnllhlaa
