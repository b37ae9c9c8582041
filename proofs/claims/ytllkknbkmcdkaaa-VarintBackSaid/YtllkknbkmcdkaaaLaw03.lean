/-
  Stage 3's statements, walked: VarintPuts, VarintZigs, VarintSigns.
-/
import Derived.Test.YtllkknbkmcdkaaaVaApp
namespace Go.Proofs.Ytllkknbkmcdkaaa
open Go.RowKit Go.Sort

theorem same_true {w : World} {v u : Value} {l : List Nat} (hv : BytesAt w v l) (hu : BytesAt w u l) :
    Calls Try.prog 10 #[v, u] w fun e w' => e = .returned (.bool true) ∧ w = w' := by
  have h := same_at hv hu
  rw [decide_eq_true (rfl : l = l)] at h
  exact h

theorem putL_bytes {w : World} {base : Nat} {v : Value} {n : Nat} (h : Own w base v (putL n)) : BytesAt w v (putL n) := h.bytes (putL_byte n)

set_option maxHeartbeats 1000000 in
theorem varintPuts_walk' (n : Nat) (hn : n < 18446744073709551616) (w : World) : Calls Try.prog 3 #[.int .u64 n] w (Ret (.bool true) w) := by
  have hn' := hide hn
  clear hn
  go_enter Try.func3, Try.ntmps3
  go_wp2_with (first
    | (go_at_call 11; refine (put_any n hn'.out _).mono ?_; rintro e w1 ⟨v1, rfl, ho1, hb1⟩)
    | (go_at_call 12; refine (refPut_any n hn'.out _).mono ?_; rintro e w2 ⟨v2, rfl, ho2, hb2⟩)
    | (go_at_call 10; refine (same_true ((putL_bytes ho1).below hb2) (putL_bytes ho2)).mono ?_; rintro e w3 ⟨rfl, rfl⟩)
    | (go_at_call 13; refine (alive_any _).mono ?_; rintro e w4 ⟨rfl, hb4⟩))
  go_ret
  exact ⟨rfl, then_call (then_call hb1 hb2) hb4⟩

theorem zig_val {n y : Int} (h : zig n = y) (hl : -9223372036854775808 ≤ n) (hh : n ≤ 9223372036854775807) (w : World) : Calls Try.prog 16 #[.int .i64 n] w fun e w' => e = .returned (.int .u64 y) ∧ w = w' := by
  subst h; exact zig_any n hl hh w
theorem zag_val {m y : Int} (h : zag m = y) (hl : 0 ≤ m) (hh : m ≤ 18446744073709551615) (w : World) : Calls Try.prog 18 #[.int .u64 m] w fun e w' => e = .returned (.int .i64 y) ∧ w = w' := by
  subst h; exact zag_any m hl hh w
theorem refZig_val {n y : Int} (h : zig n = y) (hl : -9223372036854775808 ≤ n) (hh : n ≤ 9223372036854775807) (w : World) : Calls Try.prog 17 #[.int .i64 n] w fun e w' => e = .returned (.int .u64 y) ∧ w = w' := by
  subst h; exact refZig_any n hl hh w
theorem refZag_val {m y : Int} (h : zag m = y) (hl : 0 ≤ m) (hh : m ≤ 18446744073709551615) (w : World) : Calls Try.prog 19 #[.int .u64 m] w fun e w' => e = .returned (.int .i64 y) ∧ w = w' := by
  subst h; exact refZag_any m hl hh w

set_option maxHeartbeats 1000000 in
theorem varintZigs_walk (n m : Int) (hl : -9223372036854775808 ≤ n) (hh : n ≤ 9223372036854775807) (h0 : 0 ≤ m) (h1 : m ≤ 18446744073709551615) (w : World) :
    Calls Try.prog 5 #[.int .i64 n, .int .u64 m] w (Ret (.bool true) w) := by
  obtain ⟨y, hy⟩ : ∃ y, zig n = y := ⟨_, rfl⟩
  obtain ⟨z, hz⟩ : ∃ z, zag m = z := ⟨_, rfl⟩
  have c0 := hide (fun w => zig_val (n := -1) (y := 1) (by decide) (by omega) (by omega) w)
  have c1 := hide (fun w => zig_val hy hl hh w)
  have c2 := hide (fun w => refZig_val hy hl hh w)
  have c3 := hide (fun w => zag_val hz h0 h1 w)
  have c4 := hide (fun w => refZag_val hz h0 h1 w)
  clear hy hz hl hh h0 h1
  go_enter Try.func5, Try.ntmps5
  go_wp2_with (first
    | (go_at_call 16; (first | with_reducible refine (c0.out _).mono ?_ | with_reducible refine (c1.out _).mono ?_); rintro e w1 ⟨rfl, rfl⟩)
    | (go_at_call 17; refine (c2.out _).mono ?_; rintro e w1 ⟨rfl, rfl⟩)
    | (go_at_call 18; refine (c3.out _).mono ?_; rintro e w1 ⟨rfl, rfl⟩)
    | (go_at_call 19; refine (c4.out _).mono ?_; rintro e w1 ⟨rfl, rfl⟩)
    | (go_at_call 13; refine (alive_any _).mono ?_; rintro e w4 ⟨rfl, hb4⟩))
  go_ret
  exact ⟨rfl, hb4⟩

theorem zag_zig (n : Int) : zag (zig n) = n := by
  unfold zag zig; split <;> split <;> omega
theorem zig_zag (m : Int) (h : 0 ≤ m) : zig (zag m) = m := by
  unfold zag zig; split <;> split <;> omega
theorem zig_bounds {n : Int} (hl : -9223372036854775808 ≤ n) (hh : n ≤ 9223372036854775807) : 0 ≤ zig n ∧ zig n ≤ 18446744073709551615 := by
  unfold zig; split <;> omega
theorem zag_bounds {m : Int} (hl : 0 ≤ m) (hh : m ≤ 18446744073709551615) : -9223372036854775808 ≤ zag m ∧ zag m ≤ 9223372036854775807 := by
  unfold zag; split <;> omega

set_option maxHeartbeats 1000000 in
theorem varintSigns_walk (n m : Int) (hl : -9223372036854775808 ≤ n) (hh : n ≤ 9223372036854775807) (h0 : 0 ≤ m) (h1 : m ≤ 18446744073709551615) (w : World) :
    Calls Try.prog 8 #[.int .i64 n, .int .u64 m] w (Ret (.bool true) w) := by
  obtain ⟨y, hy⟩ : ∃ y, zig n = y := ⟨_, rfl⟩
  obtain ⟨z, hz⟩ : ∃ z, zag m = z := ⟨_, rfl⟩
  have hyb := zig_bounds hl hh
  have hzb := zag_bounds h0 h1
  have hyz := zag_zig n
  have hzy := zig_zag m h0
  rw [hy] at hyb hyz
  rw [hz] at hzb hzy
  have c1 := hide (fun w => zig_val hy hl hh w)
  have c2 := hide (fun w => zag_val hyz hyb.1 hyb.2 w)
  have c3 := hide (fun w => zag_val hz h0 h1 w)
  have c4 := hide (fun w => zig_val hzy hzb.1 hzb.2 w)
  clear hyb hzb hyz hzy hz
  have H : n < -4611686018427387904 ∨ 4611686018427387904 ≤ n ∨ n = 0 ∨ (0 < n ∧ n < 4611686018427387904) ∨ (n < 0 ∧ -4611686018427387904 ≤ n) := by omega
  rcases H with H | H | H | ⟨H, H'⟩ | ⟨H, H'⟩
  · clear hy
    go_enter Try.func8, Try.ntmps8
    go_wp2_with (first
      | (go_at_call 16; (first | with_reducible refine (c1.out _).mono ?_ | with_reducible refine (c4.out _).mono ?_); rintro e w1 ⟨rfl, rfl⟩)
      | (go_at_call 18; (first | with_reducible refine (c2.out _).mono ?_ | with_reducible refine (c3.out _).mono ?_); rintro e w1 ⟨rfl, rfl⟩)
      | (go_at_call 13; refine (alive_any _).mono ?_; rintro e w4 ⟨rfl, hb4⟩))
    go_ret
    exact ⟨rfl, hb4⟩
  · clear hy
    go_enter Try.func8, Try.ntmps8
    go_wp2_with (first
      | (go_at_call 16; (first | with_reducible refine (c1.out _).mono ?_ | with_reducible refine (c4.out _).mono ?_); rintro e w1 ⟨rfl, rfl⟩)
      | (go_at_call 18; (first | with_reducible refine (c2.out _).mono ?_ | with_reducible refine (c3.out _).mono ?_); rintro e w1 ⟨rfl, rfl⟩)
      | (go_at_call 13; refine (alive_any _).mono ?_; rintro e w4 ⟨rfl, hb4⟩))
    go_ret
    exact ⟨rfl, hb4⟩
  · clear hy
    subst H
    go_enter Try.func8, Try.ntmps8
    go_wp2_with (first
      | (go_at_call 16; (first | with_reducible refine (c1.out _).mono ?_ | with_reducible refine (c4.out _).mono ?_); rintro e w1 ⟨rfl, rfl⟩)
      | (go_at_call 18; (first | with_reducible refine (c2.out _).mono ?_ | with_reducible refine (c3.out _).mono ?_); rintro e w1 ⟨rfl, rfl⟩)
      | (go_at_call 13; refine (alive_any _).mono ?_; rintro e w4 ⟨rfl, hb4⟩))
    go_ret
    exact ⟨rfl, hb4⟩
  · obtain ⟨x, hx⟩ : ∃ x, zig (n / 2) = x := ⟨_, rfl⟩
    have hxy : x < y := by
      rw [← hx, ← hy]
      unfold zig; split <;> split <;> omega
    have c5 := hide (fun w => zig_val hx (by omega) (by omega) w)
    clear hy hx
    go_enter Try.func8, Try.ntmps8
    go_wp2_with (first
      | (go_at_call 16; (first | with_reducible refine (c1.out _).mono ?_ | with_reducible refine (c4.out _).mono ?_ | with_reducible refine (c5.out _).mono ?_); rintro e w1 ⟨rfl, rfl⟩)
      | (go_at_call 18; (first | with_reducible refine (c2.out _).mono ?_ | with_reducible refine (c3.out _).mono ?_); rintro e w1 ⟨rfl, rfl⟩)
      | (go_at_call 13; refine (alive_any _).mono ?_; rintro e w4 ⟨rfl, hb4⟩))
    go_ret
    exact ⟨rfl, hb4⟩
  · obtain ⟨q, hq⟩ : ∃ q, n.tdiv 2 = q := ⟨_, rfl⟩
    have hqn : q = -((-n) / 2) := by
      rw [← hq]
      have h2 := Int.neg_tdiv (a := -n) (b := 2)
      rw [Int.neg_neg] at h2
      rw [h2, Int.tdiv_eq_ediv_of_nonneg (by omega)]
    obtain ⟨x, hx⟩ : ∃ x, zig q = x := ⟨_, rfl⟩
    have hxy : x < y := by
      rw [← hx, ← hy, hqn]
      unfold zig; rw [if_pos H]; split <;> omega
    have c5 := hide (fun w => zig_val hx (by omega) (by omega) w)
    rw [← hq] at c5
    clear hy hx hqn hq
    go_enter Try.func8, Try.ntmps8
    go_wp2_with (first
      | (go_at_call 16; (first | with_reducible refine (c1.out _).mono ?_ | with_reducible refine (c4.out _).mono ?_ | with_reducible refine (c5.out _).mono ?_); rintro e w1 ⟨rfl, rfl⟩)
      | (go_at_call 18; (first | with_reducible refine (c2.out _).mono ?_ | with_reducible refine (c3.out _).mono ?_); rintro e w1 ⟨rfl, rfl⟩)
      | (go_at_call 13; refine (alive_any _).mono ?_; rintro e w4 ⟨rfl, hb4⟩))
    go_ret
    exact ⟨rfl, hb4⟩

theorem varintPuts_walk (a : Int) (h0 : 0 ≤ a) (h1 : a ≤ 18446744073709551615) (w : World) : Calls Try.prog 3 #[.int .u64 a] w (Ret (.bool true) w) := by
  obtain ⟨n, rfl⟩ : ∃ n : Nat, a = n := ⟨a.toNat, by omega⟩
  exact varintPuts_walk' n (by omega) w
end Go.Proofs.Ytllkknbkmcdkaaa
