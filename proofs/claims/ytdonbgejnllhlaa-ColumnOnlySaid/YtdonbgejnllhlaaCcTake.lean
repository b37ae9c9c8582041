/-
  What the takers of columns lean on: how many there may be, a run's count, a run, a run put behind a list.
-/
import Derived.Test.YtdonbgejnllhlaaCcStore
import Derived.Test.YtdonbgejnllhlaaCoGiven
namespace Go.Proofs.Ytdonbgejnllhlaa
open Go.RowKit Go.Sort

theorem results_quad {fn : Func} {t u v x : Tmp} (h : fn.results = #[.tmp t, .tmp u, .tmp v, .tmp x]) (tmps : Array Value) (P : Program) (w : World) :
    (results fn tmps).run P w = .ok (.tuple #[tmps.getD t undef, tmps.getD u undef, tmps.getD v undef, tmps.getD x undef]) w := by simp [results, h]

theorem mayCount_yes (n : Int) (h1 : 0 ≤ n) (h2 : n ≤ 65536) (w : World) : Calls Try.prog 31 #[.int .i64 n] w fun e w' => e = .returned (.bool true) ∧ w = w' := by
  go_enter Try.func31, Try.ntmps31
  go_wp2
  go_ret
  exact ⟨rfl, rfl⟩
theorem mayCount_no (n : Int) (h : n < 0 ∨ 65536 < n) (w : World) : Calls Try.prog 31 #[.int .i64 n] w fun e w' => e = .returned (.bool false) ∧ w = w' := by
  rcases h with h | h
  · go_enter Try.func31, Try.ntmps31
    go_wp2
    go_ret
    exact ⟨rfl, rfl⟩
  · go_enter Try.func31, Try.ntmps31
    go_wp2
    go_ret
    exact ⟨by simp; omega, rfl⟩

set_option maxRecDepth 20000 in
set_option maxHeartbeats 1000000 in
theorem takeCount_yes {w : World} {v : Value} {l : List Nat} {n k : Nat} (least most : Nat) (hv : BytesAt w v l) (ht : Taken l n k 0) (h1 : least ≤ n) (h2 : n ≤ most) (h3 : most ≤ 65536) :
    Calls Try.prog 36 #[v, .int .i64 least, .int .i64 most] w fun e w' => e = .returned (.tuple #[.int .i64 n, .int .i64 k, .bool true]) ∧ w = w' := by
  have c1 := hide (take_at hv ht)
  have hw1 : IntKind.u64.wrap (least : Int) = least := by rw [IntKind.wrap_u64]; omega
  have hw2 : IntKind.u64.wrap (most : Int) = most := by rw [IntKind.wrap_u64]; omega
  have hw3 : IntKind.i64.wrap (n : Int) = n := by rw [IntKind.wrap_i64]; omega
  go_enter Try.func36, Try.ntmps36
  go_wp2_with (go_at_call 40; refine c1.out.mono ?_; rintro e' w1 ⟨rfl, rfl⟩)
  go_ret3
  exact ⟨rfl, rfl⟩

set_option maxRecDepth 20000 in
set_option maxHeartbeats 1000000 in
theorem takeCount_no {w : World} {v : Value} {l : List Nat} {n k e : Nat} (least most : Nat) (hv : BytesAt w v l) (ht : Taken l n k e) (h : e = 31 ∨ e = 0 ∧ (n < least ∨ most < n)) (h0 : least ≤ 1) (h3 : most ≤ 65536) :
    Calls Try.prog 36 #[v, .int .i64 least, .int .i64 most] w fun e w' => e = .returned (.tuple #[.int .i64 0, .int .i64 0, .bool false]) ∧ w = w' := by
  have c1 := hide (take_at hv ht)
  have hw1 : IntKind.u64.wrap (least : Int) = least := by rw [IntKind.wrap_u64]; omega
  have hw2 : IntKind.u64.wrap (most : Int) = most := by rw [IntKind.wrap_u64]; omega
  have h0' := Lib.hid h0
  clear ht h0
  rcases h with rfl | ⟨rfl, h⟩
  · go_enter Try.func36, Try.ntmps36
    go_wp2_with (go_at_call 40; refine c1.out.mono ?_; rintro e' w1 ⟨rfl, rfl⟩)
    go_ret3
    exact ⟨rfl, rfl⟩
  · rcases Nat.lt_or_ge n least with h1 | h1
    · have hq : decide (n < least) = true := decide_eq_true h1
      clear h
      go_enter Try.func36, Try.ntmps36
      go_wp2_with (go_at_call 40; refine c1.out.mono ?_; rintro e' w1 ⟨rfl, rfl⟩)
      go_ret3
      exact ⟨rfl, rfl⟩
    · have hq : decide (n < least) = false := decide_eq_false (by omega)
      have h2 : most < n := by omega
      clear h
      go_enter Try.func36, Try.ntmps36
      go_wp2_with (go_at_call 40; refine c1.out.mono ?_; rintro e' w1 ⟨rfl, rfl⟩)
      go_ret3
      exact ⟨rfl, rfl⟩

theorem zag_N_any {m : Nat} {x : Int} (h : zagN m = x) (hm : m < 18446744073709551616) (w : World) : Calls Try.prog 41 #[.int .u64 m] w fun e w' => e = .returned (.int .i64 x) ∧ w = w' := by
  have := zag_any m (by omega) (by omega) w
  rw [zag_N, h] at this
  exact this

set_option maxRecDepth 20000 in
set_option maxHeartbeats 1000000 in
theorem takeRun_yes {w : World} {v : Value} {l : List Nat} {n k m j f : Nat} {x : Int} (most : Nat) (hv : BytesAt w v l) (ht : Taken l n k 0) (h1 : 1 ≤ n) (h2 : n ≤ most) (h3 : most ≤ 65536) (ht2 : Taken (l.drop k) m j f) (hx : zagN m = x) :
    Calls Try.prog 32 #[v, .int .i64 most] w fun e w' => e = .returned (.tuple #[.int .i64 x, .int .i64 n, .int .i64 ((k : Int) + j), .bool (decide (f = 0))]) ∧ w = w' := by
  obtain ⟨hn64, hk10, hkl, _⟩ := ht.bounds
  obtain ⟨hm64, hj10, _, hf31⟩ := ht2.bounds
  obtain ⟨v2, hs2, hb2⟩ := hv.cut hkl
  have c1 := hide (takeCount_yes 1 most hv ht h1 h2 h3)
  have c2 := hide (take_at hb2 ht2)
  have c3 := hide (fun W => zag_N_any hx hm64 W)
  have hw1 : IntKind.i64.wrap ((k : Int) + j) = (k : Int) + j := by rw [IntKind.wrap_i64]; omega
  have hq : ((f : Int) == 0) = decide (f = 0) := by
    by_cases h : f = 0
    · simp [h]
    · simp [h]
  obtain ⟨q, hq2⟩ : ∃ q, decide (f = 0) = q := ⟨_, rfl⟩
  rw [hq2] at hq ⊢
  clear ht ht2 hx hq2 hb2 hkl
  go_enter Try.func32, Try.ntmps32
  go_wp2_with (first
    | (go_at_call 36; refine c1.out.mono ?_; rintro e' w1 ⟨rfl, rfl⟩)
    | (go_at_call 40; refine c2.out.mono ?_; rintro e' w1 ⟨rfl, rfl⟩)
    | (go_at_call 41; refine (c3.out _).mono ?_; rintro e' w1 ⟨rfl, rfl⟩))
  refine bodyPost_ret (results_quad rfl _ _ _) rfl ?_
  exact ⟨by simp, rfl⟩

set_option maxRecDepth 20000 in
set_option maxHeartbeats 1000000 in
theorem takeRun_no {w : World} {v : Value} {l : List Nat} {n k e : Nat} (most : Nat) (hv : BytesAt w v l) (ht : Taken l n k e) (h : e = 31 ∨ e = 0 ∧ (n < 1 ∨ most < n)) (h3 : most ≤ 65536) :
    Calls Try.prog 32 #[v, .int .i64 most] w fun e w' => e = .returned (.tuple #[.int .i64 0, .int .i64 0, .int .i64 0, .bool false]) ∧ w = w' := by
  have c1 := hide (takeCount_no 1 most hv ht h (by omega) h3)
  clear h ht
  go_enter Try.func32, Try.ntmps32
  go_wp2_with (go_at_call 36; refine c1.out.mono ?_; rintro e' w1 ⟨rfl, rfl⟩)
  refine bodyPost_ret (results_quad rfl _ _ _) rfl ?_
  exact ⟨rfl, rfl⟩

set_option maxRecDepth 20000 in
set_option maxHeartbeats 1000000 in
theorem growI_any (base : Nat) (v : Value) (l : List Int) (x : Int) (k : Nat) (w : World) (hown : OwnRow w base 3 v (ints l)) (hb : base ≤ w.heap.size) (hl : l.length ≤ 65536) (hk : k ≤ 65536) :
    Calls Try.prog 33 #[v, .int .i64 x, .int .i64 k] w fun e w' => ∃ v', e = .returned v' ∧ OwnRow w' base 3 v' (ints (l ++ List.replicate k x)) ∧ Below base w w' := by
  go_enter Try.func33, Try.ntmps33
  go_wp2
  go_loopw [0, 8] (fun o t wr => ∃ q : Nat, t = .int .i64 q ∧ q ≤ k ∧ OwnRow wr base 3 o (ints (l ++ List.replicate q x)) ∧ Below base w wr) (fun _ t _ => k - (intOf t).toNat)
  case atStart => exact ⟨0, rfl, by omega, by simpa using hown, Below.refl _ _⟩
  case round =>
    obtain ⟨q, rfl, hq, hown3, hbel3⟩ := hrel
    rcases Nat.lt_or_ge q k with hqk | hqk
    · have hlen3 : (ints (l ++ List.replicate q x)).length ≤ 140000 := by rw [ints_len]; simp; omega
      go_wp2_with (at_builtin; refine append_row elemI rfl (.tmp 10) (.tmp 12) rfl base rfl (hown3.alloc _) rfl (row_box _ _ _) (by intro u hu; simp at hu; subst hu; rfl) (by simp; omega) (by have := hbel3.size; simp; omega) ?_; intro v6 w6 hown6 hb6; have hbel6 : Below base w w6 := (hbel3.alloc (by have := hbel3.size; omega) _).trans hb6)
      go_roundw
      case rel => exact ⟨q + 1, by go_num, by omega, by rw [List.replicate_succ', ← List.append_assoc, ints_app]; exact hown6, hbel6⟩
      case measure => simp [intOf]; omega
    · obtain rfl : q = k := by omega
      go_wp2
      go_ret
      exact ⟨_, rfl, hown3, hbel3⟩

set_option maxRecDepth 20000 in
set_option maxHeartbeats 1000000 in
theorem growT_any (base : Nat) (v : Value) (l : List Bool) (x : Bool) (k : Nat) (w : World) (hown : OwnRow w base 4 v (truths l)) (hb : base ≤ w.heap.size) (hl : l.length ≤ 65536) (hk : k ≤ 65536) :
    Calls Try.prog 37 #[v, .bool x, .int .i64 k] w fun e w' => ∃ v', e = .returned v' ∧ OwnRow w' base 4 v' (truths (l ++ List.replicate k x)) ∧ Below base w w' := by
  go_enter Try.func37, Try.ntmps37
  go_wp2
  go_loopw [0, 8] (fun o t wr => ∃ q : Nat, t = .int .i64 q ∧ q ≤ k ∧ OwnRow wr base 4 o (truths (l ++ List.replicate q x)) ∧ Below base w wr) (fun _ t _ => k - (intOf t).toNat)
  case atStart => exact ⟨0, rfl, by omega, by simpa using hown, Below.refl _ _⟩
  case round =>
    obtain ⟨q, rfl, hq, hown3, hbel3⟩ := hrel
    rcases Nat.lt_or_ge q k with hqk | hqk
    · have hlen3 : (truths (l ++ List.replicate q x)).length ≤ 140000 := by rw [truths_len]; simp; omega
      go_wp2_with (at_builtin; refine append_row elemT rfl (.tmp 10) (.tmp 12) rfl base rfl (hown3.alloc _) rfl (row_box _ _ _) (by intro u hu; simp at hu; subst hu; rfl) (by simp; omega) (by have := hbel3.size; simp; omega) ?_; intro v6 w6 hown6 hb6; have hbel6 : Below base w w6 := (hbel3.alloc (by have := hbel3.size; omega) _).trans hb6)
      go_roundw
      case rel => exact ⟨q + 1, by go_num, by omega, by rw [List.replicate_succ', ← List.append_assoc, truths_app]; exact hown6, hbel6⟩
      case measure => simp [intOf]; omega
    · obtain rfl : q = k := by omega
      go_wp2
      go_ret
      exact ⟨_, rfl, hown3, hbel3⟩
end Go.Proofs.Ytdonbgejnllhlaa
