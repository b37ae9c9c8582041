/-
  Joined: CcTake, CcTakeRuns, CcTakeRest.
-/
import Derived.Test.YthpgfnhecfgiaaaGreatDoorMCc
import Derived.Test.YthpgfnhecfgiaaaGreatDoorMCoTake
namespace Go.Proofs.YthpgfnhecfgiaaaGreatDoor
open Go.RowKit Go.Sort
set_option maxRecDepth 20000

theorem results_quad {fn : Func} {t u v x : Tmp} (h : fn.results = #[.tmp t, .tmp u, .tmp v, .tmp x]) (tmps : Array Value) (P : Program) (w : World) :
    (results fn tmps).run P w = .ok (.tuple #[tmps.getD t undef, tmps.getD u undef, tmps.getD v undef, tmps.getD x undef]) w := by simp [results, h]

theorem mayCount_yes (n : Int) (h1 : 0 ≤ n) (h2 : n ≤ 65536) (w : World) : Calls Tryz.prog 81 #[.int .i64 n] w fun e w' => e = .returned (.bool true) ∧ w = w' := by
  go_enter Tryz.func81, Tryz.ntmps81
  go_wp2
  go_ret
  exact ⟨rfl, rfl⟩
theorem mayCount_no (n : Int) (h : n < 0 ∨ 65536 < n) (w : World) : Calls Tryz.prog 81 #[.int .i64 n] w fun e w' => e = .returned (.bool false) ∧ w = w' := by
  rcases h with h | h
  · go_enter Tryz.func81, Tryz.ntmps81
    go_wp2
    go_ret
    exact ⟨rfl, rfl⟩
  · go_enter Tryz.func81, Tryz.ntmps81
    go_wp2
    go_ret
    exact ⟨by simp; omega, rfl⟩

set_option maxRecDepth 20000 in
set_option maxHeartbeats 1000000 in
theorem takeCount_yes {w : World} {v : Value} {l : List Nat} {n k : Nat} (least most : Nat) (hv : BytesAt w v l) (ht : Taken l n k 0) (h1 : least ≤ n) (h2 : n ≤ most) (h3 : most ≤ 65536) :
    Calls Tryz.prog 82 #[v, .int .i64 least, .int .i64 most] w fun e w' => e = .returned (.tuple #[.int .i64 n, .int .i64 k, .bool true]) ∧ w = w' := by
  have c1 := hide (take_at hv ht)
  have hw1 : IntKind.u64.wrap (least : Int) = least := by rw [IntKind.wrap_u64]; omega
  have hw2 : IntKind.u64.wrap (most : Int) = most := by rw [IntKind.wrap_u64]; omega
  have hw3 : IntKind.i64.wrap (n : Int) = n := by rw [IntKind.wrap_i64]; omega
  go_enter Tryz.func82, Tryz.ntmps82
  go_wp2_with (go_at_call 25; refine c1.out.mono ?_; rintro e' w1 ⟨rfl, rfl⟩)
  go_ret3
  exact ⟨rfl, rfl⟩

set_option maxRecDepth 20000 in
set_option maxHeartbeats 1000000 in
theorem takeCount_no {w : World} {v : Value} {l : List Nat} {n k e : Nat} (least most : Nat) (hv : BytesAt w v l) (ht : Taken l n k e) (h : e = 31 ∨ e = 0 ∧ (n < least ∨ most < n)) (h0 : least ≤ 1) (h3 : most ≤ 65536) :
    Calls Tryz.prog 82 #[v, .int .i64 least, .int .i64 most] w fun e w' => e = .returned (.tuple #[.int .i64 0, .int .i64 0, .bool false]) ∧ w = w' := by
  have c1 := hide (take_at hv ht)
  have hw1 : IntKind.u64.wrap (least : Int) = least := by rw [IntKind.wrap_u64]; omega
  have hw2 : IntKind.u64.wrap (most : Int) = most := by rw [IntKind.wrap_u64]; omega
  have h0' := Lib.hid h0
  clear ht h0
  rcases h with rfl | ⟨rfl, h⟩
  · go_enter Tryz.func82, Tryz.ntmps82
    go_wp2_with (go_at_call 25; refine c1.out.mono ?_; rintro e' w1 ⟨rfl, rfl⟩)
    go_ret3
    exact ⟨rfl, rfl⟩
  · rcases Nat.lt_or_ge n least with h1 | h1
    · have hq : decide (n < least) = true := decide_eq_true h1
      clear h
      go_enter Tryz.func82, Tryz.ntmps82
      go_wp2_with (go_at_call 25; refine c1.out.mono ?_; rintro e' w1 ⟨rfl, rfl⟩)
      go_ret3
      exact ⟨rfl, rfl⟩
    · have hq : decide (n < least) = false := decide_eq_false (by omega)
      have h2 : most < n := by omega
      clear h
      go_enter Tryz.func82, Tryz.ntmps82
      go_wp2_with (go_at_call 25; refine c1.out.mono ?_; rintro e' w1 ⟨rfl, rfl⟩)
      go_ret3
      exact ⟨rfl, rfl⟩

theorem zag_N_any {m : Nat} {x : Int} (h : zagN m = x) (hm : m < 18446744073709551616) (w : World) : Calls Tryz.prog 96 #[.int .u64 m] w fun e w' => e = .returned (.int .i64 x) ∧ w = w' := by
  have := zag_any m (by omega) (by omega) w
  rw [zag_N, h] at this
  exact this

set_option maxRecDepth 20000 in
set_option maxHeartbeats 1000000 in
theorem takeRun_yes {w : World} {v : Value} {l : List Nat} {n k m j f : Nat} {x : Int} (most : Nat) (hv : BytesAt w v l) (ht : Taken l n k 0) (h1 : 1 ≤ n) (h2 : n ≤ most) (h3 : most ≤ 65536) (ht2 : Taken (l.drop k) m j f) (hx : zagN m = x) :
    Calls Tryz.prog 84 #[v, .int .i64 most] w fun e w' => e = .returned (.tuple #[.int .i64 x, .int .i64 n, .int .i64 ((k : Int) + j), .bool (decide (f = 0))]) ∧ w = w' := by
  obtain ⟨hn64, hk10, hkl, _⟩ := ht.bounds
  obtain ⟨hm64, hj10, _, hf31⟩ := ht2.bounds
  obtain ⟨v2, hs2, hb2⟩ := hv.cut hkl
  have c1 := hide (takeCount_yes 1 most hv ht h1 h2 h3)
  have c2 := hide (take_at hb2 ht2)
  have c3 := hide (fun W => zag_N_any hx hm64 W)
  have hw1 : IntKind.i64.wrap ((k : Int) + j) = (k : Int) + j := by rw [IntKind.wrap_i64]; omega
  have hq : ((f : Int) == 0) = decide (f = 0) := by
    by_cases h : f = 0
    · simp [h]
    · simp [h]
  obtain ⟨q, hq2⟩ : ∃ q, decide (f = 0) = q := ⟨_, rfl⟩
  rw [hq2] at hq ⊢
  clear ht ht2 hx hq2 hb2 hkl
  go_enter Tryz.func84, Tryz.ntmps84
  go_wp2_with (first
    | (go_at_call 82; refine c1.out.mono ?_; rintro e' w1 ⟨rfl, rfl⟩)
    | (go_at_call 25; refine c2.out.mono ?_; rintro e' w1 ⟨rfl, rfl⟩)
    | (go_at_call 96; refine (c3.out _).mono ?_; rintro e' w1 ⟨rfl, rfl⟩))
  refine bodyPost_ret (results_quad rfl _ _ _) rfl ?_
  exact ⟨by simp, rfl⟩

set_option maxRecDepth 20000 in
set_option maxHeartbeats 1000000 in
theorem takeRun_no {w : World} {v : Value} {l : List Nat} {n k e : Nat} (most : Nat) (hv : BytesAt w v l) (ht : Taken l n k e) (h : e = 31 ∨ e = 0 ∧ (n < 1 ∨ most < n)) (h3 : most ≤ 65536) :
    Calls Tryz.prog 84 #[v, .int .i64 most] w fun e w' => e = .returned (.tuple #[.int .i64 0, .int .i64 0, .int .i64 0, .bool false]) ∧ w = w' := by
  have c1 := hide (takeCount_no 1 most hv ht h (by omega) h3)
  clear h ht
  go_enter Tryz.func84, Tryz.ntmps84
  go_wp2_with (go_at_call 82; refine c1.out.mono ?_; rintro e' w1 ⟨rfl, rfl⟩)
  refine bodyPost_ret (results_quad rfl _ _ _) rfl ?_
  exact ⟨rfl, rfl⟩

set_option maxRecDepth 20000 in
set_option maxHeartbeats 1000000 in
theorem growI_any (base : Nat) (v : Value) (l : List Int) (x : Int) (k : Nat) (w : World) (hown : OwnRow w base 3 v (ints l)) (hb : base ≤ w.heap.size) (hl : l.length ≤ 65536) (hk : k ≤ 65536) :
    Calls Tryz.prog 85 #[v, .int .i64 x, .int .i64 k] w fun e w' => ∃ v', e = .returned v' ∧ OwnRow w' base 3 v' (ints (l ++ List.replicate k x)) ∧ Below base w w' := by
  go_enter Tryz.func85, Tryz.ntmps85
  go_wp2
  go_loopw [0, 8] (fun o t wr => ∃ q : Nat, t = .int .i64 q ∧ q ≤ k ∧ OwnRow wr base 3 o (ints (l ++ List.replicate q x)) ∧ Below base w wr) (fun _ t _ => k - (intOf t).toNat)
  case atStart => exact ⟨0, rfl, by omega, by simpa using hown, Below.refl _ _⟩
  case round =>
    obtain ⟨q, rfl, hq, hown3, hbel3⟩ := hrel
    rcases Nat.lt_or_ge q k with hqk | hqk
    · have hlen3 : (ints (l ++ List.replicate q x)).length ≤ 140000 := by rw [ints_len]; simp; omega
      go_wp2_with (at_builtin; refine append_row elemI rfl (.tmp 10) (.tmp 12) rfl base rfl (hown3.alloc _) rfl (row_box _ _ _) (by intro u hu; simp at hu; subst hu; rfl) (by simp; omega) (by have := hbel3.size; simp; omega) ?_; intro v6 w6 hown6 hb6; have hbel6 : Below base w w6 := (hbel3.alloc (by have := hbel3.size; omega) _).trans hb6)
      go_roundw
      case rel => exact ⟨q + 1, by go_num, by omega, by rw [List.replicate_succ', ← List.append_assoc, ints_app]; exact hown6, hbel6⟩
      case measure => simp [intOf]; omega
    · obtain rfl : q = k := by omega
      go_wp2
      go_ret
      exact ⟨_, rfl, hown3, hbel3⟩

set_option maxRecDepth 20000 in
set_option maxHeartbeats 1000000 in
theorem growT_any (base : Nat) (v : Value) (l : List Bool) (x : Bool) (k : Nat) (w : World) (hown : OwnRow w base 4 v (truths l)) (hb : base ≤ w.heap.size) (hl : l.length ≤ 65536) (hk : k ≤ 65536) :
    Calls Tryz.prog 83 #[v, .bool x, .int .i64 k] w fun e w' => ∃ v', e = .returned v' ∧ OwnRow w' base 4 v' (truths (l ++ List.replicate k x)) ∧ Below base w w' := by
  go_enter Tryz.func83, Tryz.ntmps83
  go_wp2
  go_loopw [0, 8] (fun o t wr => ∃ q : Nat, t = .int .i64 q ∧ q ≤ k ∧ OwnRow wr base 4 o (truths (l ++ List.replicate q x)) ∧ Below base w wr) (fun _ t _ => k - (intOf t).toNat)
  case atStart => exact ⟨0, rfl, by omega, by simpa using hown, Below.refl _ _⟩
  case round =>
    obtain ⟨q, rfl, hq, hown3, hbel3⟩ := hrel
    rcases Nat.lt_or_ge q k with hqk | hqk
    · have hlen3 : (truths (l ++ List.replicate q x)).length ≤ 140000 := by rw [truths_len]; simp; omega
      go_wp2_with (at_builtin; refine append_row elemT rfl (.tmp 10) (.tmp 12) rfl base rfl (hown3.alloc _) rfl (row_box _ _ _) (by intro u hu; simp at hu; subst hu; rfl) (by simp; omega) (by have := hbel3.size; simp; omega) ?_; intro v6 w6 hown6 hb6; have hbel6 : Below base w w6 := (hbel3.alloc (by have := hbel3.size; omega) _).trans hb6)
      go_roundw
      case rel => exact ⟨q + 1, by go_num, by omega, by rw [List.replicate_succ', ← List.append_assoc, truths_app]; exact hown6, hbel6⟩
      case measure => simp [intOf]; omega
    · obtain rfl : q = k := by omega
      go_wp2
      go_ret
      exact ⟨_, rfl, hown3, hbel3⟩
end Go.Proofs.YthpgfnhecfgiaaaGreatDoor

namespace Go.Proofs.YthpgfnhecfgiaaaGreatDoor
open Go.RowKit Go.Sort
set_option maxRecDepth 20000

set_option maxRecDepth 20000 in
set_option maxHeartbeats 2000000 in
theorem cTakeRuns_any (v : Value) (b : List Nat) (n : Nat) (l : List Int) (a e : Nat) (w : World) (hv : BytesAt w v b) (hn : n ≤ 65536) (ht : TakenR b n l a e) :
    Calls Tryz.prog 55 #[v, .int .i64 n] w (GivesI l a e w) := by
  have hlb : (b.length : Int) ≤ 9223372036854775807 := by have := hv.row.le; rwa [bvals_length] at this
  have hv := Lib.hid hv
  have ht := Lib.hid ht
  have c0 := hide (fun W => mayCount_yes n (by omega) (by omega) W)
  go_enter Tryz.func55, Tryz.ntmps55
  go_wp2_with (go_at_call 81; refine (c0.out _).mono ?_; rintro e' w1 ⟨rfl, rfl⟩)
  go_loopw [7, 8] (fun o' t wr => ∃ (o : Value) (m : List Int) (at' : Nat), o = o' ∧ t = .int .i64 at' ∧ at' ≤ b.length ∧ OwnRow wr w.heap.size 3 o (ints m) ∧ Hid (Read b n (runsL m) at') ∧ Below w.heap.size w wr) (fun o _ _ => n - lenV o)
  case atStart => exact ⟨_, [], 0, rfl, rfl, by omega, OwnRow.none_ _ _ _, Lib.hid (Read.start b n), Below.refl _ _⟩
  case round =>
    obtain ⟨o, m, at', rfl, rfl, hat, hown, hrd, hbel⟩ := hrel
    have hlo := fun W => hown.row.len elemI.ht (ty := 3) W
    have hlv := hown.row.lenV
    rw [ints_len] at hlo hlv
    have htot := hrd.out.tot
    rw [total_runs] at htot
    obtain ⟨T, hT⟩ : ∃ T, m.length = T := ⟨_, rfl⟩
    rw [hT] at hlo hlv htot
    have hT := Lib.hid hT
    rcases Nat.lt_or_ge T n with hlt | hge
    · obtain ⟨v1, hs1, hb1⟩ := hv.out.cut hat
      obtain ⟨k, i, e1, ht1⟩ := taken_any (b.drop at')
      obtain ⟨hk64, hi10, hil, he31⟩ := ht1.bounds
      rw [List.length_drop] at hil
      obtain ⟨x, j, f1, ht2⟩ := taken_any (b.drop (at' + i))
      obtain ⟨hx64, hj10, hjl, hf31⟩ := ht2.bounds
      rw [List.length_drop] at hjl
      obtain ⟨M, hM⟩ : ∃ M : Nat, (n : Int) - T = M := ⟨n - T, by omega⟩
      obtain ⟨X, hX⟩ : ∃ X, zagN x = X := ⟨_, rfl⟩
      have hlv := Lib.hid hlv
      -- how a round may go
      have HW : ((e1 = 31 ∨ e1 = 0 ∧ (k < 1 ∨ M < k)) ∧ Hid (l = [] ∧ a = 0 ∧ e = 41)) ∨
          (e1 = 0 ∧ 1 ≤ k ∧ k ≤ M ∧ f1 = 31 ∧ Hid (l = [] ∧ a = 0 ∧ e = 41)) ∨
          (e1 = 0 ∧ 1 ≤ k ∧ k ≤ M ∧ f1 = 0 ∧ Hid (m.getLast? = some X) ∧ Hid (l = [] ∧ a = 0 ∧ e = 41)) ∨
          (e1 = 0 ∧ 1 ≤ k ∧ k ≤ M ∧ f1 = 0 ∧ Hid (∀ y, m.getLast? = some y → y ≠ X) ∧ Hid (Read b n (runsL (m ++ List.replicate k X)) (at' + i + j))) := by
        have hno : (e1 = 31 ∨ (e1 = 0 ∧ f1 = 31) ∨ (e1 = 0 ∧ f1 = 0 ∧ n < T + k) ∨ (e1 = 0 ∧ f1 = 0 ∧ k = 0)) → Hid (l = [] ∧ a = 0 ∧ e = 41) := fun h =>
          Lib.hid (ht.out.none_ (hrd.out.stops (by rw [total_runs, hT.out]; exact hlt) hn ht1 ht2 (by rw [total_runs, hT.out]; exact h)))
        rcases ht1.ways with ⟨_, hp1, hi1, h1⟩ | h1
        · rcases ht2.ways with ⟨hx1, hp2, hj1, h2⟩ | h2
          · by_cases h3 : n < T + k
            · exact .inl ⟨.inr ⟨h1, by omega⟩, hno (.inr (.inr (.inl ⟨h1, h2, h3⟩)))⟩
            · by_cases h4 : k = 0
              · exact .inl ⟨.inr ⟨h1, by omega⟩, hno (.inr (.inr (.inr ⟨h1, h2, h4⟩)))⟩
              · subst hi1 hj1
                by_cases h5 : m.getLast? = some X
                · refine .inr (.inr (.inl ⟨h1, by omega, by omega, h2, Lib.hid h5, Lib.hid (ht.out.none_ ?_)⟩))
                  exact hrd.out.alike (by rw [hT.out]; exact hlt) (by rw [hX]; exact h5) hp1 hp2
                · refine .inr (.inr (.inr ⟨h1, by omega, by omega, h2, Lib.hid (fun y hy he => h5 (by rw [hy, he])), Lib.hid ?_⟩))
                  rw [← hX]
                  exact hrd.out.more (by omega) hx1 (by rw [hT.out]; omega) (fun y hy he => h5 (by rw [hy, he, hX])) hp1 hp2
          · by_cases h4 : 1 ≤ k ∧ k ≤ M
            · exact .inr (.inl ⟨h1, h4.1, h4.2, h2, hno (.inr (.inl ⟨h1, h2⟩))⟩)
            · exact .inl ⟨.inr ⟨h1, by omega⟩, hno (.inr (.inl ⟨h1, h2⟩))⟩
        · exact .inl ⟨.inl h1, hno (.inl h1)⟩
      have ht2' : Taken ((b.drop at').drop i) x j f1 := by rw [List.drop_drop]; exact ht2
      have hM3 : M ≤ 65536 := by omega
      -- the last one of what there is
      have HL : (T = 0 ∧ Hid (m.getLast? = none)) ∨ (0 < T ∧ ∃ ld y, (∀ W, (Instr.indexAt 55 o (.int .i64 ((T : Int) - 1))).run Tryz.prog W = .ok (.pointer (some ld)) W) ∧ wr.cell? ld = some (.int .i64 y) ∧ Hid (m.getLast? = some y)) := by
        rcases Nat.eq_zero_or_pos T with h | h
        · refine .inl ⟨h, Lib.hid ?_⟩
          have : m = [] := List.eq_nil_of_length_eq_zero (by rw [hT.out]; exact h)
          rw [this]; rfl
        · have hi : T - 1 < m.length := by rw [hT.out]; omega
          obtain ⟨ld, h1, h2, _⟩ := IntsAt.index (l := m) hown.row hi
          refine .inr ⟨h, ld, m.getD (T - 1) 0, ?_, h2, Lib.hid ?_⟩
          · rw [show ((T - 1 : Nat) : Int) = (T : Int) - 1 by omega] at h1; exact h1
          · rw [List.getLast?_eq_getElem?, hT.out]
            simp [List.getD, List.getElem?_eq_getElem hi]
      rcases HW with ⟨h1, H⟩ | ⟨rfl, h1, h2, rfl, H⟩ | ⟨rfl, h1, h2, rfl, h3, H⟩ | ⟨rfl, h1, h2, rfl, h3, H⟩
      · obtain ⟨rfl, rfl, rfl⟩ := H.out
        have c1 := hide (takeRun_no M (hb1.below hbel) ht1 h1 hM3)
        clear ht1 ht2 ht2' hb1 h1 HL
        go_wp2_with (go_at_call 84; refine c1.out.mono ?_; rintro e' w1 ⟨rfl, rfl⟩)
        go_ret3
        exact GivesI.nil hbel
      · obtain ⟨rfl, rfl, rfl⟩ := H.out
        have c1 := hide (takeRun_yes M (hb1.below hbel) ht1 h1 h2 hM3 ht2' hX)
        clear ht1 ht2 ht2' hb1 hX HL
        go_wp2_with (go_at_call 84; refine c1.out.mono ?_; rintro e' w1 ⟨rfl, rfl⟩)
        go_ret3
        exact GivesI.nil hbel
      · obtain ⟨rfl, rfl, rfl⟩ := H.out
        have c1 := hide (takeRun_yes M (hb1.below hbel) ht1 h1 h2 hM3 ht2' hX)
        clear ht1 ht2 ht2' hb1 hX
        rcases HL with ⟨_, hl0⟩ | ⟨hT0, ld, y, hix, hcy, hl0⟩
        · have := h3.out
          rw [hl0.out] at this
          cases this
        · have hyX : y = X := by
            have := hl0.out.symm.trans h3.out
            injection this
          subst hyX
          go_wp2_with (go_at_call 84; refine c1.out.mono ?_; rintro e' w1 ⟨rfl, rfl⟩)
          go_ret3
          exact GivesI.nil hbel
      · have c1 := hide (takeRun_yes M (hb1.below hbel) ht1 h1 h2 hM3 ht2' hX)
        have c2 := hide (growI_any w.heap.size o m X k wr hown hbel.size (by rw [hT.out]; omega) (by omega))
        clear ht1 ht2 ht2' hb1 hX
        have hat2 := H.out.le
        rcases HL with ⟨hT0, hl0⟩ | ⟨hT0, ld, y, hix, hcy, hl0⟩
        · have hq : decide (0 < T) = false := decide_eq_false (by omega)
          clear hT0
          go_wp2_with (first
            | (go_at_call 84; refine c1.out.mono ?_; rintro e' w1 ⟨rfl, rfl⟩)
            | (go_at_call 85; refine c2.out.mono ?_; rintro e' w2 ⟨v2, rfl, hown2, hb2⟩))
          have hlv4 := hown2.row.lenV
          rw [ints_len, List.length_append, List.length_replicate, hT.out] at hlv4
          go_roundw
          case rel => exact ⟨v2, _, at' + i + j, rfl, by go_num, hat2, hown2, H, hbel.trans hb2⟩
          case measure => rw [hlv4, hlv.out]; omega
        · have hyX : y ≠ X := h3.out y hl0.out
          have hq : (y == X) = false := beq_false_of_ne hyX
          clear hyX
          go_wp2_with (first
            | (go_at_call 84; refine c1.out.mono ?_; rintro e' w1 ⟨rfl, rfl⟩)
            | (go_at_call 85; refine c2.out.mono ?_; rintro e' w2 ⟨v2, rfl, hown2, hb2⟩))
          have hlv4 := hown2.row.lenV
          rw [ints_len, List.length_append, List.length_replicate, hT.out] at hlv4
          go_roundw
          case rel => exact ⟨v2, _, at' + i + j, rfl, by go_num, hat2, hown2, H, hbel.trans hb2⟩
          case measure => rw [hlv4, hlv.out]; omega
    · obtain ⟨hl1, rfl, rfl⟩ := hrd.out.runsEnd (by rw [hT.out]; omega) ht.out
      have hl1 := Lib.hid hl1
      go_wp2
      go_ret3
      exact ⟨_, rfl, by rw [hl1.out]; exact hown, hbel⟩
end Go.Proofs.YthpgfnhecfgiaaaGreatDoor

namespace Go.Proofs.YthpgfnhecfgiaaaGreatDoor
open Go.RowKit Go.Sort
set_option maxRecDepth 20000

set_option maxRecDepth 20000 in
set_option maxHeartbeats 1000000 in
theorem cTakeRuns_arg (v : Value) (n : Int) (w : World) (hn : n < 0 ∨ 65536 < n) : Calls Tryz.prog 55 #[v, .int .i64 n] w (GivesI [] 0 1 w) := by
  have c0 := hide (mayCount_no n hn w)
  clear hn
  go_enter Tryz.func55, Tryz.ntmps55
  go_wp2_with (go_at_call 81; refine c0.out.mono ?_; rintro e' w1 ⟨rfl, rfl⟩)
  go_ret3
  exact GivesI.nil (Below.refl _ _)

theorem cTakeRuns_given {v : Value} {b : List Nat} {n : Int} {l : List Int} {a e : Nat} {w : World} (hv : BytesAt w v b) (h : GivenR b n l a e) :
    Calls Tryz.prog 55 #[v, .int .i64 n] w (GivesI l a e w) := by
  rcases h with ⟨h1, rfl, rfl, rfl⟩ | ⟨⟨h1, h2⟩, h3⟩
  · exact cTakeRuns_arg v n w h1
  · obtain ⟨m, rfl⟩ : ∃ m : Nat, n = m := ⟨n.toNat, by omega⟩
    exact cTakeRuns_any v b m l a e w hv (by omega) (by simpa using h3)

/-- i sums are put, p is the last one. -/
structure SumAt (d : List Int) (i : Nat) (p : Int) (s : List Int) : Prop where
  made : s = sumL 0 (d.take i) ++ d.drop i
  prev : p = (sumL 0 (d.take i)).getLast?.getD 0
theorem SumAt.start (d : List Int) : SumAt d 0 0 d := ⟨by simp [sumL], by simp [sumL]⟩
theorem SumAt.next {d : List Int} {i : Nat} {p x : Int} {s : List Int} (h : SumAt d i p s) (hi : i < d.length) (hx : d.getD i 0 = x) : SumAt d (i + 1) (w64 (p + x)) (s.set i (w64 (p + x))) := by
  have e : d.take (i + 1) = d.take i ++ [x] := by
    rw [List.take_add_one, List.getElem?_eq_getElem hi]
    simp only [List.getD, List.getElem?_eq_getElem hi, Option.getD_some] at hx
    simp [hx]
  have hlen : (sumL 0 (d.take i)).length = i := by rw [sum_len, List.length_take]; omega
  refine ⟨?_, by rw [e, sum_snoc, ← h.prev]; simp⟩
  rw [h.made, e, sum_snoc, ← h.prev, List.drop_eq_getElem_cons hi]
  have := set_mid (sumL 0 (d.take i)) d[i] (w64 (p + x)) (d.drop (i + 1))
  rw [hlen] at this
  exact this
theorem SumAt.at_ {d : List Int} {i : Nat} {p x : Int} {s : List Int} (h : SumAt d i p s) (hi : i < d.length) (hx : d.getD i 0 = x) : i < s.length ∧ (ints s)[i]? = some (.int .i64 x) := by
  have hlen : (sumL 0 (d.take i)).length = i := by rw [sum_len, List.length_take]; omega
  have hl : s.length = d.length := by rw [h.made, List.length_append, hlen, List.length_drop]; omega
  refine ⟨by omega, ?_⟩
  simp only [List.getD, List.getElem?_eq_getElem hi, Option.getD_some] at hx
  simp [ints, h.made, List.getElem?_append_right, hlen, hi, hx]
theorem SumAt.done {d : List Int} {i : Nat} {p : Int} {s : List Int} (h : SumAt d i p s) (hi : d.length ≤ i) : s = sumL 0 d := by
  rw [h.made, List.take_of_length_le hi, List.drop_eq_nil_of_le hi]; simp

set_option maxRecDepth 20000 in
set_option maxHeartbeats 2000000 in
theorem cTakeDeltas_given {v : Value} {b : List Nat} {n : Int} {d : List Int} {a e : Nat} {w : World} (hv : BytesAt w v b) (h : GivenR b n d a e) :
    Calls Tryz.prog 80 #[v, .int .i64 n] w (GivesI (sumL 0 d) a e w) := by
  have c1 := hide (cTakeRuns_given hv h)
  have hdl := h.len.1
  clear h
  go_enter Tryz.func80, Tryz.ntmps80
  go_wp2_with (go_at_call 55; refine c1.out.mono ?_; rintro e' w1 ⟨v1, rfl, hown1, hb1⟩; have hd1 := Lib.hid (show IntsAt w1 v1 d from hown1.row); have hlv := fun W => hd1.out.len (ty := 3) W)
  go_loopw [10, 22] (fun o t wr => ∃ (i : Nat) (p : Int) (s : List Int), t = .int .i64 i ∧ o = .int .i64 p ∧ i ≤ d.length ∧ OwnRow wr w.heap.size 3 v1 (ints s) ∧ Hid (SumAt d i p s) ∧ Below w.heap.size w wr) (fun _ t _ => d.length - (intOf t).toNat)
  case atStart => exact ⟨0, 0, d, rfl, rfl, by omega, hown1, Lib.hid (SumAt.start d), hb1⟩
  case round =>
    obtain ⟨i, p, s, rfl, rfl, hi, hown, hso, hbel⟩ := hrel
    rcases Nat.lt_or_ge i d.length with hil | hil
    · obtain ⟨x, hx⟩ : ∃ x, d.getD i 0 = x := ⟨_, rfl⟩
      obtain ⟨hs1, hs2⟩ := hso.out.at_ hil hx
      obtain ⟨bd, hb, hbc, hbf, hbl, hbh, hset⟩ := hown.store elemI.ht elemI.hs (k := i) (by rw [ints_len]; exact hs1)
      rw [hs2] at hbc
      obtain ⟨D, hD⟩ : ∃ D, w64 (p + x) = D := ⟨_, rfl⟩
      have hsw : IntKind.i64.wrap (p + x) = D := by rw [add_w64, hD]
      have hnext := Lib.hid (hso.out.next hil hx)
      obtain ⟨hown2, hbel2⟩ := hset (.int .i64 D)
      rw [ints_set] at hown2
      rw [hD] at hnext
      have hbel3 := hbel.trans hbel2
      clear hx hD hset hs2
      go_wp2
      go_roundw
      case rel => exact ⟨i + 1, D, s.set i D, by go_num, rfl, by omega, hown2, hnext, hbel3⟩
      case measure => simp [intOf]; omega
    · have hd2 : Hid (s = sumL 0 d) := Lib.hid (hso.out.done hil)
      go_wp2
      go_ret3
      exact ⟨_, rfl, by rw [← hd2.out]; exact hown, hbel⟩

set_option maxRecDepth 20000 in
set_option maxHeartbeats 1000000 in
theorem cTakeBools_arg (v : Value) (n : Int) (w : World) (hn : n < 0 ∨ 65536 < n) : Calls Tryz.prog 54 #[v, .int .i64 n] w (GivesT [] 0 1 w) := by
  have c0 := hide (mayCount_no n hn w)
  clear hn
  go_enter Tryz.func54, Tryz.ntmps54
  go_wp2_with (go_at_call 81; refine c0.out.mono ?_; rintro e' w1 ⟨rfl, rfl⟩)
  go_ret3
  exact GivesT.nil (Below.refl _ _)

set_option maxRecDepth 20000 in
set_option maxHeartbeats 2000000 in
theorem cTakeBools_any (v : Value) (b : List Nat) (n : Nat) (l : List Bool) (a e : Nat) (w : World) (hv : BytesAt w v b) (hn : n ≤ 65536) (ht : TakenB b n l a e) :
    Calls Tryz.prog 54 #[v, .int .i64 n] w (GivesT l a e w) := by
  have hlb : (b.length : Int) ≤ 9223372036854775807 := by have := hv.row.le; rwa [bvals_length] at this
  have hv := Lib.hid hv
  have ht := Lib.hid ht
  have c0 := hide (fun W => mayCount_yes n (by omega) (by omega) W)
  go_enter Tryz.func54, Tryz.ntmps54
  go_wp2_with (go_at_call 81; refine (c0.out _).mono ?_; rintro e' w1 ⟨rfl, rfl⟩)
  go_loopw [7, 8, 9, 10] (fun o' t z y wr => ∃ (o : Value) (c : List Nat) (at' Z : Nat) (x : Bool), o = o' ∧ t = .int .i64 at' ∧ z = .int .i64 Z ∧ y = .bool x ∧ at' ≤ b.length ∧ OwnRow wr w.heap.size 4 o (truths (flatB false c)) ∧ Hid (ReadB b n c at') ∧ Hid (x = turnB false c) ∧ Hid (Z = 0 ∧ at' = 0 ∨ Z = 1 ∧ 0 < at') ∧ Below w.heap.size w wr) (fun o _ z _ _ => 2 * (n - lenV o) + zeroI z)
  case atStart => exact ⟨_, [], 0, 0, false, rfl, rfl, rfl, rfl, by omega, OwnRow.none_ _ _ _, Lib.hid (ReadB.start b n), Lib.hid rfl, Lib.hid (.inl ⟨rfl, rfl⟩), Below.refl _ _⟩
  case round =>
    obtain ⟨o, c, at', Z, x, rfl, rfl, rfl, rfl, hat, hown, hrd, hx, hZ, hbel⟩ := hrel
    have hlo := fun W => hown.row.len elemT.ht (ty := 3) W
    have hlv := hown.row.lenV
    rw [truths_len, flatB_len] at hlo hlv
    have htot := hrd.out.tot
    obtain ⟨T, hT⟩ : ∃ T, totB c = T := ⟨_, rfl⟩
    rw [hT] at hlo hlv htot
    have hT := Lib.hid hT
    rcases Nat.lt_or_ge T n with hlt | hge
    · obtain ⟨v1, hs1, hb1⟩ := hv.out.cut hat
      obtain ⟨k, i, e1, ht1⟩ := taken_any (b.drop at')
      obtain ⟨hk64, hi10, hil, he31⟩ := ht1.bounds
      rw [List.length_drop] at hil
      obtain ⟨M, hM⟩ : ∃ M : Nat, (n : Int) - T = M := ⟨n - T, by omega⟩
      have hlv := Lib.hid hlv
      have hZ1 : Z ≤ 1 := by rcases hZ.out with ⟨h, _⟩ | ⟨h, _⟩ <;> omega
      have hM3 : M ≤ 65536 := by omega
      have HW : ((e1 = 31 ∨ e1 = 0 ∧ (k < Z ∨ M < k)) ∧ Hid (l = [] ∧ a = 0 ∧ e = 41)) ∨ (e1 = 0 ∧ Z ≤ k ∧ k ≤ M ∧ 1 ≤ i ∧ Hid (ReadB b n (c ++ [k]) (at' + i))) := by
        have hno : (e1 = 31 ∨ (e1 = 0 ∧ n < T + k) ∨ (e1 = 0 ∧ k = 0 ∧ 0 < at')) → Hid (l = [] ∧ a = 0 ∧ e = 41) := fun h =>
          Lib.hid (ht.out.none_ (hrd.out.stops (by rw [hT.out]; exact hlt) hn ht1 (by rw [hT.out]; exact h)))
        have hz := hZ.out
        rcases ht1.ways with ⟨_, hp1, hi1, h1⟩ | h1
        · by_cases h3 : n < T + k
          · exact .inl ⟨.inr ⟨h1, by omega⟩, hno (.inr (.inl ⟨h1, h3⟩))⟩
          · by_cases h4 : k = 0 ∧ 0 < at'
            · exact .inl ⟨.inr ⟨h1, by omega⟩, hno (.inr (.inr ⟨h1, h4.1, h4.2⟩))⟩
            · refine .inr ⟨h1, by omega, by omega, by rw [hi1]; exact putL_pos k, Lib.hid ?_⟩
              subst hi1
              exact hrd.out.step (by omega) (by omega) (by rw [hT.out]; omega) hp1
        · exact .inl ⟨.inl h1, hno (.inl h1)⟩
      rcases HW with ⟨h1, H⟩ | ⟨rfl, h1, h2, hi1, H⟩
      · obtain ⟨rfl, rfl, rfl⟩ := H.out
        have c1 := hide (takeCount_no Z M (hb1.below hbel) ht1 h1 hZ1 hM3)
        clear ht1 hb1 h1
        go_wp2_with (go_at_call 82; refine c1.out.mono ?_; rintro e' w1 ⟨rfl, rfl⟩)
        go_ret3
        exact GivesT.nil hbel
      · have c1 := hide (takeCount_yes Z M (hb1.below hbel) ht1 h1 h2 hM3)
        have c2 := hide (growT_any w.heap.size o (flatB false c) x k wr hown hbel.size (by rw [flatB_len, hT.out]; omega) (by omega))
        have hat2 := H.out.le
        have hfl : flatB false (c ++ [k]) = flatB false c ++ List.replicate k x := by rw [flatB_snoc, hx.out]
        have hxn : Hid ((!x) = turnB false (c ++ [k])) := Lib.hid (by rw [turn_snoc, hx.out])
        have hfl := Lib.hid hfl
        have hzk : Hid (zeroI (.int .i64 (Z : Int)) = 0 → 1 ≤ k) := Lib.hid (fun h => by
          rcases hZ.out with ⟨h', _⟩ | ⟨h', _⟩
          · subst h'; cases h
          · omega)
        clear ht1 hb1
        go_wp2_with (first
          | (go_at_call 82; refine c1.out.mono ?_; rintro e' w1 ⟨rfl, rfl⟩)
          | (go_at_call 83; refine c2.out.mono ?_; rintro e' w2 ⟨v2, rfl, hown2, hb2⟩))
        have hlv4 := hown2.row.lenV
        rw [truths_len, List.length_append, List.length_replicate, flatB_len, hT.out] at hlv4
        go_roundw
        case rel => exact ⟨v2, c ++ [k], at' + i, 1, _, rfl, by go_num, by go_num, rfl, hat2, by rw [hfl.out]; exact hown2, H, hxn, Lib.hid (.inr ⟨rfl, by omega⟩), hbel.trans hb2⟩
        case measure =>
          have hz1 : zeroI (.int .i64 1) = 0 := zeroI_pos (by omega)
          rw [hlv4, hlv.out, hz1]
          have hz2 := hzk.out
          have hz3 : zeroI (.int .i64 (Z : Int)) = 0 ∨ zeroI (.int .i64 (Z : Int)) = 1 := by unfold zeroI; split <;> simp
          omega
    · obtain ⟨hl1, rfl, rfl⟩ := hrd.out.runsEnd (by rw [hT.out]; omega) ht.out
      have hl1 := Lib.hid hl1
      go_wp2
      go_ret3
      exact ⟨_, rfl, by rw [hl1.out]; exact hown, hbel⟩

theorem cTakeBools_given {v : Value} {b : List Nat} {n : Int} {l : List Bool} {a e : Nat} {w : World} (hv : BytesAt w v b) (h : GivenB b n l a e) :
    Calls Tryz.prog 54 #[v, .int .i64 n] w (GivesT l a e w) := by
  rcases h with ⟨h1, rfl, rfl, rfl⟩ | ⟨⟨h1, h2⟩, h3⟩
  · exact cTakeBools_arg v n w h1
  · obtain ⟨m, rfl⟩ : ∃ m : Nat, n = m := ⟨n.toNat, by omega⟩
    exact cTakeBools_any v b m l a e w hv (by omega) (by simpa using h3)
end Go.Proofs.YthpgfnhecfgiaaaGreatDoor
