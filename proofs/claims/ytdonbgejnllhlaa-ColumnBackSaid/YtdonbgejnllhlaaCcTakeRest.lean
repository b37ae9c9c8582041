/-
  TakeDeltas and TakeBools, the code's own.
-/
import Derived.Test.YtdonbgejnllhlaaCcTakeRuns
import Derived.Test.YtdonbgejnllhlaaCcDeltas
namespace Go.Proofs.Ytdonbgejnllhlaa
open Go.RowKit Go.Sort

set_option maxRecDepth 20000 in
set_option maxHeartbeats 1000000 in
theorem cTakeRuns_arg (v : Value) (n : Int) (w : World) (hn : n < 0 ∨ 65536 < n) : Calls Try.prog 18 #[v, .int .i64 n] w (GivesI [] 0 1 w) := by
  have c0 := hide (mayCount_no n hn w)
  clear hn
  go_enter Try.func18, Try.ntmps18
  go_wp2_with (go_at_call 31; refine c0.out.mono ?_; rintro e' w1 ⟨rfl, rfl⟩)
  go_ret3
  exact GivesI.nil (Below.refl _ _)

theorem cTakeRuns_given {v : Value} {b : List Nat} {n : Int} {l : List Int} {a e : Nat} {w : World} (hv : BytesAt w v b) (h : GivenR b n l a e) :
    Calls Try.prog 18 #[v, .int .i64 n] w (GivesI l a e w) := by
  rcases h with ⟨h1, rfl, rfl, rfl⟩ | ⟨⟨h1, h2⟩, h3⟩
  · exact cTakeRuns_arg v n w h1
  · obtain ⟨m, rfl⟩ : ∃ m : Nat, n = m := ⟨n.toNat, by omega⟩
    exact cTakeRuns_any v b m l a e w hv (by omega) (by simpa using h3)

/-- i sums are put, p is the last one. -/
structure SumAt (d : List Int) (i : Nat) (p : Int) (s : List Int) : Prop where
  made : s = sumL 0 (d.take i) ++ d.drop i
  prev : p = (sumL 0 (d.take i)).getLast?.getD 0
theorem SumAt.start (d : List Int) : SumAt d 0 0 d := ⟨by simp [sumL], by simp [sumL]⟩
theorem SumAt.next {d : List Int} {i : Nat} {p x : Int} {s : List Int} (h : SumAt d i p s) (hi : i < d.length) (hx : d.getD i 0 = x) : SumAt d (i + 1) (w64 (p + x)) (s.set i (w64 (p + x))) := by
  have e : d.take (i + 1) = d.take i ++ [x] := by
    rw [List.take_add_one, List.getElem?_eq_getElem hi]
    simp only [List.getD, List.getElem?_eq_getElem hi, Option.getD_some] at hx
    simp [hx]
  have hlen : (sumL 0 (d.take i)).length = i := by rw [sum_len, List.length_take]; omega
  refine ⟨?_, by rw [e, sum_snoc, ← h.prev]; simp⟩
  rw [h.made, e, sum_snoc, ← h.prev, List.drop_eq_getElem_cons hi]
  have := set_mid (sumL 0 (d.take i)) d[i] (w64 (p + x)) (d.drop (i + 1))
  rw [hlen] at this
  exact this
theorem SumAt.at_ {d : List Int} {i : Nat} {p x : Int} {s : List Int} (h : SumAt d i p s) (hi : i < d.length) (hx : d.getD i 0 = x) : i < s.length ∧ (ints s)[i]? = some (.int .i64 x) := by
  have hlen : (sumL 0 (d.take i)).length = i := by rw [sum_len, List.length_take]; omega
  have hl : s.length = d.length := by rw [h.made, List.length_append, hlen, List.length_drop]; omega
  refine ⟨by omega, ?_⟩
  simp only [List.getD, List.getElem?_eq_getElem hi, Option.getD_some] at hx
  simp [ints, h.made, List.getElem?_append_right, hlen, hi, hx]
theorem SumAt.done {d : List Int} {i : Nat} {p : Int} {s : List Int} (h : SumAt d i p s) (hi : d.length ≤ i) : s = sumL 0 d := by
  rw [h.made, List.take_of_length_le hi, List.drop_eq_nil_of_le hi]; simp

set_option maxRecDepth 20000 in
set_option maxHeartbeats 2000000 in
theorem cTakeDeltas_given {v : Value} {b : List Nat} {n : Int} {d : List Int} {a e : Nat} {w : World} (hv : BytesAt w v b) (h : GivenR b n d a e) :
    Calls Try.prog 20 #[v, .int .i64 n] w (GivesI (sumL 0 d) a e w) := by
  have c1 := hide (cTakeRuns_given hv h)
  have hdl := h.len.1
  clear h
  go_enter Try.func20, Try.ntmps20
  go_wp2_with (go_at_call 18; refine c1.out.mono ?_; rintro e' w1 ⟨v1, rfl, hown1, hb1⟩; have hd1 := Lib.hid (show IntsAt w1 v1 d from hown1.row); have hlv := fun W => hd1.out.len (ty := 3) W)
  go_loopw [10, 22] (fun o t wr => ∃ (i : Nat) (p : Int) (s : List Int), t = .int .i64 i ∧ o = .int .i64 p ∧ i ≤ d.length ∧ OwnRow wr w.heap.size 3 v1 (ints s) ∧ Hid (SumAt d i p s) ∧ Below w.heap.size w wr) (fun _ t _ => d.length - (intOf t).toNat)
  case atStart => exact ⟨0, 0, d, rfl, rfl, by omega, hown1, Lib.hid (SumAt.start d), hb1⟩
  case round =>
    obtain ⟨i, p, s, rfl, rfl, hi, hown, hso, hbel⟩ := hrel
    rcases Nat.lt_or_ge i d.length with hil | hil
    · obtain ⟨x, hx⟩ : ∃ x, d.getD i 0 = x := ⟨_, rfl⟩
      obtain ⟨hs1, hs2⟩ := hso.out.at_ hil hx
      obtain ⟨bd, hb, hbc, hbf, hbl, hbh, hset⟩ := hown.store elemI (k := i) (by rw [ints_len]; exact hs1)
      rw [hs2] at hbc
      obtain ⟨D, hD⟩ : ∃ D, w64 (p + x) = D := ⟨_, rfl⟩
      have hsw : IntKind.i64.wrap (p + x) = D := by rw [add_w64, hD]
      have hnext := Lib.hid (hso.out.next hil hx)
      obtain ⟨hown2, hbel2⟩ := hset (.int .i64 D)
      rw [ints_set] at hown2
      rw [hD] at hnext
      have hbel3 := hbel.trans hbel2
      clear hx hD hset hs2
      go_wp2
      go_roundw
      case rel => exact ⟨i + 1, D, s.set i D, by go_num, rfl, by omega, hown2, hnext, hbel3⟩
      case measure => simp [intOf]; omega
    · have hd2 : Hid (s = sumL 0 d) := Lib.hid (hso.out.done hil)
      go_wp2
      go_ret3
      exact ⟨_, rfl, by rw [← hd2.out]; exact hown, hbel⟩

set_option maxRecDepth 20000 in
set_option maxHeartbeats 1000000 in
theorem cTakeBools_arg (v : Value) (n : Int) (w : World) (hn : n < 0 ∨ 65536 < n) : Calls Try.prog 22 #[v, .int .i64 n] w (GivesT [] 0 1 w) := by
  have c0 := hide (mayCount_no n hn w)
  clear hn
  go_enter Try.func22, Try.ntmps22
  go_wp2_with (go_at_call 31; refine c0.out.mono ?_; rintro e' w1 ⟨rfl, rfl⟩)
  go_ret3
  exact GivesT.nil (Below.refl _ _)

set_option maxRecDepth 20000 in
set_option maxHeartbeats 2000000 in
theorem cTakeBools_any (v : Value) (b : List Nat) (n : Nat) (l : List Bool) (a e : Nat) (w : World) (hv : BytesAt w v b) (hn : n ≤ 65536) (ht : TakenB b n l a e) :
    Calls Try.prog 22 #[v, .int .i64 n] w (GivesT l a e w) := by
  have hlb : (b.length : Int) ≤ 9223372036854775807 := by have := hv.row.le; rwa [bvals_length] at this
  have hv := Lib.hid hv
  have ht := Lib.hid ht
  have c0 := hide (fun W => mayCount_yes n (by omega) (by omega) W)
  go_enter Try.func22, Try.ntmps22
  go_wp2_with (go_at_call 31; refine (c0.out _).mono ?_; rintro e' w1 ⟨rfl, rfl⟩)
  go_loopw [7, 8, 9, 10] (fun o' t z y wr => ∃ (o : Value) (c : List Nat) (at' Z : Nat) (x : Bool), o = o' ∧ t = .int .i64 at' ∧ z = .int .i64 Z ∧ y = .bool x ∧ at' ≤ b.length ∧ OwnRow wr w.heap.size 4 o (truths (flatB false c)) ∧ Hid (ReadB b n c at') ∧ Hid (x = turnB false c) ∧ Hid (Z = 0 ∧ at' = 0 ∨ Z = 1 ∧ 0 < at') ∧ Below w.heap.size w wr) (fun o _ z _ _ => 2 * (n - lenV o) + zeroI z)
  case atStart => exact ⟨_, [], 0, 0, false, rfl, rfl, rfl, rfl, by omega, OwnRow.none_ _ _ _, Lib.hid (ReadB.start b n), Lib.hid rfl, Lib.hid (.inl ⟨rfl, rfl⟩), Below.refl _ _⟩
  case round =>
    obtain ⟨o, c, at', Z, x, rfl, rfl, rfl, rfl, hat, hown, hrd, hx, hZ, hbel⟩ := hrel
    have hlo := fun W => hown.row.len elemT.ht (ty := 3) W
    have hlv := hown.row.lenV
    rw [truths_len, flatB_len] at hlo hlv
    have htot := hrd.out.tot
    obtain ⟨T, hT⟩ : ∃ T, totB c = T := ⟨_, rfl⟩
    rw [hT] at hlo hlv htot
    have hT := Lib.hid hT
    rcases Nat.lt_or_ge T n with hlt | hge
    · obtain ⟨v1, hs1, hb1⟩ := hv.out.cut hat
      obtain ⟨k, i, e1, ht1⟩ := taken_any (b.drop at')
      obtain ⟨hk64, hi10, hil, he31⟩ := ht1.bounds
      rw [List.length_drop] at hil
      obtain ⟨M, hM⟩ : ∃ M : Nat, (n : Int) - T = M := ⟨n - T, by omega⟩
      have hlv := Lib.hid hlv
      have hZ1 : Z ≤ 1 := by rcases hZ.out with ⟨h, _⟩ | ⟨h, _⟩ <;> omega
      have hM3 : M ≤ 65536 := by omega
      have HW : ((e1 = 31 ∨ e1 = 0 ∧ (k < Z ∨ M < k)) ∧ Hid (l = [] ∧ a = 0 ∧ e = 41)) ∨ (e1 = 0 ∧ Z ≤ k ∧ k ≤ M ∧ 1 ≤ i ∧ Hid (ReadB b n (c ++ [k]) (at' + i))) := by
        have hno : (e1 = 31 ∨ (e1 = 0 ∧ n < T + k) ∨ (e1 = 0 ∧ k = 0 ∧ 0 < at')) → Hid (l = [] ∧ a = 0 ∧ e = 41) := fun h =>
          Lib.hid (ht.out.none_ (hrd.out.stops (by rw [hT.out]; exact hlt) hn ht1 (by rw [hT.out]; exact h)))
        have hz := hZ.out
        rcases ht1.ways with ⟨_, hp1, hi1, h1⟩ | h1
        · by_cases h3 : n < T + k
          · exact .inl ⟨.inr ⟨h1, by omega⟩, hno (.inr (.inl ⟨h1, h3⟩))⟩
          · by_cases h4 : k = 0 ∧ 0 < at'
            · exact .inl ⟨.inr ⟨h1, by omega⟩, hno (.inr (.inr ⟨h1, h4.1, h4.2⟩))⟩
            · refine .inr ⟨h1, by omega, by omega, by rw [hi1]; exact putL_pos k, Lib.hid ?_⟩
              subst hi1
              exact hrd.out.step (by omega) (by omega) (by rw [hT.out]; omega) hp1
        · exact .inl ⟨.inl h1, hno (.inl h1)⟩
      rcases HW with ⟨h1, H⟩ | ⟨rfl, h1, h2, hi1, H⟩
      · obtain ⟨rfl, rfl, rfl⟩ := H.out
        have c1 := hide (takeCount_no Z M (hb1.below hbel) ht1 h1 hZ1 hM3)
        clear ht1 hb1 h1
        go_wp2_with (go_at_call 36; refine c1.out.mono ?_; rintro e' w1 ⟨rfl, rfl⟩)
        go_ret3
        exact GivesT.nil hbel
      · have c1 := hide (takeCount_yes Z M (hb1.below hbel) ht1 h1 h2 hM3)
        have c2 := hide (growT_any w.heap.size o (flatB false c) x k wr hown hbel.size (by rw [flatB_len, hT.out]; omega) (by omega))
        have hat2 := H.out.le
        have hfl : flatB false (c ++ [k]) = flatB false c ++ List.replicate k x := by rw [flatB_snoc, hx.out]
        have hxn : Hid ((!x) = turnB false (c ++ [k])) := Lib.hid (by rw [turn_snoc, hx.out])
        have hfl := Lib.hid hfl
        have hzk : Hid (zeroI (.int .i64 (Z : Int)) = 0 → 1 ≤ k) := Lib.hid (fun h => by
          rcases hZ.out with ⟨h', _⟩ | ⟨h', _⟩
          · subst h'; cases h
          · omega)
        clear ht1 hb1
        go_wp2_with (first
          | (go_at_call 36; refine c1.out.mono ?_; rintro e' w1 ⟨rfl, rfl⟩)
          | (go_at_call 37; refine c2.out.mono ?_; rintro e' w2 ⟨v2, rfl, hown2, hb2⟩))
        have hlv4 := hown2.row.lenV
        rw [truths_len, List.length_append, List.length_replicate, flatB_len, hT.out] at hlv4
        go_roundw
        case rel => exact ⟨v2, c ++ [k], at' + i, 1, _, rfl, by go_num, by go_num, rfl, hat2, by rw [hfl.out]; exact hown2, H, hxn, Lib.hid (.inr ⟨rfl, by omega⟩), hbel.trans hb2⟩
        case measure =>
          have hz1 : zeroI (.int .i64 1) = 0 := zeroI_pos (by omega)
          rw [hlv4, hlv.out, hz1]
          have hz2 := hzk.out
          have hz3 : zeroI (.int .i64 (Z : Int)) = 0 ∨ zeroI (.int .i64 (Z : Int)) = 1 := by unfold zeroI; split <;> simp
          omega
    · obtain ⟨hl1, rfl, rfl⟩ := hrd.out.runsEnd (by rw [hT.out]; omega) ht.out
      have hl1 := Lib.hid hl1
      go_wp2
      go_ret3
      exact ⟨_, rfl, by rw [hl1.out]; exact hown, hbel⟩

theorem cTakeBools_given {v : Value} {b : List Nat} {n : Int} {l : List Bool} {a e : Nat} {w : World} (hv : BytesAt w v b) (h : GivenB b n l a e) :
    Calls Try.prog 22 #[v, .int .i64 n] w (GivesT l a e w) := by
  rcases h with ⟨h1, rfl, rfl, rfl⟩ | ⟨⟨h1, h2⟩, h3⟩
  · exact cTakeBools_arg v n w h1
  · obtain ⟨m, rfl⟩ : ∃ m : Nat, n = m := ⟨n.toNat, by omega⟩
    exact cTakeBools_any v b m l a e w hv (by omega) (by simpa using h3)
end Go.Proofs.Ytdonbgejnllhlaa
