/-
  TakeBools, the document's own answer.
-/
import Derived.Test.YtdonbgejnllhlaaCoBools
import Derived.Test.YtdonbgejnllhlaaCoTakeRuns
namespace Go.Proofs.Ytdonbgejnllhlaa
open Go.RowKit Go.Sort

theorem encB_byte : ∀ c : List Nat, ∀ x ∈ encB c, x < 256
  | [], x, h => by simp [encB] at h
  | k :: r, x, h => by
    rw [encB] at h
    rcases List.mem_append.1 h with h | h
    · exact putL_byte _ x h
    · exact encB_byte r x h
theorem bytesB_byte (l : List Bool) : ∀ x ∈ bytesB l, x < 256 := encB_byte _

/-- What a taker of truths hands back. -/
def GivesT (l : List Bool) (a e : Nat) (w : World) : Ending → World → Prop :=
  fun e' w' => ∃ v', e' = .returned (.tuple #[v', .int .i64 a, .int .i64 e]) ∧ OwnRow w' w.heap.size 4 v' (truths l) ∧ Below w.heap.size w w'

theorem GivesT.nil {w w' : World} {a e : Nat} (hb : Below w.heap.size w w') : GivesT [] a e w (.returned (.tuple #[.slice none 0 0, .int .i64 a, .int .i64 e])) w' :=
  ⟨_, rfl, OwnRow.none_ _ _ _, hb⟩

set_option maxRecDepth 20000 in
set_option maxHeartbeats 1000000 in
theorem refTakeBools_arg (v : Value) (n : Int) (w : World) (hn : n < 0 ∨ 65536 < n) :
    Calls Try.prog 23 #[v, .int .i64 n] w (GivesT [] 0 1 w) := by
  rcases hn with h | h
  · go_enter Try.func23, Try.ntmps23
    go_wp2
    go_ret3
    exact GivesT.nil (Below.refl _ _)
  · go_enter Try.func23, Try.ntmps23
    go_wp2
    go_ret3
    exact GivesT.nil (Below.refl _ _)

theorem ReadB.stops {b : List Nat} {n : Nat} {c : List Nat} {a : Nat} (h : ReadB b n c a) (hlt : totB c < n) (hn : n ≤ 65536) {k i e : Nat} (h1 : Taken (b.drop a) k i e)
    (hbad : e = 31 ∨ (e = 0 ∧ n < totB c + k) ∨ (e = 0 ∧ k = 0 ∧ 0 < a)) : ∀ l', ¬ TruthsOf b n l' := by
  intro l' hl'
  obtain ⟨k', t, hk1, hk2, hb⟩ := h.next hlt hl'
  obtain ⟨h3, h4, h5⟩ := h1.of (m := k') (by omega) ⟨_, hb.symm⟩
  rcases hbad with h | ⟨_, h⟩ | ⟨_, h, h'⟩
  · omega
  · omega
  · rcases hk2 with h6 | h6 <;> omega

/-- 1 at 0. -/
def zeroI (t : Value) : Nat := if intOf t = 0 then 1 else 0
theorem zeroI_pos {x : Int} (h : x ≠ 0) : zeroI (.int .i64 x) = 0 := if_neg h

set_option maxRecDepth 20000 in
set_option maxHeartbeats 2000000 in
theorem refTakeBools_any (v : Value) (b : List Nat) (n : Nat) (l : List Bool) (a e : Nat) (w : World) (hv : BytesAt w v b) (hn : n ≤ 65536) (ht : TakenB b n l a e) :
    Calls Try.prog 23 #[v, .int .i64 n] w (GivesT l a e w) := by
  have hlb : (b.length : Int) ≤ 9223372036854775807 := by have := hv.row.le; rwa [bvals_length] at this
  have hv := Lib.hid hv
  have ht := Lib.hid ht
  go_enter Try.func23, Try.ntmps23
  go_wp2
  go_loopw [7, 8, 9] (fun o t y wr => ∃ (c : List Nat) (at' : Nat) (x : Bool), t = .int .i64 at' ∧ y = .bool x ∧ at' ≤ b.length ∧ OwnRow wr w.heap.size 4 o (truths (flatB false c)) ∧ Hid (ReadB b n c at') ∧ Hid (x = turnB false c) ∧ Below w.heap.size w wr) (fun o t _ _ => 2 * (n - lenV o) + zeroI t)
  case atStart => exact ⟨[], 0, false, rfl, rfl, by omega, OwnRow.none_ _ _ _, Lib.hid (ReadB.start b n), Lib.hid rfl, Below.refl _ _⟩
  case round =>
    obtain ⟨c, at', x, rfl, rfl, hat, hown, hrd, hx, hbel⟩ := hrel
    have hlo := fun W => hown.row.len elemT.ht (ty := 3) W
    have hlv := hown.row.lenV
    rw [truths_len, flatB_len] at hlo hlv
    have htot := hrd.out.tot
    obtain ⟨T, hT⟩ : ∃ T, totB c = T := ⟨_, rfl⟩
    rw [hT] at hlo hlv htot
    have hT := Lib.hid hT
    rcases Nat.lt_or_ge T n with hlt | hge
    · obtain ⟨v1, hs1, hb1⟩ := hv.out.cut hat
      obtain ⟨k, i, e1, ht1⟩ := taken_any (b.drop at')
      obtain ⟨hk64, hi10, hil, he31⟩ := ht1.bounds
      rw [List.length_drop] at hil
      have c1 := hide (refTake_at (hb1.below hbel) ht1)
      have HW : (e1 = 31 ∧ Hid (l = [] ∧ a = 0 ∧ e = 41)) ∨ (e1 = 0 ∧ n < T + k ∧ Hid (l = [] ∧ a = 0 ∧ e = 41)) ∨ (e1 = 0 ∧ T + k ≤ n ∧ k = 0 ∧ 0 < at' ∧ Hid (l = [] ∧ a = 0 ∧ e = 41)) ∨
          (e1 = 0 ∧ T + k ≤ n ∧ (k = 0 ∧ at' = 0 ∨ 1 ≤ k) ∧ 1 ≤ i ∧ Hid (ReadB b n (c ++ [k]) (at' + i))) := by
        have hno : (e1 = 31 ∨ (e1 = 0 ∧ n < T + k) ∨ (e1 = 0 ∧ k = 0 ∧ 0 < at')) → Hid (l = [] ∧ a = 0 ∧ e = 41) := fun h =>
          Lib.hid (ht.out.none_ (hrd.out.stops (by rw [hT.out]; exact hlt) hn ht1 (by rw [hT.out]; exact h)))
        rcases ht1.ways with ⟨_, hp1, hi1, h1⟩ | h1
        · by_cases h3 : n < T + k
          · exact .inr (.inl ⟨h1, h3, hno (.inr (.inl ⟨h1, h3⟩))⟩)
          · by_cases h4 : k = 0 ∧ 0 < at'
            · exact .inr (.inr (.inl ⟨h1, by omega, h4.1, h4.2, hno (.inr (.inr ⟨h1, h4.1, h4.2⟩))⟩))
            · refine .inr (.inr (.inr ⟨h1, by omega, by omega, by rw [hi1]; exact putL_pos k, Lib.hid ?_⟩))
              subst hi1
              exact hrd.out.step (by omega) (by omega) (by rw [hT.out]; omega) hp1
        · exact .inl ⟨h1, hno (.inl h1)⟩
      clear ht1 hb1
      have hlv := Lib.hid hlv
      rcases HW with ⟨rfl, H⟩ | ⟨rfl, h3, H⟩ | ⟨rfl, h3, rfl, h4, H⟩ | ⟨rfl, h3, h4, hi1, H⟩
      · obtain ⟨rfl, rfl, rfl⟩ := H.out
        go_wp2_with (go_at_call 34; refine c1.out.mono ?_; rintro e' w1 ⟨rfl, hw1⟩)
        go_ret3
        exact GivesT.nil (then_call hbel hw1)
      · obtain ⟨rfl, rfl, rfl⟩ := H.out
        have h3' : (n : Int) - T < k := by omega
        go_wp2_with (go_at_call 34; refine c1.out.mono ?_; rintro e' w1 ⟨rfl, hw1⟩)
        go_ret3
        exact GivesT.nil (then_call hbel hw1)
      · obtain ⟨rfl, rfl, rfl⟩ := H.out
        go_wp2_with (go_at_call 34; refine c1.out.mono ?_; rintro e' w1 ⟨rfl, hw1⟩)
        go_ret3
        exact GivesT.nil (then_call hbel hw1)
      · have hnt : (k : Int) ≤ (n : Int) - T := by omega
        have hflat : (flatB false c).length ≤ 65536 := by rw [flatB_len, hT.out]; omega
        rcases h4 with ⟨rfl, rfl⟩ | h5
        · have hs10 : ∀ W, (Instr.slice 26 v (some (.int .i64 0)) none none).run Try.prog W = .ok v1 W := hs1
          go_wp2_with (go_at_call 34; refine c1.out.mono ?_; rintro e' w1 ⟨rfl, hw1⟩)
          have hbel2 := then_call hbel hw1
          have hown2 := hown.below hw1
          clear hw1
          go_loopw [7, 13] (fun o t wr => ∃ q : Nat, t = .int .u64 q ∧ q ≤ 0 ∧ OwnRow wr w.heap.size 4 o (truths (flatB false c ++ List.replicate q x)) ∧ Below w.heap.size w wr) (fun _ t _ => 0 - (intOf t).toNat)
          case atStart => exact ⟨0, rfl, by omega, by simpa using hown2, hbel2⟩
          case round =>
            obtain ⟨q, rfl, hq, hown3, hbel3⟩ := hrel
            rcases Nat.lt_or_ge q 0 with hqk | hqk
            · exact absurd hqk (Nat.not_lt_zero _)
            · have hqk' : 0 = q := by omega
              subst hqk'
              have hlv4 := hown3.row.lenV
              rw [truths_len, List.length_append, List.length_replicate, flatB_len, hT.out] at hlv4
              have hat2 := H.out.le
              have hfl : flatB false (c ++ [0]) = flatB false c ++ List.replicate 0 x := by rw [flatB_snoc, hx.out]
              have hxn : Hid ((!x) = turnB false (c ++ [0])) := Lib.hid (by rw [turn_snoc, hx.out])
              have hfl := Lib.hid hfl
              go_wp2
              go_roundw
              case rel => exact ⟨_, 0 + i, _, by go_num, rfl, hat2, by rw [hfl.out]; exact hown3, H, hxn, hbel3⟩
              case measure =>
                have hz1 : zeroI (.int .i64 (i : Int)) = 0 := zeroI_pos (by omega)
                have hz2 : zeroI (.int .i64 ((0 : Nat) : Int)) = 1 := rfl
                rw [hlv4, hlv.out, hz1, hz2]
                omega
        · have hxx : True := trivial
          go_wp2_with (go_at_call 34; refine c1.out.mono ?_; rintro e' w1 ⟨rfl, hw1⟩)
          have hbel2 := then_call hbel hw1
          have hown2 := hown.below hw1
          clear hw1
          go_loopw [7, 13] (fun o t wr => ∃ q : Nat, t = .int .u64 q ∧ q ≤ k ∧ OwnRow wr w.heap.size 4 o (truths (flatB false c ++ List.replicate q x)) ∧ Below w.heap.size w wr) (fun _ t _ => k - (intOf t).toNat)
          case atStart => exact ⟨0, rfl, by omega, by simpa using hown2, hbel2⟩
          case round =>
            obtain ⟨q, rfl, hq, hown3, hbel3⟩ := hrel
            rcases Nat.lt_or_ge q (k) with hqk | hqk
            · have hlen3 : (truths (flatB false c ++ List.replicate q x)).length ≤ 140000 := by rw [truths_len]; simp; omega
              go_wp2_with (at_builtin; refine append_row elemT rfl (.tmp 56) (.tmp 58) rfl w.heap.size rfl (hown3.alloc _) rfl (row_box _ _ _) (by intro u hu; simp at hu; subst hu; rfl) (by simp; omega) (by have := hbel3.size; simp; omega) ?_; intro v6 w6 hown6 hb6; have hbel6 : Below w.heap.size w w6 := (then_box hbel3 _).trans hb6)
              go_roundw
              case rel => exact ⟨q + 1, by go_num, by omega, by rw [List.replicate_succ', ← List.append_assoc, truths_app]; exact hown6, hbel6⟩
              case measure => simp [intOf]; omega
            · have hqk' : k = q := by omega
              subst hqk'
              have hlv4 := hown3.row.lenV
              rw [truths_len, List.length_append, List.length_replicate, flatB_len, hT.out] at hlv4
              have hat2 := H.out.le
              have hfl : flatB false (c ++ [k]) = flatB false c ++ List.replicate k x := by rw [flatB_snoc, hx.out]
              have hxn : Hid ((!x) = turnB false (c ++ [k])) := Lib.hid (by rw [turn_snoc, hx.out])
              have hfl := Lib.hid hfl
              go_wp2
              go_roundw
              case rel => exact ⟨_, at' + i, _, by go_num, rfl, hat2, by rw [hfl.out]; exact hown3, H, hxn, hbel3⟩
              case measure =>
                have hz1 : zeroI (.int .i64 ((at' : Int) + (i : Int))) = 0 := zeroI_pos (by omega)
                rw [hlv4, hlv.out, hz1]
                omega
    · obtain ⟨hd1, hd2⟩ := hrd.out.done (by rw [hT.out]; omega) ht.out
      have hby := hv.out.byte
      obtain ⟨v3, hs3, hb3⟩ := hv.out.first hat
      obtain ⟨S, hS⟩ : ∃ S, strB (bytesB (flatB false c)) = S := ⟨_, rfl⟩
      obtain ⟨U, hU⟩ : ∃ U, strB (b.take at') = U := ⟨_, rfl⟩
      have hcv0 : (convert 26 9 v3).run Try.prog wr.drew = .ok (.string U) wr.drew := by rw [← hU]; exact run_bytes (w := wr.drew) (hb3.below (Below.drew hbel))
      have hcv : ∀ w1, Below wr.drew.heap.size wr.drew w1 → (convert 26 9 v3).run Try.prog w1 = .ok (.string U) w1 := fun w1 h1 => by
        rw [← hU]; exact run_bytes ((hb3.below (Below.drew hbel)).below h1)
      have hcv := hide hcv
      have c5 := (refBools_any _ (flatB false c) wr.drew hown.row.drew (by rw [flatB_len, hT.out]; omega)).mono (R' := fun e' w' => ∃ v', e' = .returned v' ∧ (convert 26 9 v').run Try.prog w' = .ok (.string S) w' ∧ Below wr.drew.heap.size wr.drew w')
        (fun e' w' ⟨v', h1, h2, h3⟩ => ⟨v', h1, by rw [← hS]; exact run_bytes (h2.bytes (bytesB_byte _)), h3⟩)
      have c5 := hide c5
      have HQ : ((S.toList == U.toList) = true ∧ Hid (l = flatB false c) ∧ a = at' ∧ e = 0) ∨ ((S.toList == U.toList) = false ∧ Hid (l = []) ∧ a = 0 ∧ e = 41) := by
        rw [← hS, ← hU, strB_beq (bytesB_byte _) (fun x hx => hby x (List.mem_of_mem_take hx))]
        by_cases h : bytesB (flatB false c) = b.take at'
        · obtain ⟨h1, h2, h3⟩ := hd1 h
          exact .inl ⟨decide_eq_true h, Lib.hid h1, h2, h3⟩
        · obtain ⟨h1, h2, h3⟩ := hd2 h
          exact .inr ⟨decide_eq_false h, Lib.hid h1, h2, h3⟩
      clear hd1 hd2 hby hb3 hS hU hlv
      rcases HQ with ⟨hq, hl, rfl, rfl⟩ | ⟨hq, hl, rfl, rfl⟩
      all_goals
        go_wp2_with (fail)
        go_region_with ((go_at_call 16; refine c5.out.mono ?_; rintro e' w1 ⟨v4, rfl, hcv1, hb4⟩; have hcv2 := hcv.out w1 hb4))
        all_goals
          have hbel4 : Below w.heap.size w w1 := then_call (Below.drew hbel) hb4
          go_wp2
          go_ret3
          first
            | exact ⟨_, rfl, by rw [hl.out]; exact hown.drew.below hb4, hbel4⟩
            | (rw [hl.out]; exact GivesT.nil hbel4)
end Go.Proofs.Ytdonbgejnllhlaa
