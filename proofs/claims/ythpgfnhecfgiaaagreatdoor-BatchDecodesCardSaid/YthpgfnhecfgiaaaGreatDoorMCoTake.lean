/-
  Joined: CoTakeRuns, CoTakeBools, CoTakeDeltas, CoGiven.
-/
import Derived.Test.YthpgfnhecfgiaaaGreatDoorMCo
import Derived.Outline
namespace Go.Proofs.YthpgfnhecfgiaaaGreatDoor
open Go.RowKit Go.Sort
set_option maxRecDepth 20000

theorem encR_byte : ∀ rs : List (Nat × Int), ∀ x ∈ encR rs, x < 256
  | [], x, h => by simp [encR] at h
  | (k, y) :: r, x, h => by
    rw [encR] at h
    rcases List.mem_append.1 h with h | h
    · exact putL_byte _ x h
    · rcases List.mem_append.1 h with h | h
      · exact putL_byte _ x h
      · exact encR_byte r x h
theorem bytesR_byte (l : List Int) : ∀ x ∈ bytesR l, x < 256 := encR_byte _

/-- What a taker of integers hands back. -/
def GivesI (l : List Int) (a e : Nat) (w : World) : Ending → World → Prop :=
  fun e' w' => ∃ v', e' = .returned (.tuple #[v', .int .i64 a, .int .i64 e]) ∧ OwnRow w' w.heap.size 3 v' (ints l) ∧ Below w.heap.size w w'

theorem GivesI.nil {w w' : World} {a e : Nat} (hb : Below w.heap.size w w') : GivesI [] a e w (.returned (.tuple #[.slice none 0 0, .int .i64 a, .int .i64 e])) w' :=
  ⟨_, rfl, OwnRow.none_ _ _ _, hb⟩

set_option maxRecDepth 20000 in
set_option maxHeartbeats 1000000 in
theorem refTakeRuns_arg (v : Value) (n : Int) (w : World) (hn : n < 0 ∨ 65536 < n) :
    Calls Tryz.prog 13 #[v, .int .i64 n] w (GivesI [] 0 1 w) := by
  rcases hn with h | h
  · go_enter Tryz.func13, Tryz.ntmps13
    go_wp2
    go_ret3
    exact GivesI.nil (Below.refl _ _)
  · go_enter Tryz.func13, Tryz.ntmps13
    go_wp2
    go_ret3
    exact GivesI.nil (Below.refl _ _)

set_option maxRecDepth 20000 in
set_option maxHeartbeats 2000000 in
theorem refTakeRuns_any (v : Value) (b : List Nat) (n : Nat) (l : List Int) (a e : Nat) (w : World) (hv : BytesAt w v b) (hn : n ≤ 65536) (ht : TakenR b n l a e) :
    Calls Tryz.prog 13 #[v, .int .i64 n] w (GivesI l a e w) := by
  have hlb : (b.length : Int) ≤ 9223372036854775807 := by have := hv.row.le; rwa [bvals_length] at this
  have hv := Lib.hid hv
  have ht := Lib.hid ht
  go_enter Tryz.func13, Tryz.ntmps13
  go_wp2
  go_loopw [7, 8] (fun o t wr => ∃ (rs : List (Nat × Int)) (at' : Nat), t = .int .i64 at' ∧ at' ≤ b.length ∧ OwnRow wr w.heap.size 3 o (ints (flatL rs)) ∧ Hid (Read b n rs at') ∧ Below w.heap.size w wr) (fun o _ _ => n - lenV o)
  case atStart => exact ⟨[], 0, rfl, by omega, OwnRow.none_ _ _ _, Lib.hid (Read.start b n), Below.refl _ _⟩
  case round =>
    obtain ⟨rs, at', rfl, hat, hown, hrd, hbel⟩ := hrel
    have hlo := fun W => hown.row.len elemI.ht (ty := 3) W
    have hlv := hown.row.lenV
    rw [ints_len, flat_len] at hlo hlv
    have htot := hrd.out.tot
    obtain ⟨T, hT⟩ : ∃ T, total rs = T := ⟨_, rfl⟩
    rw [hT] at hlo hlv htot
    have hT := Lib.hid hT
    rcases Nat.lt_or_ge T n with hlt | hge
    · obtain ⟨v1, hs1, hb1⟩ := hv.out.cut hat
      obtain ⟨k, i, e1, ht1⟩ := taken_any (b.drop at')
      obtain ⟨hk64, hi10, hil, he31⟩ := ht1.bounds
      rw [List.length_drop] at hil
      obtain ⟨v2, hs2, hb2⟩ := hv.out.cut (k := at' + i) (by omega)
      simp only [Int.natCast_add] at hs2
      obtain ⟨x, j, f1, ht2⟩ := taken_any (b.drop (at' + i))
      obtain ⟨hx64, hj10, hjl, hf31⟩ := ht2.bounds
      rw [List.length_drop] at hjl
      have c1 := hide (refTake_at (hb1.below hbel) ht1)
      have hcont : ∀ w2, Below wr.heap.size wr w2 → Calls Tryz.prog 12 #[v2] w2 (Ret (.tuple #[.int .u64 x, .int .i64 j, .int .i64 f1]) w2) := fun w2 hw2 => refTake_at (hb2.below (then_call hbel hw2)) ht2
      have c2 := hide hcont
      have HW : (e1 = 31 ∧ Hid (l = [] ∧ a = 0 ∧ e = 41)) ∨ (e1 = 0 ∧ f1 = 31 ∧ Hid (l = [] ∧ a = 0 ∧ e = 41)) ∨ (e1 = 0 ∧ f1 = 0 ∧ n < T + k ∧ Hid (l = [] ∧ a = 0 ∧ e = 41)) ∨ (e1 = 0 ∧ f1 = 0 ∧ k = 0 ∧ Hid (l = [] ∧ a = 0 ∧ e = 41)) ∨
          (e1 = 0 ∧ f1 = 0 ∧ T + k ≤ n ∧ 1 ≤ k ∧ Hid (Read b n (rs ++ [(k, zagN x)]) (at' + i + j))) := by
        have hno : (e1 = 31 ∨ (e1 = 0 ∧ f1 = 31) ∨ (e1 = 0 ∧ f1 = 0 ∧ n < T + k) ∨ (e1 = 0 ∧ f1 = 0 ∧ k = 0)) → Hid (l = [] ∧ a = 0 ∧ e = 41) := fun h =>
          Lib.hid (ht.out.none_ (hrd.out.stops (by rw [hT.out]; exact hlt) hn ht1 ht2 (by rw [hT.out]; exact h)))
        rcases ht1.ways with ⟨_, hp1, hi1, h1⟩ | h1
        · rcases ht2.ways with ⟨hx1, hp2, hj1, h2⟩ | h2
          · by_cases h3 : n < T + k
            · exact .inr (.inr (.inl ⟨h1, h2, h3, hno (.inr (.inr (.inl ⟨h1, h2, h3⟩)))⟩))
            · by_cases h4 : k = 0
              · exact .inr (.inr (.inr (.inl ⟨h1, h2, h4, hno (.inr (.inr (.inr ⟨h1, h2, h4⟩)))⟩)))
              · refine .inr (.inr (.inr (.inr ⟨h1, h2, by omega, by omega, Lib.hid ?_⟩)))
                subst hi1 hj1
                exact hrd.out.step (by omega) hx1 (by rw [hT.out]; omega) hp1 hp2
          · exact .inr (.inl ⟨h1, h2, hno (.inr (.inl ⟨h1, h2⟩))⟩)
        · exact .inl ⟨h1, hno (.inl h1)⟩
      clear ht1 ht2 hb1 hb2 hcont
      have hlv := Lib.hid hlv
      rcases HW with ⟨rfl, H⟩ | ⟨rfl, rfl, H⟩ | ⟨rfl, rfl, h3, H⟩ | ⟨rfl, rfl, rfl, H⟩ | ⟨rfl, rfl, h3, h4, H⟩
      · obtain ⟨rfl, rfl, rfl⟩ := H.out
        go_wp2_with (go_at_call 12; (first | ((with_reducible refine c1.out.mono ?_); rintro e' w1 ⟨rfl, hw1⟩) | (refine (c2.out _ hw1).mono ?_; rintro e' w2 ⟨rfl, hw2⟩)))
        go_ret3
        exact GivesI.nil (then_call (then_call hbel hw1) hw2)
      · obtain ⟨rfl, rfl, rfl⟩ := H.out
        go_wp2_with (go_at_call 12; (first | ((with_reducible refine c1.out.mono ?_); rintro e' w1 ⟨rfl, hw1⟩) | (refine (c2.out _ hw1).mono ?_; rintro e' w2 ⟨rfl, hw2⟩)))
        go_ret3
        exact GivesI.nil (then_call (then_call hbel hw1) hw2)
      · obtain ⟨rfl, rfl, rfl⟩ := H.out
        have h3' : (n : Int) - T < k := by omega
        go_wp2_with (go_at_call 12; (first | ((with_reducible refine c1.out.mono ?_); rintro e' w1 ⟨rfl, hw1⟩) | (refine (c2.out _ hw1).mono ?_; rintro e' w2 ⟨rfl, hw2⟩)))
        go_ret3
        exact GivesI.nil (then_call (then_call hbel hw1) hw2)
      · obtain ⟨rfl, rfl, rfl⟩ := H.out
        go_wp2_with (go_at_call 12; (first | ((with_reducible refine c1.out.mono ?_); rintro e' w1 ⟨rfl, hw1⟩) | (refine (c2.out _ hw1).mono ?_; rintro e' w2 ⟨rfl, hw2⟩)))
        have hbel2 := then_call (then_call hbel hw1) hw2
        go_loopw [7, 15] (fun _ t wr => t = .int .u64 0 ∧ Below w.heap.size w wr) (fun _ _ _ => 0)
        case atStart => exact ⟨rfl, hbel2⟩
        case round =>
          obtain ⟨rfl, hb4⟩ := hrel
          go_wp2
          go_ret3
          exact GivesI.nil hb4
      · have hnt : (k : Int) ≤ (n : Int) - T := by omega
        go_wp2_with (go_at_call 12; (first | ((with_reducible refine c1.out.mono ?_); rintro e' w1 ⟨rfl, hw1⟩) | (refine (c2.out _ hw1).mono ?_; rintro e' w2 ⟨rfl, hw2⟩)))
        have hbel2 := then_call (then_call hbel hw1) hw2
        obtain ⟨X, hX⟩ : ∃ X, zagN x = X := ⟨_, rfl⟩
        have c3 := hide (fun W => refZag_N hX hx64 W)
        rw [hX] at H
        have hown2 := (hown.below hw1).below hw2
        have hflat : (flatL rs).length ≤ 65536 := by rw [flat_len, hT.out]; omega
        clear hX hw1 hw2
        go_loopw [7, 15] (fun o t wr => ∃ q : Nat, t = .int .u64 q ∧ q ≤ k ∧ OwnRow wr w.heap.size 3 o (ints (flatL rs ++ List.replicate q X)) ∧ Below w.heap.size w wr) (fun _ t _ => k - (intOf t).toNat)
        case atStart => exact ⟨0, rfl, by omega, by simpa using hown2, hbel2⟩
        case round =>
          obtain ⟨q, rfl, hq, hown3, hbel3⟩ := hrel
          rcases Nat.lt_or_ge q k with hqk | hqk
          · have hlen3 : (ints (flatL rs ++ List.replicate q X)).length ≤ 140000 := by rw [ints_len]; simp; omega
            go_wp2_with (first
              | (go_at_call 35; refine (c3.out _).mono ?_; rintro e' w5 ⟨rfl, rfl⟩)
              | (at_builtin; refine append_row elemI rfl (.tmp 64) (.tmp 67) rfl w.heap.size rfl (hown3.alloc _) rfl (row_box _ _ _) (by intro u hu; simp at hu; subst hu; rfl) (by simp; omega) (by have := hbel3.size; simp; omega) ?_; intro v6 w6 hown6 hb6; have hbel6 : Below w.heap.size w w6 := (then_box hbel3 _).trans hb6))
            go_roundw
            case rel => exact ⟨q + 1, by go_num, by omega, by rw [List.replicate_succ', ← List.append_assoc, ints_app]; exact hown6, hbel6⟩
            case measure => simp [intOf]; omega
          · obtain rfl : q = k := by omega
            have hlv4 := hown3.row.lenV
            rw [ints_len, List.length_append, List.length_replicate, flat_len, hT.out] at hlv4
            have hat2 := H.out.le
            go_wp2
            go_roundw
            case rel => exact ⟨_, at' + i + j, by go_num, hat2, by rw [flat_snoc]; exact hown3, H, hbel3⟩
            case measure => rw [hlv4, hlv.out]; omega
    · obtain ⟨hd1, hd2⟩ := hrd.out.done (by rw [hT.out]; omega) ht.out
      have hby := hv.out.byte
      obtain ⟨v3, hs3, hb3⟩ := hv.out.first hat
      obtain ⟨S, hS⟩ : ∃ S, strB (bytesR (flatL rs)) = S := ⟨_, rfl⟩
      obtain ⟨U, hU⟩ : ∃ U, strB (b.take at') = U := ⟨_, rfl⟩
      have hcv0 : (convert 22 9 v3).run Tryz.prog wr.drew = .ok (.string U) wr.drew := by rw [← hU]; exact run_bytes (w := wr.drew) (hb3.below (Below.drew hbel))
      have hcv : ∀ w1, Below wr.drew.heap.size wr.drew w1 → (convert 22 9 v3).run Tryz.prog w1 = .ok (.string U) w1 := fun w1 h1 => by
        rw [← hU]; exact run_bytes ((hb3.below (Below.drew hbel)).below h1)
      have hcv := hide hcv
      have c5 := (refRuns_any _ (flatL rs) wr.drew hown.row.drew hrd.out.inr (by rw [flat_len, hT.out]; omega)).mono (R' := fun e' w' => ∃ v', e' = .returned v' ∧ (convert 22 9 v').run Tryz.prog w' = .ok (.string S) w' ∧ Below wr.drew.heap.size wr.drew w')
        (fun e' w' ⟨v', h1, h2, h3⟩ => ⟨v', h1, by rw [← hS]; exact run_bytes (h2.bytes (bytesR_byte _)), h3⟩)
      have c5 := hide c5
      have HQ : ((S.toList == U.toList) = true ∧ Hid (l = flatL rs) ∧ a = at' ∧ e = 0) ∨ ((S.toList == U.toList) = false ∧ Hid (l = []) ∧ a = 0 ∧ e = 41) := by
        rw [← hS, ← hU, strB_beq (bytesR_byte _) (fun x hx => hby x (List.mem_of_mem_take hx))]
        by_cases h : bytesR (flatL rs) = b.take at'
        · obtain ⟨h1, h2, h3⟩ := hd1 h
          exact .inl ⟨decide_eq_true h, Lib.hid h1, h2, h3⟩
        · obtain ⟨h1, h2, h3⟩ := hd2 h
          exact .inr ⟨decide_eq_false h, Lib.hid h1, h2, h3⟩
      clear hd1 hd2 hby hb3 hS hU hlv
      rcases HQ with ⟨hq, hl, rfl, rfl⟩ | ⟨hq, hl, rfl, rfl⟩
      all_goals
        go_wp2_with (fail)
        go_region_with ((go_at_call 36; refine c5.out.mono ?_; rintro e' w1 ⟨v4, rfl, hcv1, hb4⟩; have hcv2 := hcv.out w1 hb4))
        all_goals
          have hbel4 : Below w.heap.size w w1 := then_call (Below.drew hbel) hb4
          go_wp2
          go_ret3
          first
            | exact ⟨_, rfl, by rw [hl.out]; exact hown.drew.below hb4, hbel4⟩
            | (rw [hl.out]; exact GivesI.nil hbel4)
end Go.Proofs.YthpgfnhecfgiaaaGreatDoor

namespace Go.Proofs.YthpgfnhecfgiaaaGreatDoor
open Go.RowKit Go.Sort
set_option maxRecDepth 20000

theorem encB_byte : ∀ c : List Nat, ∀ x ∈ encB c, x < 256
  | [], x, h => by simp [encB] at h
  | k :: r, x, h => by
    rw [encB] at h
    rcases List.mem_append.1 h with h | h
    · exact putL_byte _ x h
    · exact encB_byte r x h
theorem bytesB_byte (l : List Bool) : ∀ x ∈ bytesB l, x < 256 := encB_byte _

/-- What a taker of truths hands back. -/
def GivesT (l : List Bool) (a e : Nat) (w : World) : Ending → World → Prop :=
  fun e' w' => ∃ v', e' = .returned (.tuple #[v', .int .i64 a, .int .i64 e]) ∧ OwnRow w' w.heap.size 4 v' (truths l) ∧ Below w.heap.size w w'

theorem GivesT.nil {w w' : World} {a e : Nat} (hb : Below w.heap.size w w') : GivesT [] a e w (.returned (.tuple #[.slice none 0 0, .int .i64 a, .int .i64 e])) w' :=
  ⟨_, rfl, OwnRow.none_ _ _ _, hb⟩

set_option maxRecDepth 20000 in
set_option maxHeartbeats 1000000 in
theorem refTakeBools_arg (v : Value) (n : Int) (w : World) (hn : n < 0 ∨ 65536 < n) :
    Calls Tryz.prog 37 #[v, .int .i64 n] w (GivesT [] 0 1 w) := by
  rcases hn with h | h
  · go_enter Tryz.func37, Tryz.ntmps37
    go_wp2
    go_ret3
    exact GivesT.nil (Below.refl _ _)
  · go_enter Tryz.func37, Tryz.ntmps37
    go_wp2
    go_ret3
    exact GivesT.nil (Below.refl _ _)

theorem ReadB.stops {b : List Nat} {n : Nat} {c : List Nat} {a : Nat} (h : ReadB b n c a) (hlt : totB c < n) (hn : n ≤ 65536) {k i e : Nat} (h1 : Taken (b.drop a) k i e)
    (hbad : e = 31 ∨ (e = 0 ∧ n < totB c + k) ∨ (e = 0 ∧ k = 0 ∧ 0 < a)) : ∀ l', ¬ TruthsOf b n l' := by
  intro l' hl'
  obtain ⟨k', t, hk1, hk2, hb⟩ := h.next hlt hl'
  obtain ⟨h3, h4, h5⟩ := h1.of (m := k') (by omega) ⟨_, hb.symm⟩
  rcases hbad with h | ⟨_, h⟩ | ⟨_, h, h'⟩
  · omega
  · omega
  · rcases hk2 with h6 | h6 <;> omega

/-- 1 at 0. -/
def zeroI (t : Value) : Nat := if intOf t = 0 then 1 else 0
theorem zeroI_pos {x : Int} (h : x ≠ 0) : zeroI (.int .i64 x) = 0 := if_neg h

set_option maxRecDepth 20000 in
set_option maxHeartbeats 2000000 in
theorem refTakeBools_any (v : Value) (b : List Nat) (n : Nat) (l : List Bool) (a e : Nat) (w : World) (hv : BytesAt w v b) (hn : n ≤ 65536) (ht : TakenB b n l a e) :
    Calls Tryz.prog 37 #[v, .int .i64 n] w (GivesT l a e w) := by
  have hlb : (b.length : Int) ≤ 9223372036854775807 := by have := hv.row.le; rwa [bvals_length] at this
  have hv := Lib.hid hv
  have ht := Lib.hid ht
  go_enter Tryz.func37, Tryz.ntmps37
  go_wp2
  go_loopw [7, 8, 9] (fun o t y wr => ∃ (c : List Nat) (at' : Nat) (x : Bool), t = .int .i64 at' ∧ y = .bool x ∧ at' ≤ b.length ∧ OwnRow wr w.heap.size 4 o (truths (flatB false c)) ∧ Hid (ReadB b n c at') ∧ Hid (x = turnB false c) ∧ Below w.heap.size w wr) (fun o t _ _ => 2 * (n - lenV o) + zeroI t)
  case atStart => exact ⟨[], 0, false, rfl, rfl, by omega, OwnRow.none_ _ _ _, Lib.hid (ReadB.start b n), Lib.hid rfl, Below.refl _ _⟩
  case round =>
    obtain ⟨c, at', x, rfl, rfl, hat, hown, hrd, hx, hbel⟩ := hrel
    have hlo := fun W => hown.row.len elemT.ht (ty := 3) W
    have hlv := hown.row.lenV
    rw [truths_len, flatB_len] at hlo hlv
    have htot := hrd.out.tot
    obtain ⟨T, hT⟩ : ∃ T, totB c = T := ⟨_, rfl⟩
    rw [hT] at hlo hlv htot
    have hT := Lib.hid hT
    rcases Nat.lt_or_ge T n with hlt | hge
    · obtain ⟨v1, hs1, hb1⟩ := hv.out.cut hat
      obtain ⟨k, i, e1, ht1⟩ := taken_any (b.drop at')
      obtain ⟨hk64, hi10, hil, he31⟩ := ht1.bounds
      rw [List.length_drop] at hil
      have c1 := hide (refTake_at (hb1.below hbel) ht1)
      have HW : (e1 = 31 ∧ Hid (l = [] ∧ a = 0 ∧ e = 41)) ∨ (e1 = 0 ∧ n < T + k ∧ Hid (l = [] ∧ a = 0 ∧ e = 41)) ∨ (e1 = 0 ∧ T + k ≤ n ∧ k = 0 ∧ 0 < at' ∧ Hid (l = [] ∧ a = 0 ∧ e = 41)) ∨
          (e1 = 0 ∧ T + k ≤ n ∧ (k = 0 ∧ at' = 0 ∨ 1 ≤ k) ∧ 1 ≤ i ∧ Hid (ReadB b n (c ++ [k]) (at' + i))) := by
        have hno : (e1 = 31 ∨ (e1 = 0 ∧ n < T + k) ∨ (e1 = 0 ∧ k = 0 ∧ 0 < at')) → Hid (l = [] ∧ a = 0 ∧ e = 41) := fun h =>
          Lib.hid (ht.out.none_ (hrd.out.stops (by rw [hT.out]; exact hlt) hn ht1 (by rw [hT.out]; exact h)))
        rcases ht1.ways with ⟨_, hp1, hi1, h1⟩ | h1
        · by_cases h3 : n < T + k
          · exact .inr (.inl ⟨h1, h3, hno (.inr (.inl ⟨h1, h3⟩))⟩)
          · by_cases h4 : k = 0 ∧ 0 < at'
            · exact .inr (.inr (.inl ⟨h1, by omega, h4.1, h4.2, hno (.inr (.inr ⟨h1, h4.1, h4.2⟩))⟩))
            · refine .inr (.inr (.inr ⟨h1, by omega, by omega, by rw [hi1]; exact putL_pos k, Lib.hid ?_⟩))
              subst hi1
              exact hrd.out.step (by omega) (by omega) (by rw [hT.out]; omega) hp1
        · exact .inl ⟨h1, hno (.inl h1)⟩
      clear ht1 hb1
      have hlv := Lib.hid hlv
      rcases HW with ⟨rfl, H⟩ | ⟨rfl, h3, H⟩ | ⟨rfl, h3, rfl, h4, H⟩ | ⟨rfl, h3, h4, hi1, H⟩
      · obtain ⟨rfl, rfl, rfl⟩ := H.out
        go_wp2_with (go_at_call 12; refine c1.out.mono ?_; rintro e' w1 ⟨rfl, hw1⟩)
        go_ret3
        exact GivesT.nil (then_call hbel hw1)
      · obtain ⟨rfl, rfl, rfl⟩ := H.out
        have h3' : (n : Int) - T < k := by omega
        go_wp2_with (go_at_call 12; refine c1.out.mono ?_; rintro e' w1 ⟨rfl, hw1⟩)
        go_ret3
        exact GivesT.nil (then_call hbel hw1)
      · obtain ⟨rfl, rfl, rfl⟩ := H.out
        go_wp2_with (go_at_call 12; refine c1.out.mono ?_; rintro e' w1 ⟨rfl, hw1⟩)
        go_ret3
        exact GivesT.nil (then_call hbel hw1)
      · have hnt : (k : Int) ≤ (n : Int) - T := by omega
        have hflat : (flatB false c).length ≤ 65536 := by rw [flatB_len, hT.out]; omega
        rcases h4 with ⟨rfl, rfl⟩ | h5
        · have hs10 : ∀ W, (Instr.slice 22 v (some (.int .i64 0)) none none).run Tryz.prog W = .ok v1 W := hs1
          go_wp2_with (go_at_call 12; refine c1.out.mono ?_; rintro e' w1 ⟨rfl, hw1⟩)
          have hbel2 := then_call hbel hw1
          have hown2 := hown.below hw1
          clear hw1
          go_loopw [7, 13] (fun o t wr => ∃ q : Nat, t = .int .u64 q ∧ q ≤ 0 ∧ OwnRow wr w.heap.size 4 o (truths (flatB false c ++ List.replicate q x)) ∧ Below w.heap.size w wr) (fun _ t _ => 0 - (intOf t).toNat)
          case atStart => exact ⟨0, rfl, by omega, by simpa using hown2, hbel2⟩
          case round =>
            obtain ⟨q, rfl, hq, hown3, hbel3⟩ := hrel
            rcases Nat.lt_or_ge q 0 with hqk | hqk
            · exact absurd hqk (Nat.not_lt_zero _)
            · have hqk' : 0 = q := by omega
              subst hqk'
              have hlv4 := hown3.row.lenV
              rw [truths_len, List.length_append, List.length_replicate, flatB_len, hT.out] at hlv4
              have hat2 := H.out.le
              have hfl : flatB false (c ++ [0]) = flatB false c ++ List.replicate 0 x := by rw [flatB_snoc, hx.out]
              have hxn : Hid ((!x) = turnB false (c ++ [0])) := Lib.hid (by rw [turn_snoc, hx.out])
              have hfl := Lib.hid hfl
              go_wp2
              go_roundw
              case rel => exact ⟨_, 0 + i, _, by go_num, rfl, hat2, by rw [hfl.out]; exact hown3, H, hxn, hbel3⟩
              case measure =>
                have hz1 : zeroI (.int .i64 (i : Int)) = 0 := zeroI_pos (by omega)
                have hz2 : zeroI (.int .i64 ((0 : Nat) : Int)) = 1 := rfl
                rw [hlv4, hlv.out, hz1, hz2]
                omega
        · have hxx : True := trivial
          go_wp2_with (go_at_call 12; refine c1.out.mono ?_; rintro e' w1 ⟨rfl, hw1⟩)
          have hbel2 := then_call hbel hw1
          have hown2 := hown.below hw1
          clear hw1
          go_loopw [7, 13] (fun o t wr => ∃ q : Nat, t = .int .u64 q ∧ q ≤ k ∧ OwnRow wr w.heap.size 4 o (truths (flatB false c ++ List.replicate q x)) ∧ Below w.heap.size w wr) (fun _ t _ => k - (intOf t).toNat)
          case atStart => exact ⟨0, rfl, by omega, by simpa using hown2, hbel2⟩
          case round =>
            obtain ⟨q, rfl, hq, hown3, hbel3⟩ := hrel
            rcases Nat.lt_or_ge q (k) with hqk | hqk
            · have hlen3 : (truths (flatB false c ++ List.replicate q x)).length ≤ 140000 := by rw [truths_len]; simp; omega
              go_wp2_with (at_builtin; refine append_row elemT rfl (.tmp 56) (.tmp 58) rfl w.heap.size rfl (hown3.alloc _) rfl (row_box _ _ _) (by intro u hu; simp at hu; subst hu; rfl) (by simp; omega) (by have := hbel3.size; simp; omega) ?_; intro v6 w6 hown6 hb6; have hbel6 : Below w.heap.size w w6 := (then_box hbel3 _).trans hb6)
              go_roundw
              case rel => exact ⟨q + 1, by go_num, by omega, by rw [List.replicate_succ', ← List.append_assoc, truths_app]; exact hown6, hbel6⟩
              case measure => simp [intOf]; omega
            · have hqk' : k = q := by omega
              subst hqk'
              have hlv4 := hown3.row.lenV
              rw [truths_len, List.length_append, List.length_replicate, flatB_len, hT.out] at hlv4
              have hat2 := H.out.le
              have hfl : flatB false (c ++ [k]) = flatB false c ++ List.replicate k x := by rw [flatB_snoc, hx.out]
              have hxn : Hid ((!x) = turnB false (c ++ [k])) := Lib.hid (by rw [turn_snoc, hx.out])
              have hfl := Lib.hid hfl
              go_wp2
              go_roundw
              case rel => exact ⟨_, at' + i, _, by go_num, rfl, hat2, by rw [hfl.out]; exact hown3, H, hxn, hbel3⟩
              case measure =>
                have hz1 : zeroI (.int .i64 ((at' : Int) + (i : Int))) = 0 := zeroI_pos (by omega)
                rw [hlv4, hlv.out, hz1]
                omega
    · obtain ⟨hd1, hd2⟩ := hrd.out.done (by rw [hT.out]; omega) ht.out
      have hby := hv.out.byte
      obtain ⟨v3, hs3, hb3⟩ := hv.out.first hat
      obtain ⟨S, hS⟩ : ∃ S, strB (bytesB (flatB false c)) = S := ⟨_, rfl⟩
      obtain ⟨U, hU⟩ : ∃ U, strB (b.take at') = U := ⟨_, rfl⟩
      have hcv0 : (convert 22 9 v3).run Tryz.prog wr.drew = .ok (.string U) wr.drew := by rw [← hU]; exact run_bytes (w := wr.drew) (hb3.below (Below.drew hbel))
      have hcv : ∀ w1, Below wr.drew.heap.size wr.drew w1 → (convert 22 9 v3).run Tryz.prog w1 = .ok (.string U) w1 := fun w1 h1 => by
        rw [← hU]; exact run_bytes ((hb3.below (Below.drew hbel)).below h1)
      have hcv := hide hcv
      have c5 := (refBools_any _ (flatB false c) wr.drew hown.row.drew (by rw [flatB_len, hT.out]; omega)).mono (R' := fun e' w' => ∃ v', e' = .returned v' ∧ (convert 22 9 v').run Tryz.prog w' = .ok (.string S) w' ∧ Below wr.drew.heap.size wr.drew w')
        (fun e' w' ⟨v', h1, h2, h3⟩ => ⟨v', h1, by rw [← hS]; exact run_bytes (h2.bytes (bytesB_byte _)), h3⟩)
      have c5 := hide c5
      have HQ : ((S.toList == U.toList) = true ∧ Hid (l = flatB false c) ∧ a = at' ∧ e = 0) ∨ ((S.toList == U.toList) = false ∧ Hid (l = []) ∧ a = 0 ∧ e = 41) := by
        rw [← hS, ← hU, strB_beq (bytesB_byte _) (fun x hx => hby x (List.mem_of_mem_take hx))]
        by_cases h : bytesB (flatB false c) = b.take at'
        · obtain ⟨h1, h2, h3⟩ := hd1 h
          exact .inl ⟨decide_eq_true h, Lib.hid h1, h2, h3⟩
        · obtain ⟨h1, h2, h3⟩ := hd2 h
          exact .inr ⟨decide_eq_false h, Lib.hid h1, h2, h3⟩
      clear hd1 hd2 hby hb3 hS hU hlv
      rcases HQ with ⟨hq, hl, rfl, rfl⟩ | ⟨hq, hl, rfl, rfl⟩
      all_goals
        go_wp2_with (fail)
        go_region_with ((go_at_call 60; refine c5.out.mono ?_; rintro e' w1 ⟨v4, rfl, hcv1, hb4⟩; have hcv2 := hcv.out w1 hb4))
        all_goals
          have hbel4 : Below w.heap.size w w1 := then_call (Below.drew hbel) hb4
          go_wp2
          go_ret3
          first
            | exact ⟨_, rfl, by rw [hl.out]; exact hown.drew.below hb4, hbel4⟩
            | (rw [hl.out]; exact GivesT.nil hbel4)
end Go.Proofs.YthpgfnhecfgiaaaGreatDoor

namespace Go.Proofs.YthpgfnhecfgiaaaGreatDoor
open Go.RowKit Go.Sort
set_option maxRecDepth 20000

/-- The sums so far, the last one, and it without a sign. -/
def SumSo (d : List Int) (i : Nat) (s : List Int) (U : Int) : Prop := s = sumL 0 (d.take i) ∧ U = IntKind.u64.wrap (s.getLast?.getD 0)

theorem SumSo.start (d : List Int) : SumSo d 0 [] 0 := ⟨rfl, rfl⟩

theorem SumSo.next {d : List Int} {i : Nat} {s : List Int} {U x : Int} (h : SumSo d i s U) (hi : i < d.length) (hx : d.getD i 0 = x) :
    ∃ U' y, IntKind.u64.wrap (U + IntKind.u64.wrap x) = U' ∧ IntKind.i64.wrap U' = y ∧ SumSo d (i + 1) (s ++ [y]) U' ∧ 0 ≤ U' ∧ U' ≤ 18446744073709551615 := by
  obtain ⟨h1, h2⟩ := h
  refine ⟨_, _, rfl, rfl, ⟨?_, ?_⟩, ?_, ?_⟩
  · have e : d.take (i + 1) = d.take i ++ [x] := by
      rw [List.take_add_one, List.getElem?_eq_getElem hi]
      simp only [List.getD, List.getElem?_eq_getElem hi, Option.getD_some] at hx
      simp [hx]
    rw [e, sum_snoc, ← h1, h2]
    congr 2
    rw [IntKind.wrap_i64, IntKind.wrap_u64, IntKind.wrap_u64, IntKind.wrap_u64]
    unfold w64
    omega
  · rw [h2]
    simp
    rw [IntKind.wrap_i64, IntKind.wrap_u64, IntKind.wrap_u64, IntKind.wrap_u64, IntKind.wrap_u64]
    omega
  · rw [IntKind.wrap_u64]; omega
  · rw [IntKind.wrap_u64]; omega

set_option maxRecDepth 20000 in
set_option maxHeartbeats 2000000 in
theorem refTakeDeltas_of (v : Value) (n : Int) (d : List Int) (a e : Nat) (w : World) (hd : d.length ≤ 65536) (hz : e = 0 ∨ d = [] ∧ a = 0)
    (c1 : Hid (Calls Tryz.prog 13 #[v, .int .i64 n] w (GivesI d a e w))) :
    Calls Tryz.prog 15 #[v, .int .i64 n] w (GivesI (sumL 0 d) a e w) := by
  rcases Nat.eq_zero_or_pos e with rfl | he
  · go_enter Tryz.func15, Tryz.ntmps15
    go_wp2_with (go_at_call 13; refine c1.out.mono ?_; rintro e' w1 ⟨v1, rfl, hown1, hb1⟩; have hd1 := Lib.hid (show IntsAt w1 v1 d from hown1.row); have hlv := fun W => hd1.out.len (ty := 3) W)
    go_loopw [10, 11, 12] (fun o u t wr => ∃ (i : Nat) (s : List Int) (U : Int), t = .int .i64 i ∧ u = .int .u64 U ∧ i ≤ d.length ∧ s.length = i ∧ OwnRow wr w1.heap.size 3 o (ints s) ∧ Hid (SumSo d i s U) ∧ 0 ≤ U ∧ U ≤ 18446744073709551615 ∧ Below w1.heap.size w1 wr) (fun _ _ t _ => d.length - (intOf t).toNat)
    case atStart => exact ⟨0, [], 0, rfl, rfl, by omega, rfl, OwnRow.none_ _ _ _, Lib.hid (SumSo.start d), by omega, by omega, Below.refl _ _⟩
    case round =>
      obtain ⟨i, s, U, rfl, rfl, hi, hsl, hown, hso, hU0, hU1, hbel⟩ := hrel
      have hbw : Below w.heap.size w wr := then_call hb1 hbel
      rcases Nat.lt_or_ge i d.length with hil | hil
      · obtain ⟨ad, ha, hac, hab⟩ := hd1.out.index hil
        obtain ⟨x, hx⟩ : ∃ x, d.getD i 0 = x := ⟨_, rfl⟩
        rw [hx, ← hbel.cell (p := ad) hab] at hac
        obtain ⟨U', y, hsw1, hsw2, hnext, hU2, hU3⟩ := hso.out.next hil hx
        have hnext := Lib.hid hnext
        have hs65 : (ints s).length ≤ 65536 := by rw [ints_len]; omega
        have hsl := Lib.hid hsl
        clear hx hso
        go_wp2_with (at_builtin; refine append_row elemI rfl (.tmp 36) (.tmp 39) rfl w1.heap.size rfl (hown.alloc _) rfl (row_box _ _ _) (by intro u hu; simp at hu; subst hu; rfl) (by simp; omega) (by have := hbel.size; simp; omega) ?_; intro v6 w6 hown6 hb6; have hbel6 : Below w1.heap.size w1 w6 := (then_box hbel _).trans hb6)
        go_roundw
        case rel => exact ⟨i + 1, s ++ [y], U', by go_num, by go_num, by omega, by simp [hsl.out], by rw [ints_app]; exact hown6, hnext, hU2, hU3, hbel6⟩
        case measure => simp [intOf]; omega
      · have hd2 : Hid (s = sumL 0 d) := Lib.hid (by have := hso.out.1; rwa [List.take_of_length_le hil] at this)
        go_wp2
        go_ret3
        exact ⟨_, rfl, by rw [← hd2.out]; exact hown.lower hb1.size, hbw⟩
  · obtain ⟨rfl, rfl⟩ : d = [] ∧ a = 0 := by
      rcases hz with h | h
      · omega
      · exact h
    have hne : decide ((e : Int) = 0) = false := decide_eq_false (by omega)
    go_enter Tryz.func15, Tryz.ntmps15
    go_wp2_with (go_at_call 13; refine c1.out.mono ?_; rintro e' w1 ⟨v1, rfl, hown1, hb1⟩)
    go_ret3
    exact GivesI.nil hb1
end Go.Proofs.YthpgfnhecfgiaaaGreatDoor

namespace Go.Proofs.YthpgfnhecfgiaaaGreatDoor
open Go.RowKit Go.Sort
set_option maxRecDepth 20000

def GivenR (b : List Nat) (n : Int) (l : List Int) (a e : Nat) : Prop := ((n < 0 ∨ 65536 < n) ∧ l = [] ∧ a = 0 ∧ e = 1) ∨ ((0 ≤ n ∧ n ≤ 65536) ∧ TakenR b n.toNat l a e)
def GivenB (b : List Nat) (n : Int) (l : List Bool) (a e : Nat) : Prop := ((n < 0 ∨ 65536 < n) ∧ l = [] ∧ a = 0 ∧ e = 1) ∨ ((0 ≤ n ∧ n ≤ 65536) ∧ TakenB b n.toNat l a e)

theorem givenR_any (b : List Nat) (n : Int) : ∃ l a e, GivenR b n l a e := by
  by_cases h : 0 ≤ n ∧ n ≤ 65536
  · obtain ⟨l, a, e, ht⟩ := takenR_any b n.toNat
    exact ⟨l, a, e, .inr ⟨h, ht⟩⟩
  · exact ⟨[], 0, 1, .inl ⟨by omega, rfl, rfl, rfl⟩⟩
theorem givenB_any (b : List Nat) (n : Int) : ∃ l a e, GivenB b n l a e := by
  by_cases h : 0 ≤ n ∧ n ≤ 65536
  · obtain ⟨l, a, e, ht⟩ := takenB_any b n.toNat
    exact ⟨l, a, e, .inr ⟨h, ht⟩⟩
  · exact ⟨[], 0, 1, .inl ⟨by omega, rfl, rfl, rfl⟩⟩

/-- What is given: nothing, or a list that is there. -/
theorem GivenR.ways {b : List Nat} {n : Int} {l : List Int} {a e : Nat} (h : GivenR b n l a e) : (e = 0 ∧ 0 ≤ n ∧ n ≤ 65536 ∧ RunsOf b n.toNat l ∧ a = (bytesR l).length) ∨ ((e = 1 ∨ e = 41) ∧ l = [] ∧ a = 0) := by
  rcases h with ⟨_, h1, h2, h3⟩ | ⟨⟨h1, h2⟩, ⟨h3, h4, h5⟩ | ⟨_, h3, h4, h5⟩⟩
  · exact .inr ⟨.inl h3, h1, h2⟩
  · exact .inl ⟨h5, h1, h2, h3, h4⟩
  · exact .inr ⟨.inr h5, h3, h4⟩
theorem GivenB.ways {b : List Nat} {n : Int} {l : List Bool} {a e : Nat} (h : GivenB b n l a e) : (e = 0 ∧ 0 ≤ n ∧ n ≤ 65536 ∧ TruthsOf b n.toNat l ∧ a = (bytesB l).length) ∨ ((e = 1 ∨ e = 41) ∧ l = [] ∧ a = 0) := by
  rcases h with ⟨_, h1, h2, h3⟩ | ⟨⟨h1, h2⟩, ⟨h3, h4, h5⟩ | ⟨_, h3, h4, h5⟩⟩
  · exact .inr ⟨.inl h3, h1, h2⟩
  · exact .inl ⟨h5, h1, h2, h3, h4⟩
  · exact .inr ⟨.inr h5, h3, h4⟩
theorem GivenR.of {b : List Nat} {n : Int} {l l' : List Int} {a e : Nat} (h : GivenR b n l a e) (h' : RunsOf b n.toNat l') (h0 : 0 ≤ n) (h1 : n ≤ 65536) : l = l' ∧ a = (bytesR l').length ∧ e = 0 := by
  rcases h with ⟨h2, _⟩ | ⟨_, h2⟩
  · omega
  · exact h2.of h'
theorem GivenB.of {b : List Nat} {n : Int} {l l' : List Bool} {a e : Nat} (h : GivenB b n l a e) (h' : TruthsOf b n.toNat l') (h0 : 0 ≤ n) (h1 : n ≤ 65536) : l = l' ∧ a = (bytesB l').length ∧ e = 0 := by
  rcases h with ⟨h2, _⟩ | ⟨_, h2⟩
  · omega
  · exact h2.of h'

theorem GivenR.len {b : List Nat} {n : Int} {l : List Int} {a e : Nat} (h : GivenR b n l a e) : l.length ≤ 65536 ∧ a ≤ b.length ∧ (e = 0 ∨ e = 1 ∨ e = 41) := by
  rcases h.ways with ⟨h1, h2, h3, h4, h5⟩ | ⟨h1, rfl, rfl⟩
  · have := h4.1
    have h6 := h4.2.2.length_le
    exact ⟨by omega, by omega, .inl h1⟩
  · exact ⟨by simp, by omega, by omega⟩
theorem GivenB.len {b : List Nat} {n : Int} {l : List Bool} {a e : Nat} (h : GivenB b n l a e) : l.length ≤ 65536 ∧ a ≤ b.length ∧ (e = 0 ∨ e = 1 ∨ e = 41) := by
  rcases h.ways with ⟨h1, h2, h3, h4, h5⟩ | ⟨h1, rfl, rfl⟩
  · have := h4.1
    have h6 := h4.2.length_le
    exact ⟨by omega, by omega, .inl h1⟩
  · exact ⟨by simp, by omega, by omega⟩

theorem refTakeRuns_given {v : Value} {b : List Nat} {n : Int} {l : List Int} {a e : Nat} {w : World} (hv : BytesAt w v b) (h : GivenR b n l a e) :
    Calls Tryz.prog 13 #[v, .int .i64 n] w (GivesI l a e w) := by
  rcases h with ⟨h1, rfl, rfl, rfl⟩ | ⟨⟨h1, h2⟩, h3⟩
  · exact refTakeRuns_arg v n w h1
  · obtain ⟨m, rfl⟩ : ∃ m : Nat, n = m := ⟨n.toNat, by omega⟩
    exact refTakeRuns_any v b m l a e w hv (by omega) (by simpa using h3)

theorem refTakeDeltas_given {v : Value} {b : List Nat} {n : Int} {d : List Int} {a e : Nat} {w : World} (hv : BytesAt w v b) (h : GivenR b n d a e) :
    Calls Tryz.prog 15 #[v, .int .i64 n] w (GivesI (sumL 0 d) a e w) := by
  refine refTakeDeltas_of v n d a e w h.len.1 ?_ (Lib.hid (refTakeRuns_given hv h))
  rcases h.ways with ⟨h1, _⟩ | ⟨_, h1⟩
  · exact .inl h1
  · exact .inr h1

theorem refTakeBools_given {v : Value} {b : List Nat} {n : Int} {l : List Bool} {a e : Nat} {w : World} (hv : BytesAt w v b) (h : GivenB b n l a e) :
    Calls Tryz.prog 37 #[v, .int .i64 n] w (GivesT l a e w) := by
  rcases h with ⟨h1, rfl, rfl, rfl⟩ | ⟨⟨h1, h2⟩, h3⟩
  · exact refTakeBools_arg v n w h1
  · obtain ⟨m, rfl⟩ : ∃ m : Nat, n = m := ⟨n.toNat, by omega⟩
    exact refTakeBools_any v b m l a e w hv (by omega) (by simpa using h3)
end Go.Proofs.YthpgfnhecfgiaaaGreatDoor
