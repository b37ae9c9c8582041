/-
  TakeRuns, the document's own answer.
-/
import Derived.Test.YtdonbgejnllhlaaCoCut
import Derived.Outline
namespace Go.Proofs.Ytdonbgejnllhlaa
open Go.RowKit Go.Sort

theorem encR_byte : ∀ rs : List (Nat × Int), ∀ x ∈ encR rs, x < 256
  | [], x, h => by simp [encR] at h
  | (k, y) :: r, x, h => by
    rw [encR] at h
    rcases List.mem_append.1 h with h | h
    · exact putL_byte _ x h
    · rcases List.mem_append.1 h with h | h
      · exact putL_byte _ x h
      · exact encR_byte r x h
theorem bytesR_byte (l : List Int) : ∀ x ∈ bytesR l, x < 256 := encR_byte _

/-- What a taker of integers hands back. -/
def GivesI (l : List Int) (a e : Nat) (w : World) : Ending → World → Prop :=
  fun e' w' => ∃ v', e' = .returned (.tuple #[v', .int .i64 a, .int .i64 e]) ∧ OwnRow w' w.heap.size 3 v' (ints l) ∧ Below w.heap.size w w'

theorem GivesI.nil {w w' : World} {a e : Nat} (hb : Below w.heap.size w w') : GivesI [] a e w (.returned (.tuple #[.slice none 0 0, .int .i64 a, .int .i64 e])) w' :=
  ⟨_, rfl, OwnRow.none_ _ _ _, hb⟩

set_option maxRecDepth 20000 in
set_option maxHeartbeats 1000000 in
theorem refTakeRuns_arg (v : Value) (n : Int) (w : World) (hn : n < 0 ∨ 65536 < n) :
    Calls Try.prog 19 #[v, .int .i64 n] w (GivesI [] 0 1 w) := by
  rcases hn with h | h
  · go_enter Try.func19, Try.ntmps19
    go_wp2
    go_ret3
    exact GivesI.nil (Below.refl _ _)
  · go_enter Try.func19, Try.ntmps19
    go_wp2
    go_ret3
    exact GivesI.nil (Below.refl _ _)

set_option maxRecDepth 20000 in
set_option maxHeartbeats 2000000 in
theorem refTakeRuns_any (v : Value) (b : List Nat) (n : Nat) (l : List Int) (a e : Nat) (w : World) (hv : BytesAt w v b) (hn : n ≤ 65536) (ht : TakenR b n l a e) :
    Calls Try.prog 19 #[v, .int .i64 n] w (GivesI l a e w) := by
  have hlb : (b.length : Int) ≤ 9223372036854775807 := by have := hv.row.le; rwa [bvals_length] at this
  have hv := Lib.hid hv
  have ht := Lib.hid ht
  go_enter Try.func19, Try.ntmps19
  go_wp2
  go_loopw [7, 8] (fun o t wr => ∃ (rs : List (Nat × Int)) (at' : Nat), t = .int .i64 at' ∧ at' ≤ b.length ∧ OwnRow wr w.heap.size 3 o (ints (flatL rs)) ∧ Hid (Read b n rs at') ∧ Below w.heap.size w wr) (fun o _ _ => n - lenV o)
  case atStart => exact ⟨[], 0, rfl, by omega, OwnRow.none_ _ _ _, Lib.hid (Read.start b n), Below.refl _ _⟩
  case round =>
    obtain ⟨rs, at', rfl, hat, hown, hrd, hbel⟩ := hrel
    have hlo := fun W => hown.row.len elemI.ht (ty := 3) W
    have hlv := hown.row.lenV
    rw [ints_len, flat_len] at hlo hlv
    have htot := hrd.out.tot
    obtain ⟨T, hT⟩ : ∃ T, total rs = T := ⟨_, rfl⟩
    rw [hT] at hlo hlv htot
    have hT := Lib.hid hT
    rcases Nat.lt_or_ge T n with hlt | hge
    · obtain ⟨v1, hs1, hb1⟩ := hv.out.cut hat
      obtain ⟨k, i, e1, ht1⟩ := taken_any (b.drop at')
      obtain ⟨hk64, hi10, hil, he31⟩ := ht1.bounds
      rw [List.length_drop] at hil
      obtain ⟨v2, hs2, hb2⟩ := hv.out.cut (k := at' + i) (by omega)
      simp only [Int.natCast_add] at hs2
      obtain ⟨x, j, f1, ht2⟩ := taken_any (b.drop (at' + i))
      obtain ⟨hx64, hj10, hjl, hf31⟩ := ht2.bounds
      rw [List.length_drop] at hjl
      have c1 := hide (refTake_at (hb1.below hbel) ht1)
      have hcont : ∀ w2, Below wr.heap.size wr w2 → Calls Try.prog 34 #[v2] w2 (Ret (.tuple #[.int .u64 x, .int .i64 j, .int .i64 f1]) w2) := fun w2 hw2 => refTake_at (hb2.below (then_call hbel hw2)) ht2
      have c2 := hide hcont
      have HW : (e1 = 31 ∧ Hid (l = [] ∧ a = 0 ∧ e = 41)) ∨ (e1 = 0 ∧ f1 = 31 ∧ Hid (l = [] ∧ a = 0 ∧ e = 41)) ∨ (e1 = 0 ∧ f1 = 0 ∧ n < T + k ∧ Hid (l = [] ∧ a = 0 ∧ e = 41)) ∨ (e1 = 0 ∧ f1 = 0 ∧ k = 0 ∧ Hid (l = [] ∧ a = 0 ∧ e = 41)) ∨
          (e1 = 0 ∧ f1 = 0 ∧ T + k ≤ n ∧ 1 ≤ k ∧ Hid (Read b n (rs ++ [(k, zagN x)]) (at' + i + j))) := by
        have hno : (e1 = 31 ∨ (e1 = 0 ∧ f1 = 31) ∨ (e1 = 0 ∧ f1 = 0 ∧ n < T + k) ∨ (e1 = 0 ∧ f1 = 0 ∧ k = 0)) → Hid (l = [] ∧ a = 0 ∧ e = 41) := fun h =>
          Lib.hid (ht.out.none_ (hrd.out.stops (by rw [hT.out]; exact hlt) hn ht1 ht2 (by rw [hT.out]; exact h)))
        rcases ht1.ways with ⟨_, hp1, hi1, h1⟩ | h1
        · rcases ht2.ways with ⟨hx1, hp2, hj1, h2⟩ | h2
          · by_cases h3 : n < T + k
            · exact .inr (.inr (.inl ⟨h1, h2, h3, hno (.inr (.inr (.inl ⟨h1, h2, h3⟩)))⟩))
            · by_cases h4 : k = 0
              · exact .inr (.inr (.inr (.inl ⟨h1, h2, h4, hno (.inr (.inr (.inr ⟨h1, h2, h4⟩)))⟩)))
              · refine .inr (.inr (.inr (.inr ⟨h1, h2, by omega, by omega, Lib.hid ?_⟩)))
                subst hi1 hj1
                exact hrd.out.step (by omega) hx1 (by rw [hT.out]; omega) hp1 hp2
          · exact .inr (.inl ⟨h1, h2, hno (.inr (.inl ⟨h1, h2⟩))⟩)
        · exact .inl ⟨h1, hno (.inl h1)⟩
      clear ht1 ht2 hb1 hb2 hcont
      have hlv := Lib.hid hlv
      rcases HW with ⟨rfl, H⟩ | ⟨rfl, rfl, H⟩ | ⟨rfl, rfl, h3, H⟩ | ⟨rfl, rfl, rfl, H⟩ | ⟨rfl, rfl, h3, h4, H⟩
      · obtain ⟨rfl, rfl, rfl⟩ := H.out
        go_wp2_with (go_at_call 34; (first | ((with_reducible refine c1.out.mono ?_); rintro e' w1 ⟨rfl, hw1⟩) | (refine (c2.out _ hw1).mono ?_; rintro e' w2 ⟨rfl, hw2⟩)))
        go_ret3
        exact GivesI.nil (then_call (then_call hbel hw1) hw2)
      · obtain ⟨rfl, rfl, rfl⟩ := H.out
        go_wp2_with (go_at_call 34; (first | ((with_reducible refine c1.out.mono ?_); rintro e' w1 ⟨rfl, hw1⟩) | (refine (c2.out _ hw1).mono ?_; rintro e' w2 ⟨rfl, hw2⟩)))
        go_ret3
        exact GivesI.nil (then_call (then_call hbel hw1) hw2)
      · obtain ⟨rfl, rfl, rfl⟩ := H.out
        have h3' : (n : Int) - T < k := by omega
        go_wp2_with (go_at_call 34; (first | ((with_reducible refine c1.out.mono ?_); rintro e' w1 ⟨rfl, hw1⟩) | (refine (c2.out _ hw1).mono ?_; rintro e' w2 ⟨rfl, hw2⟩)))
        go_ret3
        exact GivesI.nil (then_call (then_call hbel hw1) hw2)
      · obtain ⟨rfl, rfl, rfl⟩ := H.out
        go_wp2_with (go_at_call 34; (first | ((with_reducible refine c1.out.mono ?_); rintro e' w1 ⟨rfl, hw1⟩) | (refine (c2.out _ hw1).mono ?_; rintro e' w2 ⟨rfl, hw2⟩)))
        have hbel2 := then_call (then_call hbel hw1) hw2
        go_loopw [7, 15] (fun _ t wr => t = .int .u64 0 ∧ Below w.heap.size w wr) (fun _ _ _ => 0)
        case atStart => exact ⟨rfl, hbel2⟩
        case round =>
          obtain ⟨rfl, hb4⟩ := hrel
          go_wp2
          go_ret3
          exact GivesI.nil hb4
      · have hnt : (k : Int) ≤ (n : Int) - T := by omega
        go_wp2_with (go_at_call 34; (first | ((with_reducible refine c1.out.mono ?_); rintro e' w1 ⟨rfl, hw1⟩) | (refine (c2.out _ hw1).mono ?_; rintro e' w2 ⟨rfl, hw2⟩)))
        have hbel2 := then_call (then_call hbel hw1) hw2
        obtain ⟨X, hX⟩ : ∃ X, zagN x = X := ⟨_, rfl⟩
        have c3 := hide (fun W => refZag_N hX hx64 W)
        rw [hX] at H
        have hown2 := (hown.below hw1).below hw2
        have hflat : (flatL rs).length ≤ 65536 := by rw [flat_len, hT.out]; omega
        clear hX hw1 hw2
        go_loopw [7, 15] (fun o t wr => ∃ q : Nat, t = .int .u64 q ∧ q ≤ k ∧ OwnRow wr w.heap.size 3 o (ints (flatL rs ++ List.replicate q X)) ∧ Below w.heap.size w wr) (fun _ t _ => k - (intOf t).toNat)
        case atStart => exact ⟨0, rfl, by omega, by simpa using hown2, hbel2⟩
        case round =>
          obtain ⟨q, rfl, hq, hown3, hbel3⟩ := hrel
          rcases Nat.lt_or_ge q k with hqk | hqk
          · have hlen3 : (ints (flatL rs ++ List.replicate q X)).length ≤ 140000 := by rw [ints_len]; simp; omega
            go_wp2_with (first
              | (go_at_call 35; refine (c3.out _).mono ?_; rintro e' w5 ⟨rfl, rfl⟩)
              | (at_builtin; refine append_row elemI rfl (.tmp 64) (.tmp 67) rfl w.heap.size rfl (hown3.alloc _) rfl (row_box _ _ _) (by intro u hu; simp at hu; subst hu; rfl) (by simp; omega) (by have := hbel3.size; simp; omega) ?_; intro v6 w6 hown6 hb6; have hbel6 : Below w.heap.size w w6 := (then_box hbel3 _).trans hb6))
            go_roundw
            case rel => exact ⟨q + 1, by go_num, by omega, by rw [List.replicate_succ', ← List.append_assoc, ints_app]; exact hown6, hbel6⟩
            case measure => simp [intOf]; omega
          · obtain rfl : q = k := by omega
            have hlv4 := hown3.row.lenV
            rw [ints_len, List.length_append, List.length_replicate, flat_len, hT.out] at hlv4
            have hat2 := H.out.le
            go_wp2
            go_roundw
            case rel => exact ⟨_, at' + i + j, by go_num, hat2, by rw [flat_snoc]; exact hown3, H, hbel3⟩
            case measure => rw [hlv4, hlv.out]; omega
    · obtain ⟨hd1, hd2⟩ := hrd.out.done (by rw [hT.out]; omega) ht.out
      have hby := hv.out.byte
      obtain ⟨v3, hs3, hb3⟩ := hv.out.first hat
      obtain ⟨S, hS⟩ : ∃ S, strB (bytesR (flatL rs)) = S := ⟨_, rfl⟩
      obtain ⟨U, hU⟩ : ∃ U, strB (b.take at') = U := ⟨_, rfl⟩
      have hcv0 : (convert 26 9 v3).run Try.prog wr.drew = .ok (.string U) wr.drew := by rw [← hU]; exact run_bytes (w := wr.drew) (hb3.below (Below.drew hbel))
      have hcv : ∀ w1, Below wr.drew.heap.size wr.drew w1 → (convert 26 9 v3).run Try.prog w1 = .ok (.string U) w1 := fun w1 h1 => by
        rw [← hU]; exact run_bytes ((hb3.below (Below.drew hbel)).below h1)
      have hcv := hide hcv
      have c5 := (refRuns_any _ (flatL rs) wr.drew hown.row.drew hrd.out.inr (by rw [flat_len, hT.out]; omega)).mono (R' := fun e' w' => ∃ v', e' = .returned v' ∧ (convert 26 9 v').run Try.prog w' = .ok (.string S) w' ∧ Below wr.drew.heap.size wr.drew w')
        (fun e' w' ⟨v', h1, h2, h3⟩ => ⟨v', h1, by rw [← hS]; exact run_bytes (h2.bytes (bytesR_byte _)), h3⟩)
      have c5 := hide c5
      have HQ : ((S.toList == U.toList) = true ∧ Hid (l = flatL rs) ∧ a = at' ∧ e = 0) ∨ ((S.toList == U.toList) = false ∧ Hid (l = []) ∧ a = 0 ∧ e = 41) := by
        rw [← hS, ← hU, strB_beq (bytesR_byte _) (fun x hx => hby x (List.mem_of_mem_take hx))]
        by_cases h : bytesR (flatL rs) = b.take at'
        · obtain ⟨h1, h2, h3⟩ := hd1 h
          exact .inl ⟨decide_eq_true h, Lib.hid h1, h2, h3⟩
        · obtain ⟨h1, h2, h3⟩ := hd2 h
          exact .inr ⟨decide_eq_false h, Lib.hid h1, h2, h3⟩
      clear hd1 hd2 hby hb3 hS hU hlv
      rcases HQ with ⟨hq, hl, rfl, rfl⟩ | ⟨hq, hl, rfl, rfl⟩
      all_goals
        go_wp2_with (fail)
        go_region_with ((go_at_call 12; refine c5.out.mono ?_; rintro e' w1 ⟨v4, rfl, hcv1, hb4⟩; have hcv2 := hcv.out w1 hb4))
        all_goals
          have hbel4 : Below w.heap.size w w1 := then_call (Below.drew hbel) hb4
          go_wp2
          go_ret3
          first
            | exact ⟨_, rfl, by rw [hl.out]; exact hown.drew.below hb4, hbel4⟩
            | (rw [hl.out]; exact GivesI.nil hbel4)
end Go.Proofs.Ytdonbgejnllhlaa
