/-
  TakeRuns, the code's own.
-/
import Derived.Test.YtdonbgejnllhlaaCcTake
namespace Go.Proofs.Ytdonbgejnllhlaa
open Go.RowKit Go.Sort

set_option maxRecDepth 20000 in
set_option maxHeartbeats 2000000 in
theorem cTakeRuns_any (v : Value) (b : List Nat) (n : Nat) (l : List Int) (a e : Nat) (w : World) (hv : BytesAt w v b) (hn : n ≤ 65536) (ht : TakenR b n l a e) :
    Calls Try.prog 18 #[v, .int .i64 n] w (GivesI l a e w) := by
  have hlb : (b.length : Int) ≤ 9223372036854775807 := by have := hv.row.le; rwa [bvals_length] at this
  have hv := Lib.hid hv
  have ht := Lib.hid ht
  have c0 := hide (fun W => mayCount_yes n (by omega) (by omega) W)
  go_enter Try.func18, Try.ntmps18
  go_wp2_with (go_at_call 31; refine (c0.out _).mono ?_; rintro e' w1 ⟨rfl, rfl⟩)
  go_loopw [7, 8] (fun o' t wr => ∃ (o : Value) (m : List Int) (at' : Nat), o = o' ∧ t = .int .i64 at' ∧ at' ≤ b.length ∧ OwnRow wr w.heap.size 3 o (ints m) ∧ Hid (Read b n (runsL m) at') ∧ Below w.heap.size w wr) (fun o _ _ => n - lenV o)
  case atStart => exact ⟨_, [], 0, rfl, rfl, by omega, OwnRow.none_ _ _ _, Lib.hid (Read.start b n), Below.refl _ _⟩
  case round =>
    obtain ⟨o, m, at', rfl, rfl, hat, hown, hrd, hbel⟩ := hrel
    have hlo := fun W => hown.row.len elemI.ht (ty := 3) W
    have hlv := hown.row.lenV
    rw [ints_len] at hlo hlv
    have htot := hrd.out.tot
    rw [total_runs] at htot
    obtain ⟨T, hT⟩ : ∃ T, m.length = T := ⟨_, rfl⟩
    rw [hT] at hlo hlv htot
    have hT := Lib.hid hT
    rcases Nat.lt_or_ge T n with hlt | hge
    · obtain ⟨v1, hs1, hb1⟩ := hv.out.cut hat
      obtain ⟨k, i, e1, ht1⟩ := taken_any (b.drop at')
      obtain ⟨hk64, hi10, hil, he31⟩ := ht1.bounds
      rw [List.length_drop] at hil
      obtain ⟨x, j, f1, ht2⟩ := taken_any (b.drop (at' + i))
      obtain ⟨hx64, hj10, hjl, hf31⟩ := ht2.bounds
      rw [List.length_drop] at hjl
      obtain ⟨M, hM⟩ : ∃ M : Nat, (n : Int) - T = M := ⟨n - T, by omega⟩
      obtain ⟨X, hX⟩ : ∃ X, zagN x = X := ⟨_, rfl⟩
      have hlv := Lib.hid hlv
      -- how a round may go
      have HW : ((e1 = 31 ∨ e1 = 0 ∧ (k < 1 ∨ M < k)) ∧ Hid (l = [] ∧ a = 0 ∧ e = 41)) ∨
          (e1 = 0 ∧ 1 ≤ k ∧ k ≤ M ∧ f1 = 31 ∧ Hid (l = [] ∧ a = 0 ∧ e = 41)) ∨
          (e1 = 0 ∧ 1 ≤ k ∧ k ≤ M ∧ f1 = 0 ∧ Hid (m.getLast? = some X) ∧ Hid (l = [] ∧ a = 0 ∧ e = 41)) ∨
          (e1 = 0 ∧ 1 ≤ k ∧ k ≤ M ∧ f1 = 0 ∧ Hid (∀ y, m.getLast? = some y → y ≠ X) ∧ Hid (Read b n (runsL (m ++ List.replicate k X)) (at' + i + j))) := by
        have hno : (e1 = 31 ∨ (e1 = 0 ∧ f1 = 31) ∨ (e1 = 0 ∧ f1 = 0 ∧ n < T + k) ∨ (e1 = 0 ∧ f1 = 0 ∧ k = 0)) → Hid (l = [] ∧ a = 0 ∧ e = 41) := fun h =>
          Lib.hid (ht.out.none_ (hrd.out.stops (by rw [total_runs, hT.out]; exact hlt) hn ht1 ht2 (by rw [total_runs, hT.out]; exact h)))
        rcases ht1.ways with ⟨_, hp1, hi1, h1⟩ | h1
        · rcases ht2.ways with ⟨hx1, hp2, hj1, h2⟩ | h2
          · by_cases h3 : n < T + k
            · exact .inl ⟨.inr ⟨h1, by omega⟩, hno (.inr (.inr (.inl ⟨h1, h2, h3⟩)))⟩
            · by_cases h4 : k = 0
              · exact .inl ⟨.inr ⟨h1, by omega⟩, hno (.inr (.inr (.inr ⟨h1, h2, h4⟩)))⟩
              · subst hi1 hj1
                by_cases h5 : m.getLast? = some X
                · refine .inr (.inr (.inl ⟨h1, by omega, by omega, h2, Lib.hid h5, Lib.hid (ht.out.none_ ?_)⟩))
                  exact hrd.out.alike (by rw [hT.out]; exact hlt) (by rw [hX]; exact h5) hp1 hp2
                · refine .inr (.inr (.inr ⟨h1, by omega, by omega, h2, Lib.hid (fun y hy he => h5 (by rw [hy, he])), Lib.hid ?_⟩))
                  rw [← hX]
                  exact hrd.out.more (by omega) hx1 (by rw [hT.out]; omega) (fun y hy he => h5 (by rw [hy, he, hX])) hp1 hp2
          · by_cases h4 : 1 ≤ k ∧ k ≤ M
            · exact .inr (.inl ⟨h1, h4.1, h4.2, h2, hno (.inr (.inl ⟨h1, h2⟩))⟩)
            · exact .inl ⟨.inr ⟨h1, by omega⟩, hno (.inr (.inl ⟨h1, h2⟩))⟩
        · exact .inl ⟨.inl h1, hno (.inl h1)⟩
      have ht2' : Taken ((b.drop at').drop i) x j f1 := by rw [List.drop_drop]; exact ht2
      have hM3 : M ≤ 65536 := by omega
      -- the last one of what there is
      have HL : (T = 0 ∧ Hid (m.getLast? = none)) ∨ (0 < T ∧ ∃ ld y, (∀ W, (Instr.indexAt 22 o (.int .i64 ((T : Int) - 1))).run Try.prog W = .ok (.pointer (some ld)) W) ∧ wr.cell? ld = some (.int .i64 y) ∧ Hid (m.getLast? = some y)) := by
        rcases Nat.eq_zero_or_pos T with h | h
        · refine .inl ⟨h, Lib.hid ?_⟩
          have : m = [] := List.eq_nil_of_length_eq_zero (by rw [hT.out]; exact h)
          rw [this]; rfl
        · have hi : T - 1 < m.length := by rw [hT.out]; omega
          obtain ⟨ld, h1, h2, _⟩ := IntsAt.index (l := m) hown.row hi
          refine .inr ⟨h, ld, m.getD (T - 1) 0, ?_, h2, Lib.hid ?_⟩
          · rw [show ((T - 1 : Nat) : Int) = (T : Int) - 1 by omega] at h1; exact h1
          · rw [List.getLast?_eq_getElem?, hT.out]
            simp [List.getD, List.getElem?_eq_getElem hi]
      rcases HW with ⟨h1, H⟩ | ⟨rfl, h1, h2, rfl, H⟩ | ⟨rfl, h1, h2, rfl, h3, H⟩ | ⟨rfl, h1, h2, rfl, h3, H⟩
      · obtain ⟨rfl, rfl, rfl⟩ := H.out
        have c1 := hide (takeRun_no M (hb1.below hbel) ht1 h1 hM3)
        clear ht1 ht2 ht2' hb1 h1 HL
        go_wp2_with (go_at_call 32; refine c1.out.mono ?_; rintro e' w1 ⟨rfl, rfl⟩)
        go_ret3
        exact GivesI.nil hbel
      · obtain ⟨rfl, rfl, rfl⟩ := H.out
        have c1 := hide (takeRun_yes M (hb1.below hbel) ht1 h1 h2 hM3 ht2' hX)
        clear ht1 ht2 ht2' hb1 hX HL
        go_wp2_with (go_at_call 32; refine c1.out.mono ?_; rintro e' w1 ⟨rfl, rfl⟩)
        go_ret3
        exact GivesI.nil hbel
      · obtain ⟨rfl, rfl, rfl⟩ := H.out
        have c1 := hide (takeRun_yes M (hb1.below hbel) ht1 h1 h2 hM3 ht2' hX)
        clear ht1 ht2 ht2' hb1 hX
        rcases HL with ⟨_, hl0⟩ | ⟨hT0, ld, y, hix, hcy, hl0⟩
        · have := h3.out
          rw [hl0.out] at this
          cases this
        · have hyX : y = X := by
            have := hl0.out.symm.trans h3.out
            injection this
          subst hyX
          go_wp2_with (go_at_call 32; refine c1.out.mono ?_; rintro e' w1 ⟨rfl, rfl⟩)
          go_ret3
          exact GivesI.nil hbel
      · have c1 := hide (takeRun_yes M (hb1.below hbel) ht1 h1 h2 hM3 ht2' hX)
        have c2 := hide (growI_any w.heap.size o m X k wr hown hbel.size (by rw [hT.out]; omega) (by omega))
        clear ht1 ht2 ht2' hb1 hX
        have hat2 := H.out.le
        rcases HL with ⟨hT0, hl0⟩ | ⟨hT0, ld, y, hix, hcy, hl0⟩
        · have hq : decide (0 < T) = false := decide_eq_false (by omega)
          clear hT0
          go_wp2_with (first
            | (go_at_call 32; refine c1.out.mono ?_; rintro e' w1 ⟨rfl, rfl⟩)
            | (go_at_call 33; refine c2.out.mono ?_; rintro e' w2 ⟨v2, rfl, hown2, hb2⟩))
          have hlv4 := hown2.row.lenV
          rw [ints_len, List.length_append, List.length_replicate, hT.out] at hlv4
          go_roundw
          case rel => exact ⟨v2, _, at' + i + j, rfl, by go_num, hat2, hown2, H, hbel.trans hb2⟩
          case measure => rw [hlv4, hlv.out]; omega
        · have hyX : y ≠ X := h3.out y hl0.out
          have hq : (y == X) = false := beq_false_of_ne hyX
          clear hyX
          go_wp2_with (first
            | (go_at_call 32; refine c1.out.mono ?_; rintro e' w1 ⟨rfl, rfl⟩)
            | (go_at_call 33; refine c2.out.mono ?_; rintro e' w2 ⟨v2, rfl, hown2, hb2⟩))
          have hlv4 := hown2.row.lenV
          rw [ints_len, List.length_append, List.length_replicate, hT.out] at hlv4
          go_roundw
          case rel => exact ⟨v2, _, at' + i + j, rfl, by go_num, hat2, hown2, H, hbel.trans hb2⟩
          case measure => rw [hlv4, hlv.out]; omega
    · obtain ⟨hl1, rfl, rfl⟩ := hrd.out.runsEnd (by rw [hT.out]; omega) ht.out
      have hl1 := Lib.hid hl1
      go_wp2
      go_ret3
      exact ⟨_, rfl, by rw [hl1.out]; exact hown, hbel⟩
end Go.Proofs.Ytdonbgejnllhlaa
