/-
  The stable sort: runs of twenty, then ever longer ones.
-/
import Derived.Test.YteclkaecjogbjaaSoMerge
namespace Go.Proofs.Yteclkaecjogbjaa
open Go.RowKit Go.Sort

/-- Runs of K rise up to hi, and each place's element is of its own run. -/
structure Blk (L : Nat → OpV) (K n hi : Nat) (s : Nat → Nat) : Prop where
  own : ∀ t, t < n → s t / K = t / K
  up : ∀ t u, t < u → u < hi → t / K = u / K → Pc L (s t) (s u)
theorem Blk.insert {L : Nat → OpV} {n a e : Nat} {s s2 : Nat → Nat} (ha : a % 20 = 0) (he : e ≤ a + 20) (hen : e ≤ n) (h : Blk L 20 n a s) (p : Per a e s s2) (hs : Srt L a e s2) : Blk L 20 n e s2 := by
  refine ⟨fun t ht => ?_, fun t u h1 h2 h3 => ?_⟩
  · by_cases g : a ≤ t ∧ t < e
    · obtain ⟨x, x1, x2, x3⟩ := p.mem g.1 g.2
      rw [x3, h.own x (by omega)]; omega
    · rw [p.out (by omega)]; exact h.own t ht
  · by_cases g : u < a
    · rw [p.out (t := t) (by omega), p.out (t := u) (by omega)]; exact h.up t u h1 g h3
    · exact hs t u (by omega) h1 h2

/-- Up to a runs of twice K, from there on of K. -/
structure Twice (L : Nat → OpV) (K n a : Nat) (s : Nat → Nat) : Prop where
  own2 : ∀ t, t < n → s t / (2 * K) = t / (2 * K)
  up2 : ∀ t u, t < u → u < a → t / (2 * K) = u / (2 * K) → Pc L (s t) (s u)
  own : ∀ t, a ≤ t → t < n → s t / K = t / K
  up : ∀ t u, a ≤ t → t < u → u < n → t / K = u / K → Pc L (s t) (s u)
theorem Twice.start {L : Nat → OpV} {K n : Nat} {s : Nat → Nat} (hK : K = 20 ∨ K = 40 ∨ K = 80) (h : Blk L K n n s) : Twice L K n 0 s :=
  ⟨fun t ht => by have := h.own t ht; rcases hK with rfl | rfl | rfl <;> omega, fun t u _ h _ => by omega, fun t _ ht => h.own t ht, fun t u _ h1 h2 h3 => h.up t u h1 h2 h3⟩
theorem Twice.left {L : Nat → OpV} {K n a : Nat} {s : Nat → Nat} (hK : K = 20 ∨ K = 40 ∨ K = 80) (ha : a % (2 * K) = 0) (h : Twice L K n a s) (hn : a + K ≤ n) : Srt L a (a + K) s := fun t u h1 h2 h3 => h.up t u h1 h2 (by omega) (by rcases hK with rfl | rfl | rfl <;> omega)
theorem Twice.right {L : Nat → OpV} {K n a e : Nat} {s : Nat → Nat} (hK : K = 20 ∨ K = 40 ∨ K = 80) (ha : a % (2 * K) = 0) (h : Twice L K n a s) (he : e ≤ a + 2 * K) (hn : e ≤ n) : Srt L (a + K) e s := fun t u h1 h2 h3 => h.up t u (by omega) h2 (by omega) (by rcases hK with rfl | rfl | rfl <;> omega)
theorem Twice.less {L : Nat → OpV} {K n a e : Nat} {s : Nat → Nat} (hK : K = 20 ∨ K = 40 ∨ K = 80) (ha : a % (2 * K) = 0) (h : Twice L K n a s) (he : e ≤ a + 2 * K) (hn : e ≤ n) (t u : Nat) (h1 : a ≤ t) (h2 : t < a + K) (h3 : a + K ≤ u) (h4 : u < e) : s t < s u := by
  have e1 := h.own t h1 (by omega)
  have e2 := h.own u (by omega) (by omega)
  rcases hK with rfl | rfl | rfl <;> omega
theorem Twice.step {L : Nat → OpV} {K n a e : Nat} {s s2 : Nat → Nat} (hK : K = 20 ∨ K = 40 ∨ K = 80) (ha : a % (2 * K) = 0) (h : Twice L K n a s) (hae : a ≤ e) (he : e ≤ a + 2 * K) (hn : e ≤ n) (p : Per a e s s2) (hs : Srt L a e s2) : Twice L K n e s2 := by
  refine ⟨fun t ht => ?_, fun t u h1 h2 h3 => ?_, fun t h1 h2 => ?_, fun t u h1 h2 h3 h4 => ?_⟩
  · by_cases g : a ≤ t ∧ t < e
    · obtain ⟨x, x1, x2, x3⟩ := p.mem g.1 g.2
      rw [x3, h.own2 x (by omega)]
      rcases hK with rfl | rfl | rfl <;> omega
    · rw [p.out (by omega)]; exact h.own2 t ht
  · by_cases g : u < a
    · rw [p.out (t := t) (by omega), p.out (t := u) (by omega)]; exact h.up2 t u h1 g h3
    · exact hs t u (by rcases hK with rfl | rfl | rfl <;> omega) h1 h2
  · rw [p.out (by omega)]; exact h.own t (by omega) h2
  · rw [p.out (t := t) (by omega), p.out (t := u) (by omega)]; exact h.up t u (by omega) h2 h3 h4
theorem Twice.done {L : Nat → OpV} {K n a : Nat} {s : Nat → Nat} (hK : K = 20 ∨ K = 40 ∨ K = 80) (ha : a % (2 * K) = 0) (h : Twice L K n a s) (hn : n ≤ a + K) : Blk L (2 * K) n n s := by
  refine ⟨h.own2, fun t u h1 h2 h3 => ?_⟩
  by_cases g : u < a
  · exact h.up2 t u h1 g h3
  · exact h.up t u (by rcases hK with rfl | rfl | rfl <;> omega) h1 h2 (by rcases hK with rfl | rfl | rfl <;> omega)

set_option maxRecDepth 100000 in
set_option maxHeartbeats 16000000 in
theorem stable_any (L : Nat → OpV) (g n cap : Nat) (hn : n ≤ 60) (w : World) (hH : Hold w g n fun t => L t) :
    Calls Try.prog 47 #[.slice (some ⟨g, 0, none⟩) n cap, .int .i64 (n : Nat), .func (.func 36) #[] #[]] w fun e w' => e = .returned (.tuple #[]) ∧ ∃ s', Hold w' g n (fun t => L (s' t)) ∧ Turns [g] w w' ∧ Per 0 n (fun t => t) s' ∧ Srt L 0 n s' := by
  have hM := Lib.hid (symMerge_any L g n cap (by omega))
  have hH := Lib.hid hH
  go_enter Try.func47, Try.ntmps47
  go_wp2
  go_loopw [7, 8] (fun x y wr => ∃ (a : Nat) (s : Nat → Nat), x = .int .i64 (a : Nat) ∧ y = .int .i64 (a + 20 : Nat) ∧ a ≤ n ∧ Hold wr g n (fun t => L (s t)) ∧ Turns [g] w wr ∧ Hid (a % 20 = 0 ∧ (∀ t, a ≤ t → s t = t) ∧ Blk L 20 n a s ∧ Per 0 n (fun t => t) s)) (fun _ y _ => n + 21 - (intOf y).toNat)
  case atStart => exact ⟨0, fun t => t, rfl, rfl, by omega, hH.out, Turns.refl _ _, Lib.hid ⟨rfl, fun t _ => rfl, ⟨fun t _ => rfl, fun t u _ h => by omega⟩, .refl _⟩⟩
  case round =>
    clear hH
    obtain ⟨a, s, rfl, rfl, han, hK0, hT, hP⟩ := hrel
    by_cases hlt : a + 20 ≤ n
    · have hk4 : ((a + 20 : Nat) : Int) ≤ (n : Int) := by omega
      have hI := Lib.hid (fun W h => insertion_any L s g n cap a (a + 20) (by omega) hlt (by omega) (fun t u h1 h2 h3 => by rw [hP.out.2.1 t h1, hP.out.2.1 u (by omega)]; exact h2) W h)
      have hK0 := Lib.hid hK0
      have hT := Lib.hid hT
      go_wp2_with (go_at_call 54; refine (hI.out _ hK0.out).mono ?_; rintro e w1 ⟨rfl, s2, h1, h2, h3, h4⟩)
      have q := hP.out
      exact ⟨⟨a + 20, s2, rfl, by go_num, hlt, h1, hT.out.trans' h2, Lib.hid ⟨by omega, fun t ht => by rw [h3.out (.inr ht)]; exact q.2.1 t (by omega), q.2.2.1.insert q.1 (Nat.le_refl _) hlt h3 h4, q.2.2.2.trans (h3.mono (Nat.zero_le _) hlt)⟩⟩, by simp [intOf]; omega⟩
    · have hk4 : ¬ ((a + 20 : Nat) : Int) ≤ (n : Int) := by omega
      have hI := Lib.hid (fun W h => insertion_any L s g n cap a n han (Nat.le_refl _) (by omega) (fun t u h1 h2 h3 => by rw [hP.out.2.1 t h1, hP.out.2.1 u (by omega)]; exact h2) W h)
      have hK0 := Lib.hid hK0
      have hT := Lib.hid hT
      go_wp2_with (go_at_call 54; refine (hI.out _ hK0.out).mono ?_; rintro e w1 ⟨rfl, s2, h1, h2, h3, h4⟩)
      have hB := Lib.hid (hP.out.2.2.1.insert hP.out.1 (by omega) (Nat.le_refl _) h3 h4)
      have hPP := Lib.hid (hP.out.2.2.2.trans (h3.mono (Nat.zero_le _) (Nat.le_refl _)))
      have hT1 := Lib.hid (hT.out.trans' h2)
      have hK1 := Lib.hid h1
      clear hK0 hT hP h1 h2 h3 h4 hI
      go_loopw [6, 7, 8, 9] (fun z _ _ _ wr => ∃ (K : Nat) (s : Nat → Nat), z = .int .i64 (K : Nat) ∧ 20 ≤ K ∧ K ≤ 80 ∧ Hold wr g n (fun t => L (s t)) ∧ Turns [g] w wr ∧ Hid ((K = 20 ∨ K = 40 ∨ K = 80) ∧ Blk L K n n s ∧ Per 0 n (fun t => t) s)) (fun z _ _ _ _ => 100 - (intOf z).toNat)
      case atStart => exact ⟨20, s2, rfl, by omega, by omega, hK1.out, hT1.out, Lib.hid ⟨.inl rfl, hB.out, hPP.out⟩⟩
      case round =>
        clear hK1 hT1 hB hPP hk4 hlt
        obtain ⟨K, s, rfl, hK20, hK80, hK0, hT, hP⟩ := hrel
        by_cases hlt : K < n
        · have hk4 : (K : Int) < (n : Int) := by omega
          obtain ⟨K2, hK2⟩ : ∃ K2 : Nat, (2 : Int) * (K : Int) = (K2 : Int) := ⟨2 * K, by omega⟩
          have hK2' : (K : Int) * 2 = (K2 : Int) := by omega
          have hK2b : K < K2 := by omega
          have hK2c : K2 ≤ 120 := by omega
          have hK22 := Lib.hid (show K2 = 2 * K by omega)
          have hK0 := Lib.hid hK0
          have hT := Lib.hid hT
          go_wp2
          go_loopw [7, 8] (fun x y wr => ∃ (a : Nat) (s' : Nat → Nat), x = .int .i64 (a : Nat) ∧ y = .int .i64 (a + K2 : Nat) ∧ a ≤ n ∧ Hold wr g n (fun t => L (s' t)) ∧ Turns [g] w wr ∧ Hid (a % (2 * K) = 0 ∧ Twice L K n a s' ∧ Per 0 n (fun t => t) s')) (fun _ y _ => n + 161 - (intOf y).toNat)
          case atStart => exact ⟨0, s, rfl, by go_num, by omega, hK0.out, hT.out, Lib.hid ⟨Nat.zero_mod _, .start hP.out.1 hP.out.2.1, hP.out.2.2⟩⟩
          case round =>
            clear hK0 hT
            obtain ⟨a, s1, rfl, rfl, han, hK0, hT, hQ⟩ := hrel
            have hK0 := Lib.hid hK0
            have hT := Lib.hid hT
            obtain ⟨m, hm⟩ : ∃ m : Nat, (a : Int) + (K : Int) = (m : Int) := ⟨a + K, by omega⟩
            have hm' := Lib.hid (show m = a + K by omega)
            have ham : a < m := by omega
            by_cases hlt2 : a + K2 ≤ n
            · have hk5 : ((a + K2 : Nat) : Int) ≤ (n : Int) := by omega
              have q := hQ.out
              have hI := Lib.hid (fun W h => hM.out (n + 1) s1 a m (a + K2) ham (by omega) hlt2 (by omega) (by rw [hm'.out]; exact q.2.1.left hP.out.1 q.1 (by omega)) (by rw [hm'.out]; exact q.2.1.right hP.out.1 q.1 (by rw [hK22.out]; exact Nat.le_refl _) hlt2) (by rw [hm'.out]; exact q.2.1.less hP.out.1 q.1 (by rw [hK22.out]; exact Nat.le_refl _) hlt2) W h)
              clear q
              go_wp2_with (go_at_call 55; refine (hI.out _ hK0.out).mono ?_; rintro e w1 ⟨rfl, s2, h1, h2, h3, h4⟩)
              have q := hQ.out
              have e2 := hK22.out
              exact ⟨⟨a + K2, s2, rfl, by go_num, hlt2, h1, hT.out.trans' h2, Lib.hid ⟨by rw [e2, Nat.add_mod_right]; exact q.1, q.2.1.step hP.out.1 q.1 (by omega) (by omega) hlt2 h3 h4, q.2.2.trans (h3.mono (Nat.zero_le _) hlt2)⟩⟩, by simp [intOf]; omega⟩
            · have hk5 : ¬ ((a + K2 : Nat) : Int) ≤ (n : Int) := by omega
              by_cases hmn : m < n
              · have hmn4 : (m : Int) < (n : Int) := by omega
                have q := hQ.out
                have hI := Lib.hid (fun W h => hM.out (n + 1) s1 a m n ham hmn (Nat.le_refl _) (by omega) (by rw [hm'.out]; exact q.2.1.left hP.out.1 q.1 (by have := hm'.out; omega)) (by rw [hm'.out]; exact q.2.1.right hP.out.1 q.1 (by have := hK22.out; omega) (Nat.le_refl _)) (by rw [hm'.out]; exact q.2.1.less hP.out.1 q.1 (by have := hK22.out; omega) (Nat.le_refl _)) W h)
                clear q
                go_wp2_with (go_at_call 55; refine (hI.out _ hK0.out).mono ?_; rintro e w1 ⟨rfl, s2, h1, h2, h3, h4⟩)
                have q := hQ.out
                have e2 := hK22.out
                have hP1 := hP.out.1
                have st := q.2.1.step hP1 q.1 han (by omega) (Nat.le_refl _) h3 h4
                exact ⟨⟨K2, s2, rfl, by omega, by omega, h1, hT.out.trans' h2, Lib.hid ⟨by omega, by rw [e2]; exact ⟨st.own2, st.up2⟩, q.2.2.trans (h3.mono (Nat.zero_le _) (Nat.le_refl _))⟩⟩, by simp [intOf]; omega⟩
              · have hmn4 : ¬ (m : Int) < (n : Int) := by omega
                go_wp2
                have q := hQ.out
                have e2 := hK22.out
                have hP1 := hP.out.1
                exact ⟨⟨K2, s1, rfl, by omega, by omega, hK0.out, hT.out, Lib.hid ⟨by omega, by rw [e2]; exact q.2.1.done hP1 q.1 (by have := hm'.out; omega), q.2.2⟩⟩, by simp [intOf]; omega⟩
        · have hk4 : ¬ (K : Int) < (n : Int) := by omega
          go_wp2
          go_end0
          exact ⟨rfl, s, hK0, hT, hP.out.2.2, fun t u h1 h2 h3 => hP.out.2.1.up t u h2 h3 (by rw [Nat.div_eq_of_lt (by omega), Nat.div_eq_of_lt (by omega)])⟩
end Go.Proofs.Yteclkaecjogbjaa
