/-
  ColumnTwo, walked.
-/
import Derived.Test.YtdonbgejnllhlaaLaw04c
namespace Go.Proofs.Ytdonbgejnllhlaa
open Go.RowKit Go.Sort

set_option maxRecDepth 20000 in
set_option maxHeartbeats 1000000 in
theorem columnTwo_long (w : World) (v z u : Value) (l m : List Int) (t : List Bool) (hv : IntsAt w v l) (hz : IntsAt w z m) (hu : TruthsAt w u t)
    (h : 2000 < l.length ∨ (l.length ≤ 2000 ∧ 2000 < m.length) ∨ (l.length ≤ 2000 ∧ m.length ≤ 2000 ∧ 2000 < t.length)) :
    Calls Try.prog 8 #[v, z, u] w (Ret (.bool true) w) := by
  have hlv := fun W => hv.len (ty := 3) W
  have hlu := fun W => hu.len (ty := 3) W
  have hlz := fun W => hz.len (ty := 3) W
  clear hv hu hz
  rcases h with h | ⟨h, h2⟩ | ⟨h, h2, h3⟩
  all_goals
    go_enter Try.func8, Try.ntmps8
    go_wp2_with (go_at_call 9; refine (alive4_any _).mono ?_; rintro e' w5 ⟨rfl, hb5⟩)
    go_ret
    exact ⟨rfl, hb5⟩

set_option maxRecDepth 20000 in
set_option maxHeartbeats 3000000 in
theorem columnTwo_walk' (w : World) (v z u : Value) (l m : List Int) (t : List Bool) (hv : IntsAt w v l) (hz : IntsAt w z m) (hu : TruthsAt w u t) (hr : ∀ x ∈ l, InR x) (hrm : ∀ x ∈ m, InR x)
    (h1 : l.length ≤ 2000) (h2 : m.length ≤ 2000) (h3 : t.length ≤ 2000) :
    Calls Try.prog 8 #[v, z, u] w (Ret (.bool true) w) := by
  have hlv := fun W => hv.len (ty := 3) W
  have hlu := fun W => hu.len (ty := 3) W
  have hlz := fun W => hz.len (ty := 3) W
  have hv := hide (show RowAt w v (ints l) from hv)
  have hz := hide (show RowAt w z (ints m) from hz)
  have hu := hide (show RowAt w u (truths t) from hu)
  have hl65 : l.length ≤ 65536 := by omega
  have hm65 : m.length ≤ 65536 := by omega
  have ht65 : t.length ≤ 65536 := by omega
  have g2 : ∀ s, GivenR (bytesR (deltaL 0 l) ++ s) (l.length : Nat) (deltaL 0 l) (bytesR (deltaL 0 l)).length 0 := fun s => by have := givenR_put (l := deltaL 0 l) (delta_in 0 l) (by rw [delta_len]; exact hl65) s; rwa [delta_len] at this
  have g3 := givenB_put ht65
  have g1 := givenR_put hrm hm65 []
  have hsd := hide (sum_delta 0 l hr)
  have hX1 := bytesR_len hrm hm65
  have hX2 : (bytesR (deltaL 0 l)).length ≤ 40000 := by have := bytesR_len (l := deltaL 0 l) (delta_in 0 l) (by rw [delta_len]; exact hl65); rw [delta_len] at this; omega
  have hX3 := bytesB_len ht65
  have hr := hide hr
  have hrm := hide hrm
  obtain ⟨X1, e1⟩ : ∃ X, bytesR m = X := ⟨_, rfl⟩
  obtain ⟨X2, e2⟩ : ∃ X, bytesR (deltaL 0 l) = X := ⟨_, rfl⟩
  obtain ⟨X3, e3⟩ : ∃ X, bytesB t = X := ⟨_, rfl⟩
  have y1 : Hid (∀ x ∈ X1, x < 256) := hide (by rw [← e1]; exact bytesR_byte m)
  have y2 : Hid (∀ x ∈ X2, x < 256) := hide (by rw [← e2]; exact bytesR_byte _)
  have y3 : Hid (∀ x ∈ X3, x < 256) := hide (by rw [← e3]; exact bytesB_byte t)
  have cR : Hid (∀ W, RowAt W z (ints m) → Calls Try.prog 11 #[z] W fun e w' => ∃ v', e = .returned v' ∧ Own w' W.heap.size v' X1 ∧ Below W.heap.size W w') := hide (fun W hW => by rw [← e1]; exact cRuns_any z m W hW hrm.out hm65)
  have cD : Hid (∀ W, RowAt W v (ints l) → Calls Try.prog 13 #[v] W fun e w' => ∃ v', e = .returned v' ∧ Own w' W.heap.size v' X2 ∧ Below W.heap.size W w') := hide (fun W hW => by rw [← e2]; exact cDeltas_any v l W hW hr.out hl65)
  have cB : Hid (∀ W, RowAt W u (truths t) → Calls Try.prog 15 #[u] W fun e w' => ∃ v', e = .returned v' ∧ Own w' W.heap.size v' X3 ∧ Below W.heap.size W w') := hide (fun W hW => by rw [← e3]; exact cBools_any u t W hW ht65)
  rw [e1] at g1 hX1
  rw [e2] at g2 hX2
  rw [e3] at g3 hX3
  have g2 := hide (g2 (X3 ++ X1))
  have g3 := hide (g3 X1)
  rw [List.append_nil] at g1
  have g1 := hide g1
  clear e1 e2 e3
  go_enter Try.func8, Try.ntmps8
  go_wp2_with (first
    | (go_at_call 13; refine (cD.out _ hv.out).mono ?_; rintro e' w1 ⟨a1, rfl, o1, hb⟩; have k1 := hb; clear hb)
    | (go_at_call 15; refine (cB.out _ (hu.out.below k1)).mono ?_; rintro e' w2 ⟨a2, rfl, ho, hb⟩; have k2 := then_call k1 hb; have o1 := o1.later hb; have b2 := hide (ho.bytes y3.out); clear ho hb)
    | (at_builtin; refine append_bytes rfl (.tmp 36) (.tmp 38) rfl w.heap.size rfl o1 rfl b2.out (by omega) k2.size ?_; intro v3 w3 o3 hb3; have k3 : Below w.heap.size w w3 := k2.trans hb3)
    | (go_at_call 11; refine (cR.out _ (hz.out.below k3)).mono ?_; rintro e' w4 ⟨a4, rfl, ho, hb⟩; have k4 := then_call k3 hb; have o4 := o3.later hb; have b4 := hide (ho.bytes y1.out); clear ho hb)
    | (at_builtin; refine append_bytes rfl (.tmp 40) (.tmp 42) rfl w.heap.size rfl o4 rfl b4.out (by simp; omega) k4.size ?_))
  intro v5 w5 o5 hb5
  have k5 : Below w.heap.size w w5 := k4.trans hb5
  have b5 : BytesAt w5 v5 (X2 ++ (X3 ++ X1)) := o5.bytes (bytes_app y2.out (bytes_app y3.out y1.out))
  have hl5 : ∀ W, (Builtin.len_ #[26] 3 #[v5]).run Try.prog W = .ok (.int .i64 ((X2.length + X3.length + X1.length : Nat) : Int)) W := fun W => by
    have := b5.len (ty := 3) W
    rwa [List.length_append, List.length_append, ← Nat.add_assoc] at this
  obtain ⟨s6, hs6, hb6⟩ := b5.cut (k := X2.length) (by simp)
  rw [List.drop_left' rfl] at hb6
  obtain ⟨s7, hs7, hb7⟩ := b5.cut (k := X2.length + X3.length) (by simp)
  rw [← List.drop_drop, List.drop_left' rfl, List.drop_left' rfl] at hb7
  simp only [Int.natCast_add] at hs7
  have b5 := hide b5
  have b6 := hide hb6
  have b7 := hide hb7
  have hv := keepR hv k5
  have hz := keepR hz k5
  have hu := keepR hu k5
  clear o1 b2 o3 o4 b4 o5 hb5 hb3 hb6 hb7 k1 k2 k3 k4
  go_wp2_with (first
    | (go_at_call 20; refine (cTakeDeltas_given b5.out g2.out).mono ?_; rintro e' w6 ⟨v6, rfl, ho, hb⟩; have k6 := then_call k5 hb; have hv := keepR hv hb; have hz := keepR hz hb; have hu := keepR hu hb; have b6 := keepB b6 hb; have b7 := keepB b7 hb; have r6 := hide (show RowAt w6 v6 (ints l) by have := ho.row; rwa [hsd.out] at this); clear ho hb)
    | (go_at_call 22; refine (cTakeBools_given b6.out g3.out).mono ?_; rintro e' w7 ⟨v7, rfl, ho, hb⟩; have k7 := then_call k6 hb; have hv := keepR hv hb; have hz := keepR hz hb; have hu := keepR hu hb; have b7 := keepB b7 hb; have r6 := keepR r6 hb; have r7 := hide ho.row; clear ho hb)
    | (go_at_call 18; refine (cTakeRuns_given b7.out g1.out).mono ?_; rintro e' w8 ⟨v8, rfl, ho, hb⟩; have k8 := then_call k7 hb; have hv := keepR hv hb; have hz := keepR hz hb; have hu := keepR hu hb; have r6 := keepR r6 hb; have r7 := keepR r7 hb; have r8 := hide ho.row; clear ho hb)
    | (go_at_call 17; (first
        | ((with_reducible refine (sameI_true (v := v6) r6.out hv.out).mono ?_); rintro e' w9 ⟨rfl, hb⟩; have k9 := then_call k8 hb; have hz := keepR hz hb; have hu := keepR hu hb; have r7 := keepR r7 hb; have r8 := keepR r8 hb; clear hb)
        | ((with_reducible refine (sameI_true (v := v8) r8.out hz.out).mono ?_); rintro e' w11 ⟨rfl, hb⟩; have k11 := then_call k10 hb; clear hb)))
    | (go_at_call 24; refine (sameT_true r7.out hu.out).mono ?_; rintro e' w10 ⟨rfl, hb⟩; have k10 := then_call k9 hb; have hz := keepR hz hb; have r8 := keepR r8 hb; clear hb)
    | (go_at_call 9; refine (alive4_any _).mono ?_; rintro e' w12 ⟨rfl, hb12⟩))
  go_ret
  exact ⟨ret_bool (beq_iff_eq.2 (by omega)), then_call k11 hb12⟩

theorem columnTwo_walk (w : World) (v z u : Value) (l m : List Int) (t : List Bool) (hv : IntsAt w v l) (hr : ∀ x ∈ l, InR x) (hz : IntsAt w z m) (hrm : ∀ x ∈ m, InR x) (hu : TruthsAt w u t) :
    Calls Try.prog 8 #[v, z, u] w (Ret (.bool true) w) := by
  by_cases h1 : l.length ≤ 2000
  · by_cases h2 : m.length ≤ 2000
    · by_cases h3 : t.length ≤ 2000
      · exact columnTwo_walk' w v z u l m t hv hz hu hr hrm h1 h2 h3
      · exact columnTwo_long w v z u l m t hv hz hu (.inr (.inr ⟨h1, h2, by omega⟩))
    · exact columnTwo_long w v z u l m t hv hz hu (.inr (.inl ⟨h1, by omega⟩))
  · exact columnTwo_long w v z u l m t hv hz hu (.inl (by omega))
end Go.Proofs.Ytdonbgejnllhlaa
