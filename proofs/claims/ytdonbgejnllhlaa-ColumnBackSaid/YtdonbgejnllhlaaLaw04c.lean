/-
  ColumnBack, walked.
-/
import Derived.Test.YtdonbgejnllhlaaLaw04a
namespace Go.Proofs.Ytdonbgejnllhlaa
open Go.RowKit Go.Sort

theorem encR_len : ∀ rs : List (Nat × Int), Pos rs → total rs ≤ 65536 → (∀ x ∈ flatL rs, InR x) → (encR rs).length ≤ 20 * total rs
  | [], _, _, _ => by simp [encR, total]
  | (k, x) :: r, hp, ht, hx => by
    have hk : 1 ≤ k := hp (k, x) (by simp)
    rw [total] at ht
    have h1 := encR_len r (fun p hh => hp p (by simp [hh])) (by omega) (fun y hy => hx y (by rw [flatL]; simp [hy]))
    have h2 := putL_len10 (n := k) (by omega)
    have h3 := putL_len10 (zigN_lt (hx x (by rw [flatL]; simp; left; omega)))
    rw [encR, total, List.length_append, List.length_append]
    omega
theorem bytesR_len {l : List Int} (hr : ∀ x ∈ l, InR x) (hl : l.length ≤ 65536) : (bytesR l).length ≤ 20 * l.length := by
  have := encR_len (runsL l) (pos_runs l) (by rw [total_runs]; exact hl) (by rw [flat_runs]; exact hr)
  rwa [total_runs] at this
theorem encB_len : ∀ c : List Nat, totB c ≤ 65536 → (encB c).length ≤ 10 * c.length
  | [], _ => by simp [encB]
  | k :: r, h => by
    rw [totB] at h
    have h1 := encB_len r (by omega)
    have h2 := putL_len10 (n := k) (by omega)
    rw [encB, List.length_append, List.length_cons]
    omega
theorem posB_len : ∀ c : List Nat, PosB c → c.length ≤ totB c
  | [], _ => by simp [totB]
  | k :: r, h => by
    have h1 := posB_len r (fun j hj => h j (by simp [hj]))
    have h2 := h k (by simp)
    rw [totB, List.length_cons]
    omega
theorem bytesB_len {l : List Bool} (hl : l.length ≤ 65536) : (bytesB l).length ≤ 10 * (l.length + 1) := by
  have h1 := encB_len (cntB false l) (by rw [tot_cnt]; exact hl)
  have h2 := tot_cnt false l
  have h3 := cnt_tail false l
  have h4 : (cntB false l).length ≤ l.length + 1 := by
    cases hc : cntB false l with
    | nil => simp
    | cons k r =>
      rw [hc] at h2 h3
      have := posB_len r h3
      rw [totB] at h2
      rw [List.length_cons]
      omega
  unfold bytesB
  omega

theorem givenR_put {l : List Int} (hr : ∀ x ∈ l, InR x) (hl : l.length ≤ 65536) (m : List Nat) : GivenR (bytesR l ++ m) (l.length : Nat) l (bytesR l).length 0 :=
  .inr ⟨by omega, .inl ⟨⟨by simp, hr, List.prefix_append _ _⟩, rfl, rfl⟩⟩
theorem givenB_put {l : List Bool} (hl : l.length ≤ 65536) (m : List Nat) : GivenB (bytesB l ++ m) (l.length : Nat) l (bytesB l).length 0 :=
  .inr ⟨by omega, .inl ⟨⟨by simp, List.prefix_append _ _⟩, rfl, rfl⟩⟩

theorem bytes_app {X m : List Nat} (hX : ∀ x ∈ X, x < 256) (hm : ∀ x ∈ m, x < 256) : ∀ x ∈ X ++ m, x < 256 := by
  intro x hx
  rcases List.mem_append.1 hx with h | h
  · exact hX x h
  · exact hm x h

set_option maxRecDepth 20000 in
set_option maxHeartbeats 1000000 in
theorem columnBack_long (w : World) (v u y : Value) (l : List Int) (t : List Bool) (m : List Nat) (hv : IntsAt w v l) (hu : TruthsAt w u t) (hy : BytesAt w y m)
    (h : 2000 < l.length ∨ (l.length ≤ 2000 ∧ 2000 < t.length) ∨ (l.length ≤ 2000 ∧ t.length ≤ 2000 ∧ 2000 < m.length)) :
    Calls Try.prog 5 #[v, u, y] w (Ret (.bool true) w) := by
  have hlv := fun W => hv.len (ty := 3) W
  have hlu := fun W => hu.len (ty := 3) W
  have hly := fun W => hy.len (ty := 3) W
  clear hv hu hy
  rcases h with h | ⟨h, h2⟩ | ⟨h, h2, h3⟩
  all_goals
    go_enter Try.func5, Try.ntmps5
    go_wp2_with (go_at_call 9; refine (alive4_any _).mono ?_; rintro e' w5 ⟨rfl, hb5⟩)
    go_ret
    exact ⟨rfl, hb5⟩

set_option maxRecDepth 20000 in
set_option maxHeartbeats 3000000 in
theorem columnBack_walk' (w : World) (v u y : Value) (l : List Int) (t : List Bool) (m : List Nat) (hv : IntsAt w v l) (hu : TruthsAt w u t) (hy : BytesAt w y m) (hr : ∀ x ∈ l, InR x)
    (h1 : l.length ≤ 2000) (h2 : t.length ≤ 2000) (h3 : m.length ≤ 2000) :
    Calls Try.prog 5 #[v, u, y] w (Ret (.bool true) w) := by
  have hlv := fun W => hv.len (ty := 3) W
  have hlu := fun W => hu.len (ty := 3) W
  have hly := fun W => hy.len (ty := 3) W
  have hmb := hide hy.byte
  have hv := hide (show RowAt w v (ints l) from hv)
  have hu := hide (show RowAt w u (truths t) from hu)
  have hy := hide hy
  have hl65 : l.length ≤ 65536 := by omega
  have ht65 : t.length ≤ 65536 := by omega
  have g1 := hide (givenR_put hr hl65 m)
  have g2 : Hid (GivenR (bytesR (deltaL 0 l) ++ m) (l.length : Nat) (deltaL 0 l) (bytesR (deltaL 0 l)).length 0) := hide (by have := givenR_put (l := deltaL 0 l) (delta_in 0 l) (by rw [delta_len]; exact hl65) m; rwa [delta_len] at this)
  have g3 := hide (givenB_put ht65 m)
  have hsd := hide (sum_delta 0 l hr)
  have hX1 := bytesR_len hr hl65
  have hX2 : (bytesR (deltaL 0 l)).length ≤ 40000 := by have := bytesR_len (l := deltaL 0 l) (delta_in 0 l) (by rw [delta_len]; exact hl65); rw [delta_len] at this; omega
  have hX3 := bytesB_len ht65
  have hr := hide hr
  obtain ⟨X1, e1⟩ : ∃ X, bytesR l = X := ⟨_, rfl⟩
  obtain ⟨X2, e2⟩ : ∃ X, bytesR (deltaL 0 l) = X := ⟨_, rfl⟩
  obtain ⟨X3, e3⟩ : ∃ X, bytesB t = X := ⟨_, rfl⟩
  have y1 : Hid (∀ x ∈ X1, x < 256) := hide (by rw [← e1]; exact bytesR_byte l)
  have y2 : Hid (∀ x ∈ X2, x < 256) := hide (by rw [← e2]; exact bytesR_byte _)
  have y3 : Hid (∀ x ∈ X3, x < 256) := hide (by rw [← e3]; exact bytesB_byte t)
  have cR : Hid (∀ W, RowAt W v (ints l) → Calls Try.prog 11 #[v] W fun e w' => ∃ v', e = .returned v' ∧ Own w' W.heap.size v' X1 ∧ Below W.heap.size W w') := hide (fun W hW => by rw [← e1]; exact cRuns_any v l W hW hr.out hl65)
  have cD : Hid (∀ W, RowAt W v (ints l) → Calls Try.prog 13 #[v] W fun e w' => ∃ v', e = .returned v' ∧ Own w' W.heap.size v' X2 ∧ Below W.heap.size W w') := hide (fun W hW => by rw [← e2]; exact cDeltas_any v l W hW hr.out hl65)
  have cB : Hid (∀ W, RowAt W u (truths t) → Calls Try.prog 15 #[u] W fun e w' => ∃ v', e = .returned v' ∧ Own w' W.heap.size v' X3 ∧ Below W.heap.size W w') := hide (fun W hW => by rw [← e3]; exact cBools_any u t W hW ht65)
  rw [e1] at g1 hX1
  rw [e2] at g2 hX2
  rw [e3] at g3 hX3
  clear e1 e2 e3
  go_enter Try.func5, Try.ntmps5
  go_wp2_with (first
    | (go_at_call 11; refine (cR.out _ hv.out).mono ?_; rintro e' w1 ⟨a1, rfl, ho, hb⟩; have k1 := hb; have hv := keepR hv hb; have hu := keepR hu hb; have hy := keepB hy hb; have b1 := hide (ho.bytes y1.out); have hl1 := fun W => (ho.bytes y1.out).len (ty := 3) W; clear ho hb)
    | (go_at_call 13; refine (cD.out _ hv.out).mono ?_; rintro e' w2 ⟨a2, rfl, ho, hb⟩; have k2 := then_call k1 hb; have hv := keepR hv hb; have hu := keepR hu hb; have hy := keepB hy hb; have b1 := keepB b1 hb; have b2 := hide (ho.bytes y2.out); have hl2 := fun W => (ho.bytes y2.out).len (ty := 3) W; clear ho hb)
    | (go_at_call 15; refine (cB.out _ hu.out).mono ?_; rintro e' w3 ⟨a3, rfl, ho, hb⟩; have k3 := then_call k2 hb; have hv := keepR hv hb; have hu := keepR hu hb; have hy := keepB hy hb; have b1 := keepB b1 hb; have b2 := keepB b2 hb; have b3 := hide (ho.bytes y3.out); have hl3 := fun W => (ho.bytes y3.out).len (ty := 3) W; clear ho hb)
    | (at_builtin; refine append_bytes rfl (.tmp 43) (.tmp 44) rfl w3.heap.size rfl (own_made w3 _ rfl) rfl (b1.out.below (below_box1 _ _)) (by simp; omega) (by simp) ?_; intro v4 w4 ho4 hb4; have hb4 : Below w3.heap.size w3 w4 := (below_box1 w3 _).trans hb4)
    | (at_builtin; refine append_bytes rfl (.tmp 45) (.tmp 46) rfl w3.heap.size rfl ho4 rfl (hy.out.below hb4) (by simp; omega) hb4.size ?_; intro v5 w5 ho5 hb5; have hb5 : Below w3.heap.size w3 w5 := hb4.trans hb5; have k5 := then_call k3 hb5; have hv := keepR hv hb5; have hu := keepR hu hb5; have hy := keepB hy hb5; have b2 := keepB b2 hb5; have b3 := keepB b3 hb5; have d5 := hide (show BytesAt w5 v5 (X1 ++ m) from ho5.bytes (bytes_app y1.out hmb.out)); clear ho4 ho5 hb4 hb5)
    | (go_at_call 18; refine (cTakeRuns_given d5.out g1.out).mono ?_; rintro e' w6 ⟨v6, rfl, ho, hb⟩; have k6 := then_call k5 hb; have hv := keepR hv hb; have hu := keepR hu hb; have hy := keepB hy hb; have b2 := keepB b2 hb; have b3 := keepB b3 hb; have r6 := hide ho.row; clear ho hb)
    | (at_builtin; refine append_bytes rfl (.tmp 55) (.tmp 56) rfl w6.heap.size rfl (own_made w6 _ rfl) rfl (b2.out.below (below_box1 _ _)) (by simp; omega) (by simp) ?_; intro v7 w7 ho7 hb7; have hb7 : Below w6.heap.size w6 w7 := (below_box1 w6 _).trans hb7)
    | (at_builtin; refine append_bytes rfl (.tmp 57) (.tmp 58) rfl w6.heap.size rfl ho7 rfl (hy.out.below hb7) (by simp; omega) hb7.size ?_; intro v8 w8 ho8 hb8; have hb8 : Below w6.heap.size w6 w8 := hb7.trans hb8; have k8 := then_call k6 hb8; have hv := keepR hv hb8; have hu := keepR hu hb8; have hy := keepB hy hb8; have b3 := keepB b3 hb8; have r6 := keepR r6 hb8; have d8 := hide (show BytesAt w8 v8 (X2 ++ m) from ho8.bytes (bytes_app y2.out hmb.out)); clear ho7 ho8 hb7 hb8)
    | (go_at_call 20; refine (cTakeDeltas_given d8.out g2.out).mono ?_; rintro e' w9 ⟨v9, rfl, ho, hb⟩; have k9 := then_call k8 hb; have hv := keepR hv hb; have hu := keepR hu hb; have hy := keepB hy hb; have b3 := keepB b3 hb; have r6 := keepR r6 hb; have r9 := hide (show RowAt w9 v9 (ints l) by have := ho.row; rwa [hsd.out] at this); clear ho hb)
    | (at_builtin; refine append_bytes rfl (.tmp 67) (.tmp 68) rfl w9.heap.size rfl (own_made w9 _ rfl) rfl (b3.out.below (below_box1 _ _)) (by simp; omega) (by simp) ?_; intro v10 w10 ho10 hb10; have hb10 : Below w9.heap.size w9 w10 := (below_box1 w9 _).trans hb10)
    | (at_builtin; refine append_bytes rfl (.tmp 69) (.tmp 70) rfl w9.heap.size rfl ho10 rfl (hy.out.below hb10) (by simp; omega) hb10.size ?_; intro v11 w11 ho11 hb11; have hb11 : Below w9.heap.size w9 w11 := hb10.trans hb11; have k11 := then_call k9 hb11; have hv := keepR hv hb11; have hu := keepR hu hb11; have r6 := keepR r6 hb11; have r9 := keepR r9 hb11; have d11 := hide (show BytesAt w11 v11 (X3 ++ m) from ho11.bytes (bytes_app y3.out hmb.out)); clear ho10 ho11 hb10 hb11)
    | (go_at_call 22; refine (cTakeBools_given d11.out g3.out).mono ?_; rintro e' w12 ⟨v12, rfl, ho, hb⟩; have k12 := then_call k11 hb; have hv := keepR hv hb; have hu := keepR hu hb; have r6 := keepR r6 hb; have r9 := keepR r9 hb; have r12 := hide ho.row; clear ho hb)
    | (go_at_call 17; (first
        | ((with_reducible refine (sameI_true (v := v6) r6.out hv.out).mono ?_); rintro e' w13 ⟨rfl, hb⟩; have k13 := then_call k12 hb; have hv := keepR hv hb; have hu := keepR hu hb; have r9 := keepR r9 hb; have r12 := keepR r12 hb; clear hb)
        | ((with_reducible refine (sameI_true (v := v9) r9.out hv.out).mono ?_); rintro e' w14 ⟨rfl, hb⟩; have k14 := then_call k13 hb; have hu := keepR hu hb; have r12 := keepR r12 hb; clear hb)))
    | (go_at_call 24; refine (sameT_true r12.out hu.out).mono ?_; rintro e' w15 ⟨rfl, hb⟩; have k15 := then_call k14 hb; clear hb)
    | (go_at_call 9; refine (alive4_any _).mono ?_; rintro e' w16 ⟨rfl, hb16⟩))
  go_ret
  exact ⟨rfl, then_call k15 hb16⟩

theorem columnBack_walk (w : World) (v u y : Value) (l : List Int) (t : List Bool) (m : List Nat) (hv : IntsAt w v l) (hr : ∀ x ∈ l, InR x) (hu : TruthsAt w u t) (hy : BytesAt w y m) :
    Calls Try.prog 5 #[v, u, y] w (Ret (.bool true) w) := by
  by_cases h1 : l.length ≤ 2000
  · by_cases h2 : t.length ≤ 2000
    · by_cases h3 : m.length ≤ 2000
      · exact columnBack_walk' w v u y l t m hv hu hy hr h1 h2 h3
      · exact columnBack_long w v u y l t m hv hu hy (.inr (.inr ⟨h1, h2, by omega⟩))
    · exact columnBack_long w v u y l t m hv hu hy (.inr (.inl ⟨h1, by omega⟩))
  · exact columnBack_long w v u y l t m hv hu hy (.inl (by omega))
end Go.Proofs.Ytdonbgejnllhlaa
