/-
  What came till a call: how many of some calls; the changes that are durable then, and the others.
-/
import Derived.Test.YtpkiapjcilapoaaFkOut
import Derived.Test.YtpkiapjcilapoaaFiPick
namespace Go.Proofs.Ytpkiapjcilapoaa
open Go.RowKit Go.Sort Go.Maps

/-- The elements between two places. -/
theorem RowsAt.mid {k : Nat} {w : World} {v : Value} {xs : List (List Value)} (h : RowsAt k w v xs) {P : Program} {t e : TypeId} (ht : P.underlying t = some (.slice e)) (hs : ∀ W, (sizeOf e).run P W = .ok k W) {a b : Nat} (hab : a ≤ b) (hb : b ≤ xs.length) :
    ∃ v', (∀ W, (Instr.slice t v (some (.int .i64 (a : Int))) (some (.int .i64 (b : Int))) none).run P W = .ok v' W) ∧ RowsAt k w v' ((xs.take b).drop a) := by
  obtain ⟨A, c, rfl, h2, h3, h4, h5, h6⟩ := h
  have he : P.elem t = e := by simp [Program.elem, ht]
  have hlen : ((xs.take b).drop a).length = b - a := by simp; omega
  refine ⟨sliced A a b c k, fun W => ?_, ?_⟩
  · rw [run_slice_lh (P := P) W t A xs.length c (by rw [he]; exact ht) .i64 .i64 (a : Int) (b : Int) (by omega) (by omega) (by omega), he, hs]
    simp [Result.andThen]
  · refine ⟨if c = a then A else A.map (·.add (a * k)), c - a, by rw [sliced, hlen], by rw [hlen]; omega, by omega, fun x hx => h4 x (List.mem_of_mem_take (List.mem_of_mem_drop hx)), fun hl => ?_, fun hn => ?_⟩
    · rw [hlen] at hl
      obtain ⟨bk, off, rfl, h8, h9⟩ := h5 (by omega)
      rw [if_neg (by omega)]
      refine ⟨bk, off + a * k, by simp [addr_at], h8, fun i x hx => ?_⟩
      rw [List.getElem?_drop, List.getElem?_take] at hx
      split at hx
      · have := h9 (a + i) x hx
        rwa [Nat.add_mul, ← Nat.add_assoc] at this
      · cases hx
    · split at hn
      · omega
      · have := h6 (by cases A <;> simp_all)
        omega

theorem counted_any (c : Int) (n : Nat) (w : World) (h1 : -9223372036854775808 ≤ c) (h2 : c ≤ 9223372036854775807) (hn2 : n ≤ 1000000000) :
    Calls Try.prog 23 #[.int .i64 c, .int .i64 (n : Nat)] w fun e w' => e = .returned (.int .i64 (pickF c (n + 1) : Nat)) ∧ w = w' := by
  by_cases h0 : c < 0
  · have hp : (pickF c (n + 1) : Int) = -(c + 1) % ((n : Int) + 1) := by
      unfold pickF
      rw [if_pos h0]
      have := Int.emod_nonneg (-(c + 1)) (show ((n : Int) + 1) ≠ 0 by omega)
      simp; omega
    have hm : -((c + 1).tmod ((n : Int) + 1)) = -(c + 1) % ((n : Int) + 1) := by
      rw [← Int.neg_tmod, Int.tmod_eq_emod_of_nonneg (by omega)]
    obtain ⟨J, hJ⟩ : ∃ J, pickF c (n + 1) = J := ⟨_, rfl⟩
    rw [hJ] at hp ⊢
    rw [← hp] at hm
    have hz : (((n : Int) + 1) == 0) = false := beq_false_of_ne (by omega)
    have hp := Lib.hid hp
    go_enter Try.func23, Try.ntmps23
    go_wp2
    go_ret
    exact ⟨by simp; exact hp.out.symm, rfl⟩
  · have hp : (pickF c (n + 1) : Int) = c % ((n : Int) + 1) := by
      unfold pickF
      rw [if_neg h0]
      have := Int.emod_nonneg c (show ((n : Int) + 1) ≠ 0 by omega)
      simp; omega
    have hm : c.tmod ((n : Int) + 1) = c % ((n : Int) + 1) := Int.tmod_eq_emod_of_nonneg (by omega)
    obtain ⟨J, hJ⟩ : ∃ J, pickF c (n + 1) = J := ⟨_, rfl⟩
    rw [hJ] at hp ⊢
    have h0' : 0 ≤ c := by omega
    have hz : (((n : Int) + 1) == 0) = false := beq_false_of_ne (by omega)
    have hp2 := hp.symm
    clear hp hJ h0
    go_enter Try.func23, Try.ntmps23
    go_wp2
    go_ret
    exact ⟨by simp, rfl⟩

/-- How many of some calls came till another one. -/
def tillN (ks : List Nat) (c : Nat) : Nat := ks.countP (· ≤ c)

set_option maxRecDepth 20000 in
theorem countTill_any {w : World} {v : Value} {ks : List Nat} (h : RowsAt 1 w v (ks.map intCell)) (hs : ks.Pairwise (· ≤ ·)) (hl : ks.length ≤ 100000) (c : Nat) (hc : c ≤ 1000000) :
    Calls Try.prog 66 #[v, .int .i64 (c : Nat)] w fun e w' => e = .returned (.int .i64 (tillN ks c : Nat)) ∧ ∃ q, w' = w.drewN q := by
  obtain ⟨A, cp, rfl, h2, h3, h4, h5, h6⟩ := h
  rw [List.length_map] at *
  have cB : Calls Try.prog 71 #[.slice A ks.length cp, .int .i64 ((c : Int) + 1)] w fun e w' => ∃ b : Bool, e = .returned (.tuple #[.int .i64 (tillN ks c : Nat), .bool b]) ∧ ∃ q, w' = w.drewN q := by
    rcases Nat.eq_zero_or_pos ks.length with h0 | h0
    · have hk : ks = [] := List.eq_nil_of_length_eq_zero h0
      subst hk
      refine (Try.slices_BinarySearch_int_empty A cp ((c : Int) + 1) w).mono ?_
      rintro e w' ⟨rfl, rfl⟩
      exact ⟨false, rfl, 0, rfl⟩
    · obtain ⟨b, off, rfl, hb, hcell⟩ := h5 h0
      have := Try.slices_BinarySearch_int b off ks.length cp (ks.map Int.ofNat) ((c : Int) + 1) w (by simp) (by omega) (fun j hj => by
        rw [List.length_map] at hj
        have := hcell j [.int .i64 (ks[j] : Nat)] (by rw [List.getElem?_map, List.getElem?_eq_getElem hj]; rfl) 0 _ rfl
        simp at this
        rw [this]
        simp [List.getD, hj]) (by
        rw [List.take_of_length_le (by simp)]
        exact hs.map Int.ofNat (fun a b hab => by simpa using hab))
      refine this.mono ?_
      rintro e w' ⟨rfl, q, rfl⟩
      refine ⟨((List.take ks.length (ks.map Int.ofNat)).contains ((c : Int) + 1)), ?_, q, rfl⟩
      congr 5
      rw [List.take_of_length_le (by simp), List.countP_map]
      unfold tillN
      refine congrArg (fun n : Nat => (n : Int)) (List.countP_congr (fun x _ => ?_))
      show decide ((x : Int) < (c : Int) + 1) = true ↔ decide (x ≤ c) = true
      rw [decide_eq_true_iff, decide_eq_true_iff]
      omega
  have cB := Lib.hid cB
  clear h4 h5 h6
  go_enter Try.func66, Try.ntmps66
  go_wp2_with (go_at_call 71; refine cB.out.mono ?_; rintro e w1 ⟨b1, rfl, q1, rfl⟩)
  go_ret
  exact ⟨rfl, q1, rfl⟩

/-- How many are durable. -/
def durN (ks ss : List Nat) (c : Nat) : Nat := if tillN ss c = 0 then 0 else tillN ks (ss.getD (tillN ss c - 1) 0)
theorem tillN_le (ks : List Nat) (c : Nat) : tillN ks c ≤ ks.length := List.countP_le_length
theorem tillN_mono (ks : List Nat) {c d : Nat} (h : c ≤ d) : tillN ks c ≤ tillN ks d := List.countP_mono_left (fun x _ hx => by simp at hx ⊢; omega)
theorem tillN_at : ∀ (ss : List Nat) (c : Nat), ss.Pairwise (· ≤ ·) → ∀ i, i < tillN ss c → ss.getD i 0 ≤ c
  | [], c, _, i, h => by simp [tillN] at h
  | a :: t, c, hs, i, h => by
    obtain ⟨h1, h2⟩ := List.pairwise_cons.1 hs
    unfold tillN at h
    rw [List.countP_cons] at h
    by_cases ha : a ≤ c
    · cases i with
      | zero => simpa using ha
      | succ j =>
        have := tillN_at t c h2 j (by unfold tillN; simp [ha] at h; omega)
        simpa using this
    · exfalso
      have h0 : t.countP (fun x => decide (x ≤ c)) = 0 := List.countP_eq_zero.2 (fun x hx => by have := h1 x hx; simp; omega)
      simp [ha, h0] at h
theorem durN_le (ks ss : List Nat) (c : Nat) (hs : ss.Pairwise (· ≤ ·)) : durN ks ss c ≤ tillN ks c := by
  unfold durN
  split
  · omega
  · exact tillN_mono ks (tillN_at ss c hs _ (by omega))

theorem RowsAt.drewN {k : Nat} {w : World} {v : Value} {xs : List (List Value)} (h : RowsAt k w v xs) (q : Nat) : RowsAt k (w.drewN q) v xs := h
theorem quiet_at {P : Program} {f : FuncId} {args : Array Value} {w : World} {a n : Nat} {v : Value} (h : Calls P f args (w.drewN (a + n)) fun e w' => e = .returned v ∧ ∃ m, w' = (w.drewN (a + n)).drewN m) : Calls P f args (w.drewN (a + n)) fun e w'' => e = .returned v ∧ ∃ m, w'' = w.drewN (a + m) :=
  h.mono fun _ _ ⟨he, m, hm⟩ => ⟨he, n + m, by rw [hm, World.drewN_drewN, Nat.add_assoc]⟩
theorem RowsAt.heap {k : Nat} {w W : World} {v : Value} {xs : List (List Value)} (h : RowsAt k w v xs) (hW : W.heap = w.heap) : RowsAt k W v xs := by
  obtain ⟨A, c, h1, h2, h3, h4, h5, h6⟩ := h
  refine ⟨A, c, h1, h2, h3, h4, fun hl => ?_, h6⟩
  obtain ⟨b, off, h7, h8, h9⟩ := h5 hl
  exact ⟨b, off, h7, by rw [hW]; exact h8, fun i x hx j u hu => by have := h9 i x hx j u hu; simp only [World.cell?] at this ⊢; rw [hW]; exact this⟩
theorem ints_at {ks : List Nat} {i : Nat} (h : i < ks.length) : (ks.map intCell)[i]? = some [.int .i64 (ks.getD i 0 : Nat)] := by
  rw [List.getElem?_map, List.getElem?_eq_getElem h]; simp [List.getD, intCell, List.getElem?_eq_getElem h]

set_option maxRecDepth 20000 in
set_option maxHeartbeats 4000000 in
theorem tillB_any {q : Nat} {w : World} {cv kv sv z : Value} {xs : List (List Value)} {ks ss : List Nat} (hq : w.heap[q]? = some (.cells #[cv, kv, sv, z] 77 (0, 0))) (hc : RowsAt 1 w cv xs) (hk : RowsAt 1 w kv (ks.map intCell)) (hss : RowsAt 1 w sv (ss.map intCell))
    (hl : ks.length ≤ 100000) (hls : ss.length ≤ 100000) (hks : ks.Pairwise (· ≤ ·)) (hsort : ss.Pairwise (· ≤ ·)) (hlen : xs.length = ks.length) (hsm : ∀ s ∈ ss, s ≤ 1000000) (c : Nat) (hcc : c ≤ 1000000) :
    Calls Try.prog 49 #[.pointer (some ⟨q, 0, none⟩), .int .i64 (c : Nat)] w fun e w' => ∃ v1 v2, e = .returned (.tuple #[v1, v2]) ∧ RowsAt 1 w' v1 (xs.take (durN ks ss c)) ∧ RowsAt 1 w' v2 ((xs.take (tillN ks c)).drop (durN ks ss c)) ∧ ∃ q, w' = w.drewN q := by
  have g0 := cell_at (i := 0) hq rfl
  have g1 := cell_at (i := 1) hq rfl
  have g2 := cell_at (i := 2) hq rfl
  have hqlt : q < w.heap.size := (Array.getElem?_eq_some_iff.1 hq).1
  have hN := tillN_le ss c
  have hD := durN_le ks ss c hsort
  have hK := tillN_le ks c
  have cT : ∀ (W : World), W.heap = w.heap → Calls Try.prog 66 #[kv, .int .i64 (c : Nat)] W fun e w' => e = .returned (.int .i64 (tillN ks c : Nat)) ∧ ∃ q, w' = W.drewN q := fun W hW => countTill_any (hk.heap hW) hks hl c hcc
  have cS : ∀ (W : World), W.heap = w.heap → Calls Try.prog 66 #[sv, .int .i64 (c : Nat)] W fun e w' => e = .returned (.int .i64 (tillN ss c : Nat)) ∧ ∃ q, w' = W.drewN q := fun W hW => countTill_any (hss.heap hW) hsort hls c hcc
  obtain ⟨v1, hu, hr1, _⟩ := hc.upto elemB.ht elemB.hs (m := durN ks ss c) (by omega)
  obtain ⟨v2, hm, hr2⟩ := hc.mid elemB.ht elemB.hs (a := durN ks ss c) (b := tillN ks c) hD (by omega)
  have hfin := Lib.hid (fun nq => And.intro (hr1.drewN nq) (hr2.drewN nq))
  have hb1 := tillN_at ss c hsort
  obtain ⟨D, hDD⟩ : ∃ D, durN ks ss c = D := ⟨_, rfl⟩
  obtain ⟨T, hTT⟩ : ∃ T, tillN ks c = T := ⟨_, rfl⟩
  obtain ⟨M, hMM⟩ : ∃ M, tillN ss c = M := ⟨_, rfl⟩
  rw [hMM] at hN hb1 cS
  rw [hTT] at cT hm
  rw [hDD] at hu hm
  clear hr1 hr2 hD hK
  have cT := Lib.hid cT
  have cS := Lib.hid cS
  rcases Nat.eq_zero_or_pos M with hM0 | hM0
  · subst hM0
    have hD0 : D = 0 := by rw [← hDD]; unfold durN; rw [if_pos hMM]
    subst hD0
    rw [show ((0 : Nat) : Int) = 0 from rfl] at hu hm
    clear hDD hTT hMM hb1
    go_enter Try.func49, Try.ntmps49
    go_wp2_with (go_at_call 66; refine (cS.out _ rfl).mono ?_; rintro e w1 ⟨rfl, q1, rfl⟩)
    go_quiet ((go_at_call 66; refine quiet_at (cT.out _ ?_); rfl))
    go_wp2
    go_ret2
    exact ⟨v1, v2, rfl, (hfin.out 0).1, (hfin.out 0).2, by (repeat rw [World.drewN_drewN]); exact ⟨_, rfl⟩⟩
  · have hDe : tillN ks (ss.getD (M - 1) 0) = D := by rw [← hDD]; unfold durN; rw [hMM, if_neg (by omega)]
    have hlt : M - 1 < ss.length := by omega
    obtain ⟨b, off, hix, hcc2, hbl, _⟩ := hss.index elemI.ht elemI.hs (ints_at hlt)
    obtain ⟨S, hS⟩ : ∃ S, ss.getD (M - 1) 0 = S := ⟨_, rfl⟩
    rw [hS] at hDe hcc2
    have hSm : S ≤ 1000000 := by rw [← hS]; simp only [List.getD, List.getElem?_eq_getElem hlt, Option.getD_some]; exact hsm _ (List.getElem_mem hlt)
    have k0 : w.cell? ⟨b, off, none⟩ = some (.int .i64 (S : Nat)) := hcc2 0 _ rfl
    have hMi : ((M - 1 : Nat) : Int) = (M : Int) - 1 := by omega
    rw [hMi] at hix
    have hwr : IntKind.i64.wrap ((M : Int) - 1) = (M : Int) - 1 := by rw [IntKind.wrap_i64]; omega
    have cD : ∀ (W : World), W.heap = w.heap → Calls Try.prog 66 #[kv, .int .i64 (S : Nat)] W fun e w' => e = .returned (.int .i64 (tillN ks S : Nat)) ∧ ∃ q, w' = W.drewN q := fun W hW => countTill_any (hk.heap hW) hks hl S hSm
    rw [hDe] at cD
    have cD := Lib.hid cD
    clear hDD hTT hMM hb1 hDe hS hcc2 hMi
    go_enter Try.func49, Try.ntmps49
    go_wp2_with (go_at_call 66; refine (cS.out _ rfl).mono ?_; rintro e w1 ⟨rfl, q1, rfl⟩)
    go_quiet ((go_at_call 66; refine quiet_at (cD.out _ ?_); rfl))
    go_wp2
    go_quiet ((go_at_call 66; refine quiet_at (cT.out _ ?_); rfl))
    go_wp2
    go_ret2
    exact ⟨v1, v2, rfl, (hfin.out 0).1, (hfin.out 0).2, by (repeat rw [World.drewN_drewN]); exact ⟨_, rfl⟩⟩

set_option maxRecDepth 20000 in
set_option maxHeartbeats 4000000 in
theorem tillN_any {q : Nat} {w : World} {mv cv kv sv z : Value} {xs : List (List Value)} {ks ss : List Nat} (hq : w.heap[q]? = some (.cells #[mv, cv, kv, sv, z] 64 (0, 0))) (hc : RowsAt 3 w cv xs) (hk : RowsAt 1 w kv (ks.map intCell)) (hss : RowsAt 1 w sv (ss.map intCell))
    (hl : ks.length ≤ 100000) (hls : ss.length ≤ 100000) (hks : ks.Pairwise (· ≤ ·)) (hsort : ss.Pairwise (· ≤ ·)) (hlen : xs.length = ks.length) (hsm : ∀ s ∈ ss, s ≤ 1000000) (c : Nat) (hcc : c ≤ 1000000) :
    Calls Try.prog 52 #[.pointer (some ⟨q, 1, none⟩), .int .i64 (c : Nat)] w fun e w' => ∃ v1 v2, e = .returned (.tuple #[v1, v2]) ∧ RowsAt 3 w' v1 (xs.take (durN ks ss c)) ∧ RowsAt 3 w' v2 ((xs.take (tillN ks c)).drop (durN ks ss c)) ∧ ∃ q, w' = w.drewN q := by
  have g0 := cell_at (i := 1) hq rfl
  have g1 := cell_at (i := 2) hq rfl
  have g2 := cell_at (i := 3) hq rfl
  have hqlt : q < w.heap.size := (Array.getElem?_eq_some_iff.1 hq).1
  have hN := tillN_le ss c
  have hD := durN_le ks ss c hsort
  have hK := tillN_le ks c
  have cT : ∀ (W : World), W.heap = w.heap → Calls Try.prog 66 #[kv, .int .i64 (c : Nat)] W fun e w' => e = .returned (.int .i64 (tillN ks c : Nat)) ∧ ∃ q, w' = W.drewN q := fun W hW => countTill_any (hk.heap hW) hks hl c hcc
  have cS : ∀ (W : World), W.heap = w.heap → Calls Try.prog 66 #[sv, .int .i64 (c : Nat)] W fun e w' => e = .returned (.int .i64 (tillN ss c : Nat)) ∧ ∃ q, w' = W.drewN q := fun W hW => countTill_any (hss.heap hW) hsort hls c hcc
  obtain ⟨v1, hu, hr1, _⟩ := hc.upto elemNam.ht elemNam.hs (m := durN ks ss c) (by omega)
  obtain ⟨v2, hm, hr2⟩ := hc.mid elemNam.ht elemNam.hs (a := durN ks ss c) (b := tillN ks c) hD (by omega)
  have hfin := Lib.hid (fun nq => And.intro (hr1.drewN nq) (hr2.drewN nq))
  have hb1 := tillN_at ss c hsort
  obtain ⟨D, hDD⟩ : ∃ D, durN ks ss c = D := ⟨_, rfl⟩
  obtain ⟨T, hTT⟩ : ∃ T, tillN ks c = T := ⟨_, rfl⟩
  obtain ⟨M, hMM⟩ : ∃ M, tillN ss c = M := ⟨_, rfl⟩
  rw [hMM] at hN hb1 cS
  rw [hTT] at cT hm
  rw [hDD] at hu hm
  clear hr1 hr2 hD hK
  have cT := Lib.hid cT
  have cS := Lib.hid cS
  rcases Nat.eq_zero_or_pos M with hM0 | hM0
  · subst hM0
    have hD0 : D = 0 := by rw [← hDD]; unfold durN; rw [if_pos hMM]
    subst hD0
    rw [show ((0 : Nat) : Int) = 0 from rfl] at hu hm
    clear hDD hTT hMM hb1
    go_enter Try.func52, Try.ntmps52
    go_wp2_with (go_at_call 66; refine (cS.out _ rfl).mono ?_; rintro e w1 ⟨rfl, q1, rfl⟩)
    go_quiet ((go_at_call 66; refine quiet_at (cT.out _ ?_); rfl))
    go_wp2
    go_ret2
    exact ⟨v1, v2, rfl, (hfin.out 0).1, (hfin.out 0).2, by (repeat rw [World.drewN_drewN]); exact ⟨_, rfl⟩⟩
  · have hDe : tillN ks (ss.getD (M - 1) 0) = D := by rw [← hDD]; unfold durN; rw [hMM, if_neg (by omega)]
    have hlt : M - 1 < ss.length := by omega
    obtain ⟨b, off, hix, hcc2, hbl, _⟩ := hss.index elemI.ht elemI.hs (ints_at hlt)
    obtain ⟨S, hS⟩ : ∃ S, ss.getD (M - 1) 0 = S := ⟨_, rfl⟩
    rw [hS] at hDe hcc2
    have hSm : S ≤ 1000000 := by rw [← hS]; simp only [List.getD, List.getElem?_eq_getElem hlt, Option.getD_some]; exact hsm _ (List.getElem_mem hlt)
    have k0 : w.cell? ⟨b, off, none⟩ = some (.int .i64 (S : Nat)) := hcc2 0 _ rfl
    have hMi : ((M - 1 : Nat) : Int) = (M : Int) - 1 := by omega
    rw [hMi] at hix
    have hwr : IntKind.i64.wrap ((M : Int) - 1) = (M : Int) - 1 := by rw [IntKind.wrap_i64]; omega
    have cD : ∀ (W : World), W.heap = w.heap → Calls Try.prog 66 #[kv, .int .i64 (S : Nat)] W fun e w' => e = .returned (.int .i64 (tillN ks S : Nat)) ∧ ∃ q, w' = W.drewN q := fun W hW => countTill_any (hk.heap hW) hks hl S hSm
    rw [hDe] at cD
    have cD := Lib.hid cD
    clear hDD hTT hMM hb1 hDe hS hcc2 hMi
    go_enter Try.func52, Try.ntmps52
    go_wp2_with (go_at_call 66; refine (cS.out _ rfl).mono ?_; rintro e w1 ⟨rfl, q1, rfl⟩)
    go_quiet ((go_at_call 66; refine quiet_at (cD.out _ ?_); rfl))
    go_wp2
    go_quiet ((go_at_call 66; refine quiet_at (cT.out _ ?_); rfl))
    go_wp2
    go_ret2
    exact ⟨v1, v2, rfl, (hfin.out 0).1, (hfin.out 0).2, by (repeat rw [World.drewN_drewN]); exact ⟨_, rfl⟩⟩
end Go.Proofs.Ytpkiapjcilapoaa
