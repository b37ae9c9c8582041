/-
  FrameByte, walked.
-/
import Derived.Test.YtmeofjoamcghhaaLaw05b
namespace Go.Proofs.Ytmeofjoamcghhaa
open Go.RowKit Go.Sort

/-- An element of a row of the call's own: where it lies, and what a store there makes. -/
theorem own_ptr {w : World} {base : Nat} {v : Value} {l : List Nat} (h : Own w base v l) (hl : ∀ x ∈ l, x < 256) {i : Nat} (hi : i < l.length) (x : Nat) :
    ∃ ad : Addr, (∀ W, (Instr.indexAt 22 v (.int .i64 (i : Int))).run Try.prog W = .ok (.pointer (some ad)) W) ∧ w.cell? ad = some (.int .u8 (l.getD i 0 : Nat)) ∧ w.frozen? ad = false ∧
      Own (w.setCell ad (.int .u8 (x : Int))) base v (l.set i x) ∧ (∀ B, B ≤ base → Below B w (w.setCell ad (.int .u8 (x : Int)))) := by
  obtain ⟨g, c, rfl, _, _, hb, hlt, _⟩ := own_at h (by omega)
  obtain ⟨ad, h1, h2, _⟩ := (h.bytes hl).idx hi
  have had : ad = ⟨g, i, none⟩ := by
    have h3 := h1 w
    have he : Try.prog.elem 22 = 5 := by kernel_rfl
    rw [run_indexAt_slice (P := Try.prog) w 22 _ l.length c .i64 (i : Int) (by rw [he]; exact Try.underlying22), if_pos (by omega), he, elemY.hs] at h3
    simp only [Result.andThen, Int.toNat_natCast, Nat.mul_one, addr_at, Nat.zero_add] at h3
    injection h3 with h3 _
    injection h3 with h3
    injection h3 with h3
    exact h3.symm
  subst had
  have hst := World.ownsRow.stored h i (.int .u8 (x : Int))
  refine ⟨_, h1, h2, World.ownsRow.frozenAt h i, ?_, fun B hB => (Below.refl _ _).setCell (by simpa using Nat.le_trans hB hb) _⟩
  have := hst.1
  simpa [Own, bvals, bval, List.map_set] using this

theorem xor_ne {d b : Nat} (h : b ≠ 0) : d ^^^ b ≠ d := by
  intro h'
  have := congrArg (d ^^^ ·) h'
  simp [← Nat.xor_assoc] at this
  exact h this

/-- What is taken of a frame one byte of which was changed. -/
theorem take_byte {k : Nat} {l : List Nat} {P b : Nat} (hk : k < 256) (hl : ∀ x ∈ l, x < 256) (h : l.length ≤ 65536) (hP : P = 2 ∨ (7 ≤ P ∧ P < 11 + l.length)) (hb : b < 256) :
    (b = 0 → takeF ((frameL k l).set P ((frameL k l).getD P 0 ^^^ b)) = (k, l, 11 + l.length, 0)) ∧ (b ≠ 0 → takeF ((frameL k l).set P ((frameL k l).getD P 0 ^^^ b)) = (0, [], 0, 51)) := by
  have hPl : P < (frameL k l).length := by rw [frameL_len]; omega
  have hd : (frameL k l).getD P 0 < 256 := by
    simp only [List.getD]
    rw [List.getElem?_eq_getElem hPl]
    exact frameL_byte hk hl _ (List.getElem_mem hPl)
  constructor
  · rintro rfl
    have e : (frameL k l).set P ((frameL k l).getD P 0 ^^^ 0) = frameL k l := by
      rw [Nat.xor_zero]
      simp [List.getD, List.getElem?_eq_getElem hPl]
    have := take_wrap (k := k) (body := l) (more := []) h
    rw [List.append_nil] at this
    rw [e, this]
  · intro hb0
    exact take_change hk hl h hP (Nat.xor_lt_two_pow (n := 8) hd hb) (xor_ne hb0)

set_option maxRecDepth 20000 in
set_option maxHeartbeats 2000000 in
theorem frameByte_long (w : World) (k at' b : Int) (v : Value) (l : List Nat) (hv : BytesAt w v l) (h : 5000 < l.length) :
    Calls Try.prog 8 #[.agg #[.int .u8 k, v, .int .i64 at', .int .u8 b]] w (Ret (.bool true) w) := by
  have hlv := fun W => hv.len (ty := 3) W
  clear hv
  go_enter Try.func8, Try.ntmps8
  go_wp2_with (go_at_call 10; refine (alive5_any _).mono ?_; rintro e' w5 ⟨rfl, hb5⟩)
  go_ret
  exact ⟨rfl, below_box hb5⟩

set_option maxRecDepth 20000 in
set_option maxHeartbeats 4000000 in
theorem frameByte_walk' (w : World) (k b Q P : Nat) (at' : Int) (v : Value) (l : List Nat) (hv : BytesAt w v l) (h : l.length ≤ 5000) (hk : k < 256) (hb : b < 256)
    (hat : (0 ≤ at' ∧ at' ≤ 9223372036854775807 ∧ at' % ((l.length : Int) + 5) = Q) ∨ (at' < 0 ∧ -9223372036854775808 ≤ at' ∧ -(at' + 1) % ((l.length : Int) + 5) = Q))
    (hQ : Q < l.length + 5) (hP : (Q = 0 ∧ P = 2) ∨ (0 < Q ∧ P = 6 + Q)) :
    Calls Try.prog 8 #[.agg #[.int .u8 k, v, .int .i64 at', .int .u8 b]] w (Ret (.bool true) w) := by
  have hlv := fun W => hv.len (ty := 3) W
  have hlb := hv.byte
  have hP2 : P = 2 ∨ (7 ≤ P ∧ P < 11 + l.length) := by omega
  have hPl : P < (frameL k l).length := by rw [frameL_len]; omega
  have hfb := frameL_byte hk hlb
  have htb := take_byte hk hlb (by omega) hP2 hb
  obtain ⟨D, hD⟩ : ∃ D, (frameL k l).getD P 0 = D := ⟨_, rfl⟩
  have hD256 : D < 256 := by
    rw [← hD]; simp only [List.getD]; rw [List.getElem?_eq_getElem hPl]; exact hfb _ (List.getElem_mem hPl)
  rw [hD] at htb
  have hxor : bits .xor .u8 (D : Int) (b : Int) = ((D ^^^ b : Nat) : Int) := u8_xor_nat D b hD256 hb
  obtain ⟨X, hX⟩ : ∃ X, D ^^^ b = X := ⟨_, rfl⟩
  have hX256 : X < 256 := by rw [← hX]; exact Nat.xor_lt_two_pow (n := 8) hD256 hb
  rw [hX] at htb hxor
  have hsb := hide (show ∀ x ∈ (frameL k l).set P X, x < 256 from fun x hx => by
    rcases List.mem_or_eq_of_mem_set hx with h | h
    · exact hfb x h
    · omega)
  have hfb := hide hfb
  have cW : Hid (∀ W, BytesAt W v l → Calls Try.prog 14 #[.int .u8 k, v] W fun e w' => ∃ v' ad, e = .returned (.tuple #[v', .int .i64 0]) ∧ Below W.heap.size W w' ∧
      (∀ W, (Builtin.len_ #[22] 3 #[v']).run Try.prog W = .ok (.int .i64 (11 + (l.length : Int))) W) ∧
      (∀ W, (Instr.indexAt 22 v' (.int .i64 (P : Int))).run Try.prog W = .ok (.pointer (some ad)) W) ∧ w'.cell? ad = some (.int .u8 (D : Int)) ∧ w'.frozen? ad = false ∧
      BytesAt (w'.setCell ad (.int .u8 (X : Int))) v' ((frameL k l).set P X) ∧ Below W.heap.size w' (w'.setCell ad (.int .u8 (X : Int)))) := hide (fun W h' =>
    (cWrap_any v k l W hk h' (by omega)).mono fun e w' ⟨v', h1, h2, h3⟩ => by
      obtain ⟨ad, h4, h5, h6, h7, h8⟩ := own_ptr h2 hfb.out hPl X
      refine ⟨v', ad, h1, h3, fun W => ?_, h4, by rw [h5, hD], h6, h7.bytes hsb.out, h8 _ (Nat.le_refl _)⟩
      have := (h2.bytes hfb.out).len (ty := 3) W
      rwa [frameL_len, Int.natCast_add] at this)
  have cT : Hid (∀ W v', BytesAt W v' ((frameL k l).set P X) → Calls Try.prog 16 #[v'] W (GivesF (takeF ((frameL k l).set P X)) W)) := hide (fun W v' h => cTake_any v' _ W h)
  have hv := hide hv
  clear hX hD hPl hP2
  have HB : (b = 0 ∧ takeF ((frameL k l).set P X) = (k, l, 11 + l.length, 0)) ∨ (b ≠ 0 ∧ takeF ((frameL k l).set P X) = (0, [], 0, 51)) := by
    by_cases h0 : b = 0
    · exact .inl ⟨h0, htb.1 h0⟩
    · exact .inr ⟨h0, htb.2 h0⟩
  clear htb
  have hneg : at' < 0 → -((at' + 1).tmod ((l.length : Int) + 5)) = -(at' + 1) % ((l.length : Int) + 5) := fun h0 => by
    rw [← Int.neg_tmod, Int.tmod_eq_emod_of_nonneg (by omega)]
  rcases hat with ⟨ht0, ht1, ht⟩ | ⟨ht0, ht1, ht⟩
  · rcases hP with ⟨rfl, rfl⟩ | ⟨hQ0, rfl⟩
    · rcases HB with ⟨rfl, hT⟩ | ⟨hb0, hT⟩
      · rw [hT] at cT
        have hxor0 : bits .xor .u8 (D : Int) 0 = ((X : Nat) : Int) := hxor
        clear hT hneg
        go_enter Try.func8, Try.ntmps8
        go_wp2_with (first
          | (go_at_call 14; refine (cW.out _ (hv.out.below (below_box1 _ _))).mono ?_; rintro e' w1 ⟨v1, ad, rfl, hb1, hl1, ha, hac, haf, hby, hbs⟩; have k1 := below_box hb1; have ha : ∀ W, (Instr.indexAt 22 v1 (.int .i64 2)).run Try.prog W = .ok (.pointer (some ad)) W := ha; have hby := hide hby; have k2 : Below w.heap.size w (w1.setCell ad (.int .u8 (X : Int))) := k1.trans (hbs.mono (by simp)); clear hbs)
          | (go_at_call 16; refine (cT.out _ _ hby.out).mono ?_; rintro e' w2 ⟨v2, rfl, ho, hb2⟩)
          | (go_at_call 10; refine (alive5_any _).mono ?_; rintro e' w3 ⟨rfl, hb3⟩))
        go_ret
        exact ⟨rfl, then_call (then_call k2 hb2) hb3⟩
      · rw [hT] at cT
        have hbn : ((b : Int) != 0) = true := bne_iff_ne.2 (by omega)
        have hbe : ((b : Int) == 0) = false := beq_false_of_ne (by omega)
        clear hT hneg
        go_enter Try.func8, Try.ntmps8
        go_wp2_with (first
          | (go_at_call 14; refine (cW.out _ (hv.out.below (below_box1 _ _))).mono ?_; rintro e' w1 ⟨v1, ad, rfl, hb1, hl1, ha, hac, haf, hby, hbs⟩; have k1 := below_box hb1; have ha : ∀ W, (Instr.indexAt 22 v1 (.int .i64 2)).run Try.prog W = .ok (.pointer (some ad)) W := ha; have hby := hide hby; have k2 : Below w.heap.size w (w1.setCell ad (.int .u8 (X : Int))) := k1.trans (hbs.mono (by simp)); clear hbs)
          | (go_at_call 16; refine (cT.out _ _ hby.out).mono ?_; rintro e' w2 ⟨v2, rfl, ho, hb2⟩)
          | (go_at_call 10; refine (alive5_any _).mono ?_; rintro e' w3 ⟨rfl, hb3⟩))
        go_ret
        exact ⟨rfl, then_call (then_call k2 hb2) hb3⟩
    · rcases HB with ⟨rfl, hT⟩ | ⟨hb0, hT⟩
      · rw [hT] at cT
        have hxor0 : bits .xor .u8 (D : Int) 0 = ((X : Nat) : Int) := hxor
        clear hT hneg
        go_enter Try.func8, Try.ntmps8
        go_wp2_with (first
          | (go_at_call 14; refine (cW.out _ (hv.out.below (below_box1 _ _))).mono ?_; rintro e' w1 ⟨v1, ad, rfl, hb1, hl1, ha, hac, haf, hby, hbs⟩; have k1 := below_box hb1; have ha : ∀ W, (Instr.indexAt 22 v1 (.int .i64 (6 + (Q : Int)))).run Try.prog W = .ok (.pointer (some ad)) W := (fun W => (by have := ha W; rwa [Int.natCast_add] at this)); have hby := hide hby; have k2 : Below w.heap.size w (w1.setCell ad (.int .u8 (X : Int))) := k1.trans (hbs.mono (by simp)); clear hbs)
          | (go_at_call 16; refine (cT.out _ _ hby.out).mono ?_; rintro e' w2 ⟨v2, rfl, ho, hb2⟩)
          | (go_at_call 10; refine (alive5_any _).mono ?_; rintro e' w3 ⟨rfl, hb3⟩))
        go_ret
        exact ⟨rfl, then_call (then_call k2 hb2) hb3⟩
      · rw [hT] at cT
        have hbn : ((b : Int) != 0) = true := bne_iff_ne.2 (by omega)
        have hbe : ((b : Int) == 0) = false := beq_false_of_ne (by omega)
        clear hT hneg
        go_enter Try.func8, Try.ntmps8
        go_wp2_with (first
          | (go_at_call 14; refine (cW.out _ (hv.out.below (below_box1 _ _))).mono ?_; rintro e' w1 ⟨v1, ad, rfl, hb1, hl1, ha, hac, haf, hby, hbs⟩; have k1 := below_box hb1; have ha : ∀ W, (Instr.indexAt 22 v1 (.int .i64 (6 + (Q : Int)))).run Try.prog W = .ok (.pointer (some ad)) W := (fun W => (by have := ha W; rwa [Int.natCast_add] at this)); have hby := hide hby; have k2 : Below w.heap.size w (w1.setCell ad (.int .u8 (X : Int))) := k1.trans (hbs.mono (by simp)); clear hbs)
          | (go_at_call 16; refine (cT.out _ _ hby.out).mono ?_; rintro e' w2 ⟨v2, rfl, ho, hb2⟩)
          | (go_at_call 10; refine (alive5_any _).mono ?_; rintro e' w3 ⟨rfl, hb3⟩))
        go_ret
        exact ⟨rfl, then_call (then_call k2 hb2) hb3⟩
  · rcases hP with ⟨rfl, rfl⟩ | ⟨hQ0, rfl⟩
    · rcases HB with ⟨rfl, hT⟩ | ⟨hb0, hT⟩
      · rw [hT] at cT
        have hxor0 : bits .xor .u8 (D : Int) 0 = ((X : Nat) : Int) := hxor
        have hn := hneg ht0
        rw [ht] at hn
        clear hT hneg
        go_enter Try.func8, Try.ntmps8
        go_wp2_with (first
          | (go_at_call 14; refine (cW.out _ (hv.out.below (below_box1 _ _))).mono ?_; rintro e' w1 ⟨v1, ad, rfl, hb1, hl1, ha, hac, haf, hby, hbs⟩; have k1 := below_box hb1; have ha : ∀ W, (Instr.indexAt 22 v1 (.int .i64 2)).run Try.prog W = .ok (.pointer (some ad)) W := ha; have hby := hide hby; have k2 : Below w.heap.size w (w1.setCell ad (.int .u8 (X : Int))) := k1.trans (hbs.mono (by simp)); clear hbs)
          | (go_at_call 16; refine (cT.out _ _ hby.out).mono ?_; rintro e' w2 ⟨v2, rfl, ho, hb2⟩)
          | (go_at_call 10; refine (alive5_any _).mono ?_; rintro e' w3 ⟨rfl, hb3⟩))
        go_ret
        exact ⟨rfl, then_call (then_call k2 hb2) hb3⟩
      · rw [hT] at cT
        have hbn : ((b : Int) != 0) = true := bne_iff_ne.2 (by omega)
        have hbe : ((b : Int) == 0) = false := beq_false_of_ne (by omega)
        have hn := hneg ht0
        rw [ht] at hn
        clear hT hneg
        go_enter Try.func8, Try.ntmps8
        go_wp2_with (first
          | (go_at_call 14; refine (cW.out _ (hv.out.below (below_box1 _ _))).mono ?_; rintro e' w1 ⟨v1, ad, rfl, hb1, hl1, ha, hac, haf, hby, hbs⟩; have k1 := below_box hb1; have ha : ∀ W, (Instr.indexAt 22 v1 (.int .i64 2)).run Try.prog W = .ok (.pointer (some ad)) W := ha; have hby := hide hby; have k2 : Below w.heap.size w (w1.setCell ad (.int .u8 (X : Int))) := k1.trans (hbs.mono (by simp)); clear hbs)
          | (go_at_call 16; refine (cT.out _ _ hby.out).mono ?_; rintro e' w2 ⟨v2, rfl, ho, hb2⟩)
          | (go_at_call 10; refine (alive5_any _).mono ?_; rintro e' w3 ⟨rfl, hb3⟩))
        go_ret
        exact ⟨rfl, then_call (then_call k2 hb2) hb3⟩
    · rcases HB with ⟨rfl, hT⟩ | ⟨hb0, hT⟩
      · rw [hT] at cT
        have hxor0 : bits .xor .u8 (D : Int) 0 = ((X : Nat) : Int) := hxor
        have hn := hneg ht0
        rw [ht] at hn
        clear hT hneg
        go_enter Try.func8, Try.ntmps8
        go_wp2_with (first
          | (go_at_call 14; refine (cW.out _ (hv.out.below (below_box1 _ _))).mono ?_; rintro e' w1 ⟨v1, ad, rfl, hb1, hl1, ha, hac, haf, hby, hbs⟩; have k1 := below_box hb1; have ha : ∀ W, (Instr.indexAt 22 v1 (.int .i64 (6 + (Q : Int)))).run Try.prog W = .ok (.pointer (some ad)) W := (fun W => (by have := ha W; rwa [Int.natCast_add] at this)); have hby := hide hby; have k2 : Below w.heap.size w (w1.setCell ad (.int .u8 (X : Int))) := k1.trans (hbs.mono (by simp)); clear hbs)
          | (go_at_call 16; refine (cT.out _ _ hby.out).mono ?_; rintro e' w2 ⟨v2, rfl, ho, hb2⟩)
          | (go_at_call 10; refine (alive5_any _).mono ?_; rintro e' w3 ⟨rfl, hb3⟩))
        go_ret
        exact ⟨rfl, then_call (then_call k2 hb2) hb3⟩
      · rw [hT] at cT
        have hbn : ((b : Int) != 0) = true := bne_iff_ne.2 (by omega)
        have hbe : ((b : Int) == 0) = false := beq_false_of_ne (by omega)
        have hn := hneg ht0
        rw [ht] at hn
        clear hT hneg
        go_enter Try.func8, Try.ntmps8
        go_wp2_with (first
          | (go_at_call 14; refine (cW.out _ (hv.out.below (below_box1 _ _))).mono ?_; rintro e' w1 ⟨v1, ad, rfl, hb1, hl1, ha, hac, haf, hby, hbs⟩; have k1 := below_box hb1; have ha : ∀ W, (Instr.indexAt 22 v1 (.int .i64 (6 + (Q : Int)))).run Try.prog W = .ok (.pointer (some ad)) W := (fun W => (by have := ha W; rwa [Int.natCast_add] at this)); have hby := hide hby; have k2 : Below w.heap.size w (w1.setCell ad (.int .u8 (X : Int))) := k1.trans (hbs.mono (by simp)); clear hbs)
          | (go_at_call 16; refine (cT.out _ _ hby.out).mono ?_; rintro e' w2 ⟨v2, rfl, ho, hb2⟩)
          | (go_at_call 10; refine (alive5_any _).mono ?_; rintro e' w3 ⟨rfl, hb3⟩))
        go_ret
        exact ⟨rfl, then_call (then_call k2 hb2) hb3⟩
end Go.Proofs.Ytmeofjoamcghhaa
