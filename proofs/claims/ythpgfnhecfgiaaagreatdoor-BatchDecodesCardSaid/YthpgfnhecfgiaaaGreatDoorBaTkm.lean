/-
  The columns of numbers taken from bytes, and given to operations.
-/
import Derived.Test.YthpgfnhecfgiaaaGreatDoorBaTkn
import Derived.Test.YthpgfnhecfgiaaaGreatDoorBaPutN
namespace Go.Proofs.YthpgfnhecfgiaaaGreatDoor
open Go.RowKit Go.Sort
set_option maxRecDepth 20000

/-- The bytes of the first k columns; all columns stand at the beginning of b. -/
def prefB (L : Nat → List Int) : Nat → List Nat
  | 0 => []
  | k + 1 => prefB L k ++ colBy k (L k)
def NumOf (b : List Nat) (n : Nat) (L : Nat → List Int) : Prop := (∀ i, i < 21 → (L i).length = n ∧ ∀ x ∈ L i, InR x) ∧ prefB L 21 <+: b
theorem prefB_congr {L L' : Nat → List Int} : ∀ {k : Nat}, (∀ j, j < k → L j = L' j) → prefB L k = prefB L' k
  | 0, _ => rfl
  | k + 1, h => by rw [prefB, prefB, prefB_congr (fun j hj => h j (by omega)), h k (by omega)]
theorem prefB_up (L : Nat → List Int) {j : Nat} : ∀ {k : Nat}, j ≤ k → prefB L j <+: prefB L k
  | 0, h => by obtain rfl : j = 0 := by omega
               exact List.prefix_refl _
  | k + 1, h => by
    rcases Nat.lt_or_ge j (k + 1) with h' | h'
    · exact (prefB_up L (k := k) (by omega)).trans (List.prefix_append _ _)
    · obtain rfl : j = k + 1 := by omega
      exact List.prefix_refl _
theorem pre_drop {A B b : List Nat} (h : A ++ B <+: b) : B <+: b.drop A.length := by
  obtain ⟨s, rfl⟩ := h
  rw [List.append_assoc, List.drop_left]
  exact List.prefix_append _ _
theorem pre_join {A B b : List Nat} (h : A <+: b) (h' : B <+: b.drop A.length) : A ++ B <+: b := by
  obtain ⟨s, rfl⟩ := h
  rw [List.drop_left] at h'
  obtain ⟨s', rfl⟩ := h'
  exact ⟨s', by rw [List.append_assoc]⟩
theorem NumOf.col {b : List Nat} {n : Nat} {L L' : Nat → List Int} (h : NumOf b n L') {i : Nat} (hi : i < 21) (hs : ∀ j, j < i → L' j = L j) : ColOf (b.drop (prefB L i).length) n i (L' i) := by
  refine ⟨(h.1 i hi).1, (h.1 i hi).2, ?_⟩
  have h1 : prefB L' (i + 1) <+: b := (prefB_up L' (by omega)).trans h.2
  rw [prefB] at h1
  have h2 := pre_drop h1
  rwa [prefB_congr hs] at h2

/-- While columns are taken: i of them have been. -/
structure TkC (W0 W : World) (base gc cp cap n i : Nat) (vs : Nat → Value) (cs : Array Value) (L : Nat → List Int) : Prop where
  gcb : W.heap[gc]? = some (.cells cs 96)
  cpb : W.heap[cp]? = some (.cells #[.slice (some ⟨gc, 0, none⟩) 21 cap] 89)
  val : ∀ k, k < 21 → cs[k * 2]? = some (.int .i64 (formN k)) ∧ cs[k * 2 + 1]? = some (if k < i then vs k else .slice none 0 0)
  row : ∀ k, k < i → OwnRow W base 3 (vs k) (ints (L k)) ∧ (vs k).ownBlock ≠ some gc ∧ (vs k).ownBlock ≠ some cp
  len : ∀ k, k < i → (L k).length = n ∧ ∀ x ∈ L k, InR x
  bgc : base ≤ gc
  bcp : base ≤ cp
  gcp : gc ≠ cp
  bel : Below base W0 W
theorem TkC.up {W0 W W2 : World} {base gc cp cap n i : Nat} {vs : Nat → Value} {cs : Array Value} {L : Nat → List Int} (h : TkC W0 W base gc cp cap n i vs cs L) (hb : Below W.heap.size W W2) : TkC W0 W2 base gc cp cap n i vs cs L := by
  have hcl : cp < W.heap.size := (Array.getElem?_eq_some_iff.1 h.cpb).1
  have hbc := h.bcp
  have ht : Turns [] W W2 := Turns.of_below hb
  exact ⟨held_turns h.gcb ht (by simp), held_turns h.cpb ht (by simp), h.val, fun k hk => ⟨(h.row k hk).1.turns ht (by simp), (h.row k hk).2⟩, h.len, h.bgc, h.bcp, h.gcp, h.bel.trans (hb.mono (by omega))⟩
/-- One column more. -/
theorem TkC.more {W0 W : World} {base gc cp cap n i : Nat} {vs : Nat → Value} {cs : Array Value} {L : Nat → List Int} (h : TkC W0 W base gc cp cap n i vs cs L) (hi : i < 21) {v : Value} {c : List Int} (ho : OwnRow W base 3 v (ints c)) (hg : v.ownBlock ≠ some gc) (hc : v.ownBlock ≠ some cp)
    (hl : c.length = n) (hr : ∀ x ∈ c, InR x) :
    TkC W0 (W.setCell ⟨gc, i * 2 + 1, none⟩ v) base gc cp cap n (i + 1) (fun k => if k = i then v else vs k) (cs.set! (i * 2 + 1) v) (fun k => if k = i then c else L k) := by
  have hst : Turns [gc] W (W.setCell ⟨gc, i * 2 + 1, none⟩ v) := Turns.set W v (by simp)
  have hgc := h.bgc
  have hsz : i * 2 + 1 < cs.size := (Array.getElem?_eq_some_iff.1 (h.val i hi).2).1
  refine ⟨heap_set_at h.gcb _ v, held_turns h.cpb hst (by simpa using Ne.symm h.gcp), fun k hk => ?_, fun k hk => ?_, fun k hk => ?_, h.bgc, h.bcp, h.gcp, h.bel.trans (hst.below (by have := (Array.getElem?_eq_some_iff.1 h.gcb).1; omega) (fun b hb => by simp at hb; omega))⟩
  · rw [Array.set!_eq_setIfInBounds, Array.getElem?_setIfInBounds_ne (by omega)]
    refine ⟨(h.val k hk).1, ?_⟩
    by_cases e : k = i
    · subst e
      rw [if_pos (Nat.lt_succ_self _), if_pos rfl, Array.getElem?_setIfInBounds_self_of_lt hsz]
    · rw [if_neg e, Array.getElem?_setIfInBounds_ne (by omega), (h.val k hk).2]
      by_cases e' : k < i
      · rw [if_pos e', if_pos (by omega)]
      · rw [if_neg e', if_neg (by omega)]
  · by_cases e : k = i
    · subst e
      simp only [if_true]
      exact ⟨ho.turns hst (fun b hb => by simp; rintro rfl; exact hg hb), hg, hc⟩
    · simp only [if_neg e]
      obtain ⟨r1, r2, r3⟩ := h.row k (by omega)
      exact ⟨r1.turns hst (fun b hb => by simp; rintro rfl; exact r2 hb), r2, r3⟩
  · by_cases e : k = i
    · subst e
      simp only [if_true]
      exact ⟨hl, hr⟩
    · simp only [if_neg e]
      exact h.len k (by omega)

/-- What the taker of numbers leaves. -/
def NumPost (b : List Nat) (n g : Nat) (D0 : Nat → OpV) (w : World) : Ending → World → Prop := fun e w' => Turns [g] w w' ∧
  ((∃ L D, NumOf b n L ∧ e = .returned (.tuple #[.int .i64 ((prefB L 21).length : Nat), .nilIface]) ∧ Fld w' g n D ∧ (∀ t, t < n → ∀ j, j < 21 → (L j)[t]? = some (fld (D t) j)) ∧ ∀ t, (∀ c, truV (D t) c = truV (D0 t) c) ∧ ∀ c, c < 3 → txt (D t) c = txt (D0 t) c) ∨
   ((∀ L, ¬ NumOf b n L) ∧ ∃ k : Int, e = .returned (.tuple #[.int .i64 0, .iface 49 (.agg #[.int .i64 k])])))

set_option maxHeartbeats 4000000 in
theorem takeNumbers_any {g n cap0 : Nat} {bv : Value} {b : List Nat} {D0 : Nat → OpV} (w : World) (hF : Fld w g n D0) (hbv : BytesAt w bv b) (hn : n ≤ 200) (hnc : n ≤ cap0) (hcm : cap0 ≤ maxLen) :
    Calls Tryz.prog 27 #[.slice (some ⟨g, 0, none⟩) n cap0, bv] w (NumPost b n g D0 w) := by
  have hgl := hF.lt
  have hll : ∀ W, (Builtin.len_ #[24] 3 #[.slice (some ⟨g, 0, none⟩) n cap0]).run Tryz.prog W = .ok (.int .i64 (n : Nat)) W := fun W => by
    have := (hF.ops hnc hcm).len 3 W
    simpa using this
  have hbl : (b.length : Int) ≤ 9223372036854775807 := by have := hbv.row.le; rwa [bvals_length] at this
  obtain ⟨v, hv⟩ : ∃ v, Value.slice (some ⟨g, 0, none⟩) n cap0 = v := ⟨_, rfl⟩
  rw [hv] at hll ⊢
  have hbv := Lib.hid hbv
  have hF := Lib.hid hF
  have hv := Lib.hid hv
  go_enter Tryz.func27, Tryz.ntmps27
  go_wp2_with (go_at_call 43; refine (numberColumns_any _).mono ?_; rintro e w1 ⟨cv, rfl, hc, hb1⟩; obtain ⟨gc, cap, cs, rfl, hC⟩ := cols_begin hc hb1)
  clear hc
  have hC0 : TkC w (w1.alloc (.cells #[.slice (some ⟨gc, 0, none⟩) 21 cap] 89)) w.heap.size gc w1.heap.size cap n 0 (fun _ => .slice none 0 0) cs (fun _ => []) := by
    have hgl := hC.glt
    exact ⟨held_alloc hC.blk _, Go.heap_alloc_new w1 _, fun k hk => ⟨(hC.val k hk).1, by rw [if_neg (Nat.not_lt_zero k)]; exact (hC.val k hk).2⟩, fun k hk => absurd hk (Nat.not_lt_zero k), fun k hk => absurd hk (Nat.not_lt_zero k), hC.bg, hb1.size, by omega, hb1.alloc hb1.size _⟩
  obtain ⟨cp, hcp⟩ : ∃ cp, w1.heap.size = cp := ⟨_, rfl⟩
  obtain ⟨W1, hW1⟩ : ∃ W1, w1.alloc (.cells #[.slice (some ⟨gc, 0, none⟩) 21 cap] 89) = W1 := ⟨_, rfl⟩
  try rw [hcp] at hC0
  try rw [hcp]
  rw [hW1] at hC0 ⊢
  have c00 : W1.cell? ⟨cp, 0, none⟩ = some (.slice (some ⟨gc, 0, none⟩) 21 cap) := cell_held hC0.cpb rfl
  clear hW1 hcp hC hb1
  have hC0 := Lib.hid hC0
  go_wp2
  clear c00
  go_loopw [7, 18] (fun o' t wr => ∃ (i a0 : Nat) (vs : Nat → Value) (cs : Array Value) (L : Nat → List Int), o' = .int .i64 (a0 : Nat) ∧ t = .int .i64 i ∧ i ≤ 21 ∧ Hid (a0 = (prefB L i).length) ∧ Hid (prefB L i <+: b) ∧ Hid (∀ L', NumOf b n L' → ∀ j, j < i → L' j = L j) ∧ Hid (TkC w wr w.heap.size gc cp cap n i vs cs L)) (fun _ t _ => 21 - (intOf t).toNat)
  case atStart => exact ⟨0, 0, _, _, _, rfl, rfl, by omega, Lib.hid rfl, Lib.hid (List.nil_prefix), Lib.hid (fun _ _ j hj => absurd hj (Nat.not_lt_zero j)), hC0⟩
  case round =>
    clear hC0
    obtain ⟨i, a0, vs, cs, L, rfl, rfl, hi, ha0, hpre, huni, hC⟩ := hrel
    by_cases hlt : i < 21
    · have hi4 : (i : Int) < 21 := by omega
      have k0 : wr.cell? ⟨gc, i * 2, none⟩ = some (.int .i64 (formN i)) := cell_held hC.out.gcb (hC.out.val i hlt).1
      have k1 : wr.cell? ⟨gc, i * 2 + 1, none⟩ = some (.slice none 0 0) := by
        have := cell_held hC.out.gcb (hC.out.val i hlt).2
        rwa [if_neg (Nat.lt_irrefl i)] at this
      have hix : ∀ X, (Instr.indexAt 89 (.slice (some ⟨gc, 0, none⟩) 21 cap) (.int .i64 (i : Int))).run Tryz.prog X = .ok (.pointer (some ⟨gc, i * 2, none⟩)) X := fun X => by
        have he : Tryz.prog.elem 89 = 96 := by kernel_rfl
        rw [run_indexAt_slice (P := Tryz.prog) X _ _ 21 cap .i64 (i : Int) (by kernel_rfl), if_pos (by omega), he, elemC.hs]
        simp [Result.andThen, addr_at]
      have ha0l : a0 ≤ b.length := by rw [ha0.out]; exact hpre.out.length_le
      have hbel0 := Lib.hid hC.out.bel
      have hCX := Lib.hid (hC.out.up (below_box1 wr (.cells #[.int .i64 (formN i), .slice none 0 0] 96)))
      obtain ⟨wr0, hwr0⟩ : ∃ wr0, wr0 = wr := ⟨_, rfl⟩
      subst hwr0
      go_wp2_with fail
      obtain ⟨wq, hwq⟩ : ∃ wq, wr0.alloc (.cells #[.int .i64 (formN i), .slice none 0 0] 96) = wq := ⟨_, rfl⟩
      obtain ⟨q, hq⟩ : ∃ q, wr0.heap.size = q := ⟨_, rfl⟩
      have q0 : wq.cell? ⟨q, 0, none⟩ = some (.int .i64 (formN i)) := by rw [← hwq, ← hq]; exact cell_held (Go.heap_alloc_new wr0 _) rfl
      have hql : q < wq.heap.size := by rw [← hwq, ← hq]; simp
      have hbelq : Below w.heap.size w wq := by rw [← hwq]; exact hbel0.out.alloc hbel0.out.size _
      rw [hwq] at hCX ⊢
      try rw [hq]
      obtain ⟨bv2, hcut, hbv2⟩ := (hbv.out.below hbelq).cut ha0l
      have hbq : BytesAt wq.drew bv2 (b.drop a0) := hbv2
      obtain ⟨c, a, e5, hT⟩ := tookCol_any (b.drop a0) n i
      clear k0 k1 hwq hbel0 hC
      refine wp_region_held_drew (S := fun X => X.cell? ⟨q, 0, none⟩ = some (.int .i64 (formN i))) (by kernel_rfl) q0 (fun hH => ?_)
      refine wpAnyH_take (i := 0) (oi := ⟨some 24, .fieldAddr 96 (.tmp 9) 0, _, _, _, none⟩) (v := (.pointer (some ⟨q, 0, none⟩))) rfl (by decide +kernel) (by decide +kernel) (by decide +kernel) (fun _ _ _ h => h) (.inl ⟨rfl, fun X hX => by go_simp⟩) hH ?_
      try simp only [Act.put, List.setIfInBounds_toArray, List.set_cons_succ, List.set_cons_zero]
      refine wpAnyH_take (i := 1) (oi := ⟨some 25, .load 93 (.tmp 24), _, _, _, none⟩) (v := (.int .i64 (formN i))) rfl (by decide +kernel) (by decide +kernel) (by decide +kernel) (fun _ _ _ h => h) (.inl ⟨rfl, fun X hX => by have e := hX; go_simp⟩) hH ?_
      try simp only [Act.put, List.setIfInBounds_toArray, List.set_cons_succ, List.set_cons_zero]
      refine wpAnyH_take (i := 2) (oi := ⟨some 26, .move (.tmp 1), _, _, _, none⟩) (v := bv) rfl (by decide +kernel) (by decide +kernel) (by decide +kernel) (fun _ _ _ h => h) (.inl ⟨rfl, fun X hX => rfl⟩) hH ?_
      try simp only [Act.put, List.setIfInBounds_toArray, List.set_cons_succ, List.set_cons_zero]
      refine wpAnyH_take (i := 3) (oi := ⟨some 27, .move (.tmp 7), _, _, _, none⟩) (v := (.int .i64 (a0 : Nat))) rfl (by decide +kernel) (by decide +kernel) (by decide +kernel) (fun _ _ _ h => h) (.inl ⟨rfl, fun X hX => rfl⟩) hH ?_
      try simp only [Act.put, List.setIfInBounds_toArray, List.set_cons_succ, List.set_cons_zero]
      refine wpAnyH_take (i := 4) (oi := ⟨some 28, .slice 22 (.tmp 26) (some (.tmp 27)) none none, _, _, _, none⟩) (v := bv2) rfl (by decide +kernel) (by decide +kernel) (by decide +kernel) (fun _ _ _ h => h) (.inl ⟨rfl, fun X hX => by have e := hcut; go_simp⟩) hH ?_
      try simp only [Act.put, List.setIfInBounds_toArray, List.set_cons_succ, List.set_cons_zero]
      refine wpAnyH_take (i := 5) (oi := ⟨some 29, .move (.tmp 0), _, _, _, none⟩) (v := v) rfl (by decide +kernel) (by decide +kernel) (by decide +kernel) (fun _ _ _ h => h) (.inl ⟨rfl, fun X hX => rfl⟩) hH ?_
      try simp only [Act.put, List.setIfInBounds_toArray, List.set_cons_succ, List.set_cons_zero]
      refine wpAnyH_take (i := 6) (oi := ⟨some 30, .call { callee := .builtin .len, args := #[.tmp 29], argTypes := #[24] }, _, _, _, none⟩) (v := (.int .i64 (n : Nat))) rfl (by decide +kernel) (by decide +kernel) (by decide +kernel) (fun _ _ _ h => h) (.inl ⟨rfl, fun X hX => by have e := hll; go_simp⟩) hH ?_
      try simp only [Act.put, List.setIfInBounds_toArray, List.set_cons_succ, List.set_cons_zero]
      refine wpAnyH_ready (rs := [7]) (by decide +kernel) (by simp) (AllReadyH.cons (o := ⟨some 31, .call { callee := .value (.func 52), args := #[.tmp 25, .tmp 28, .tmp 30], argTypes := #[93, 22, 3] }, _, _, _, none⟩) rfl (fun K hK => ?_) AllReadyH.nil)
      go_simp
      go_at_call 52
      refine (takeColumn_any hbq (by omega) hT).mono ?_
      rintro e' w5 ⟨v5, rfl, hown5, hb5⟩
      obtain ⟨A5, c5, hv5, _⟩ := hown5.row
      obtain ⟨m5, hm5⟩ : ∃ m, (ints c).length = m := ⟨_, rfl⟩
      rw [hm5] at hv5
      subst hv5
      have q5 : w5.cell? ⟨q, 0, none⟩ = some (.int .i64 (formN i)) := (hb5.cell (p := ⟨q, 0, none⟩) hql).trans q0
      refine hK.out _ _ q5 (fun hH5 => ?_)
      clear hK K
      try simp only [Act.put, List.setIfInBounds_toArray, List.set_cons_succ, List.set_cons_zero]
      refine wpAnyH_take (i := 8) (oi := ⟨some 23, .move (.tmp 31), _, _, _, none⟩) (v := (.tuple #[(.slice A5 m5 c5), .int .i64 (a : Nat), .int .i64 (e5 : Nat)])) rfl (by decide +kernel) (by decide +kernel) (by decide +kernel) (fun _ _ _ h => h) (.inl ⟨rfl, fun X hX => rfl⟩) hH5 ?_
      try simp only [Act.put, List.setIfInBounds_toArray, List.set_cons_succ, List.set_cons_zero]
      refine wpAnyH_take (i := 9) (oi := ⟨some 32, .extract (.tmp 23) 0, _, _, _, none⟩) (v := (.slice A5 m5 c5)) rfl (by decide +kernel) (by decide +kernel) (by decide +kernel) (fun _ _ _ h => h) (.inl ⟨rfl, fun X hX => by go_simp⟩) hH5 ?_
      try simp only [Act.put, List.setIfInBounds_toArray, List.set_cons_succ, List.set_cons_zero]
      refine wpAnyH_take (i := 10) (oi := ⟨some 33, .extract (.tmp 23) 1, _, _, _, none⟩) (v := (.int .i64 (a : Nat))) rfl (by decide +kernel) (by decide +kernel) (by decide +kernel) (fun _ _ _ h => h) (.inl ⟨rfl, fun X hX => by go_simp⟩) hH5 ?_
      try simp only [Act.put, List.setIfInBounds_toArray, List.set_cons_succ, List.set_cons_zero]
      refine wpAnyH_take (i := 11) (oi := ⟨some 34, .extract (.tmp 23) 2, _, _, _, none⟩) (v := (.int .i64 (e5 : Nat))) rfl (by decide +kernel) (by decide +kernel) (by decide +kernel) (fun _ _ _ h => h) (.inl ⟨rfl, fun X hX => by go_simp⟩) hH5 ?_
      try simp only [Act.put, List.setIfInBounds_toArray, List.set_cons_succ, List.set_cons_zero]
      refine wpAnyH_take (i := 12) (oi := ⟨some 10, .assign (.tmp 32), _, _, _, none⟩) (v := (.slice A5 m5 c5)) rfl (by decide +kernel) (by decide +kernel) (by decide +kernel) (fun _ _ _ h => h) (.inl ⟨rfl, fun X hX => rfl⟩) hH5 ?_
      try simp only [Act.put, List.setIfInBounds_toArray, List.set_cons_succ, List.set_cons_zero]
      refine wpAnyH_take (i := 13) (oi := ⟨some 11, .assign (.tmp 33), _, _, _, none⟩) (v := (.int .i64 (a : Nat))) rfl (by decide +kernel) (by decide +kernel) (by decide +kernel) (fun _ _ _ h => h) (.inl ⟨rfl, fun X hX => rfl⟩) hH5 ?_
      try simp only [Act.put, List.setIfInBounds_toArray, List.set_cons_succ, List.set_cons_zero]
      refine wpAnyH_take (i := 14) (oi := ⟨some 12, .assign (.tmp 34), _, _, _, none⟩) (v := (.int .i64 (e5 : Nat))) rfl (by decide +kernel) (by decide +kernel) (by decide +kernel) (fun _ _ _ h => h) (.inl ⟨rfl, fun X hX => rfl⟩) hH5 ?_
      try simp only [Act.put, List.setIfInBounds_toArray, List.set_cons_succ, List.set_cons_zero]
      refine wpAnyH_done (by decide +kernel) ?_ _
      have hb5' : Below wq.heap.size wq w5 := (below_drewN (Below.refl _ wq) 1).trans hb5
      have hC5 := Lib.hid (hCX.out.up hb5')
      have hTl := hT.len.1
      have hsum : (a0 : Int) + (a : Int) ≤ 9223372036854775807 := by rw [List.length_drop] at hTl; omega
      rcases hT with ⟨hcol, ha, he⟩ | ⟨hno, hc0, ha, he⟩
      · obtain rfl : e5 = 0 := he
        have c0 : w5.cell? ⟨cp, 0, none⟩ = some (.slice (some ⟨gc, 0, none⟩) 21 cap) := cell_held hC5.out.cpb rfl
        have t0 : w5.cell? ⟨gc, i * 2 + 1, none⟩ = some (.slice none 0 0) := by
          have := cell_held hC5.out.gcb (hC5.out.val i hlt).2
          rwa [if_neg (Nat.lt_irrefl i)] at this
        have tf : w5.frozen? ⟨gc, i * 2 + 1, none⟩ = false := frozen_of_row _ _ _ _ _ hC5.out.gcb
        have hC6 : Hid (TkC w (w5.setCell ⟨gc, i * 2 + 1, none⟩ (.slice A5 m5 c5)) w.heap.size gc cp cap n (i + 1) _ _ _) := Lib.hid (hC5.out.more hlt (v := .slice A5 m5 c5) (c := c) (hown5.lower hbelq.size) (fun e => by
            have h1 := (OwnRow.blk hown5 _ e).1
            have h2 := (Array.getElem?_eq_some_iff.1 hCX.out.gcb).1
            have h3 : wq.drew.heap.size = wq.heap.size := rfl
            omega) (fun e => by
            have h1 := (OwnRow.blk hown5 _ e).1
            have h2 := (Array.getElem?_eq_some_iff.1 hCX.out.cpb).1
            have h3 : wq.drew.heap.size = wq.heap.size := rfl
            omega) hcol.1 hcol.2.1)
        have hcong : prefB (fun k => if k = i then c else L k) (i + 1) = prefB L i ++ colBy i c := by
          rw [prefB, prefB_congr (L' := L) (fun j hj => by rw [if_neg (by omega)]), if_pos rfl]
        have hcong := Lib.hid hcong
        have hcol := Lib.hid hcol
        have ha := Lib.hid ha
        go_wp2_with fail
        refine ⟨⟨i + 1, a0 + a, _, _, fun k => if k = i then c else L k, by go_num, by go_num, hlt, Lib.hid ?_, Lib.hid ?_, Lib.hid ?_, hC6⟩, by simp [intOf]; omega⟩
        · rw [hcong.out, List.length_append, ← ha0.out, ← ha.out]
        · rw [hcong.out]
          refine pre_join hpre.out ?_
          rw [← ha0.out]
          exact hcol.out.2.2
        · intro L' h' j hj
          show L' j = if j = i then c else L j
          by_cases e : j = i
          · subst e
            rw [if_pos rfl]
            have := h'.col hlt (huni.out L' h')
            rw [← ha0.out] at this
            exact this.unique hcol.out
          · rw [if_neg e]
            exact huni.out L' h' j (by omega)
      · obtain rfl : e5 = 41 := he
        have hno := Lib.hid hno
        go_wp2_with (go_at_call 26; refine (not_any 41 _).mono ?_; rintro e w6 ⟨rfl, rfl⟩)
        refine bodyPost_ret (results_tmp2 rfl _ _ _) rfl ⟨(Turns.of_below hC5.out.bel : Turns [g] w _), .inr ⟨fun L' h' => ?_, 41, rfl⟩⟩
        have := h'.col hlt (huni.out L' h')
        rw [← ha0.out] at this
        exact hno.out _ this
    · have hi4 : ¬ (i : Int) < 21 := by omega
      have hi21 : i = 21 := by omega
      rw [hi21] at ha0 hpre huni hC
      clear hi21 hlt hi
      obtain ⟨wa, hwa⟩ : ∃ wa, wa = wr := ⟨_, rfl⟩
      subst hwa
      have hixo : ∀ (j : Nat), j < n → ∀ X, (Instr.indexAt 24 v (.int .i64 (j : Int))).run Tryz.prog X = .ok (.pointer (some ⟨g, j * 26, none⟩)) X := fun j hj X => by
        rw [← hv.out]
        have he : Tryz.prog.elem 24 = 42 := by kernel_rfl
        rw [run_indexAt_slice (P := Tryz.prog) X _ _ n cap0 .i64 (j : Int) (by kernel_rfl), if_pos (by omega), he, elemO.hs]
        simp [Result.andThen, addr_at]
      have hixo := Lib.hid hixo
      have hlenb : (a0 : Int) ≤ 9223372036854775807 := by have := hpre.out.length_le; rw [← ha0.out] at this; omega
      have hFa : Hid (Fld wa g n D0) := Lib.hid (hF.out.turns (F := []) (Turns.of_below ((hC.out.bel).mono (Nat.le_refl _))) (by simp))
      go_wp2
      go_loopw [50] (fun t wx => ∃ (i : Nat) (D : Nat → OpV), t = .int .i64 i ∧ i ≤ n ∧ Hid (Fld wx g n D) ∧ Hid (∀ t, t < i → ∀ j, j < 21 → (L j)[t]? = some (fld (D t) j)) ∧ Hid (∀ t, (∀ c, truV (D t) c = truV (D0 t) c) ∧ ∀ c, c < 3 → txt (D t) c = txt (D0 t) c) ∧ Hid (Turns [g] wa wx)) (fun t _ => n - (intOf t).toNat)
      case atStart => exact ⟨0, D0, rfl, Nat.zero_le _, hFa, Lib.hid (fun t ht => absurd ht (Nat.not_lt_zero t)), Lib.hid (fun t => ⟨fun _ => rfl, fun _ _ => rfl⟩), Lib.hid (Turns.refl _ _)⟩
      case round =>
        obtain ⟨i, D, rfl, hi, hFD, hnum, hsame, hT⟩ := hrel
        by_cases hin : i < n
        · have hin4 : (i : Int) < (n : Int) := by omega
          obtain ⟨wx, hwx⟩ : ∃ wx, wx = wr := ⟨_, rfl⟩
          subst hwx
          have hix := hixo.out i hin
          obtain ⟨W3, hW3⟩ : ∃ W3, (wx.alloc (.cells #[.int .i64 (i : Int)] 3)).alloc (.cells #[.int .i64 0] 3) = W3 := ⟨_, rfl⟩
          have hb3 : Below wx.heap.size wx W3 := by rw [← hW3]; exact below_alloc2 _ _ _
          have hs3 : W3.heap.size = wx.heap.size + 2 := by rw [← hW3]; simp
          have hip3 : W3.heap[wx.heap.size]? = some (.cells #[.int .i64 (i : Nat)] 3) := by rw [← hW3]; exact held_alloc (Go.heap_alloc_new wx _) _
          have hap3 : W3.heap[wx.heap.size + 1]? = some (.cells #[.int .i64 ((0 : Nat) : Int)] 3) := by
            rw [← hW3]
            have := Go.heap_alloc_new (wx.alloc (.cells #[.int .i64 (i : Int)] 3)) (.cells #[.int .i64 0] 3)
            rwa [World.size_alloc] at this
          have i0 : W3.cell? ⟨wx.heap.size, 0, none⟩ = some (.int .i64 (i : Int)) := cell_held hip3 rfl
          have hsz := hT.out.size
          have hcl : cp < wa.heap.size := (Array.getElem?_eq_some_iff.1 hC.out.cpb).1
          have hgcl : gc < wa.heap.size := (Array.getElem?_eq_some_iff.1 hC.out.gcb).1
          have hbc := hC.out.bcp
          have hbg := hC.out.bgc
          have hT3 : Turns [] wx W3 := Turns.of_below hb3
          have hcp3 := held_turns (held_turns hC.out.cpb hT.out (by simp; omega)) hT3 (by simp)
          have hgc3 := held_turns (held_turns hC.out.gcb hT.out (by simp; omega)) hT3 (by simp)
          have hH := takeHands (W1 := W3) (g := g) (n := n) (D0 := D) (x := fun k => (L k).getD i 0) (ap := wx.heap.size + 1) (L := L) hin hcp3 hip3 hgc3 (fun k hk => by rw [(hC.out.val k hk).2, if_pos hk]) (fun k hk => by
            obtain ⟨r1, r2, r3⟩ := hC.out.row k hk
            have hbk := r1.blk
            have hbel := hC.out.bel.size
            refine ⟨(RowAt.turns r1.row hT.out (fun b hb => by have := (hbk b hb).1; simp; omega)).below hb3, ?_, fun e => ?_, fun e => ?_⟩
            · have hl := (hC.out.len k hk).1
              rw [List.getD, List.getElem?_eq_getElem (by omega)]; rfl
            · have := (hbk _ e).1; omega
            · have := (hbk _ e).2; omega) ⟨by omega, by omega, by omega, by omega, by omega, by omega, by omega⟩
          have hI0 : TakeI W3 g n (wx.heap.size + 1) i D (fun k => (L k).getD i 0) [] 0 W3 D :=
            ⟨hFD.out.turns hT3 (by simp), fun _ _ => rfl, fun j _ => by rw [if_neg (Nat.not_lt_zero j)], fun _ => rfl, fun _ _ => rfl, hap3, by simp, Turns.refl _ _⟩
          have hH := Lib.hid hH
          have hI0 := Lib.hid hI0
          clear hip3 hap3 hcp3 hgc3 hcl hgcl i0
          replace hW3 := Lib.hid hW3
          go_wp2_with (first
            | (go_at_call 44; rw [hW3.out]; refine (numbers_take hH.out [] _ ⟨_, hI0.out⟩).mono ?_; rintro e w4 ⟨rfl, y, D', hI⟩))
          refine ⟨⟨i + 1, D', by go_num, hin, Lib.hid hI.all, Lib.hid fun t ht j hj => ?_, Lib.hid fun t => ?_, Lib.hid ?_⟩, by simp [intOf]; omega⟩
          · by_cases e : t = i
            · subst e
              have h1 := hI.num j hj
              rw [if_pos hj] at h1
              rw [h1]
              have hl := (hC.out.len j hj).1
              rw [List.getD, List.getElem?_eq_getElem (by omega)]; rfl
            · rw [hI.same t e]
              exact hnum.out t (by omega) j hj
          · by_cases e : t = i
            · subst e
              exact ⟨fun c => (hI.tru c).trans ((hsame.out t).1 c), fun c hc => (hI.tex c hc).trans ((hsame.out t).2 c hc)⟩
            · rw [hI.same t e]
              exact hsame.out t
          · refine (hT.out.trans hT3 (by simp)).trans hI.turns (fun b hb => ?_)
            simp at hb
            rcases hb with rfl | rfl
            · exact .inl (by simp)
            · exact .inr (by omega)
        · obtain rfl : i = n := by omega
          go_wp2
          refine bodyPost_ret (results_tmp2 rfl _ _ _) rfl ⟨(Turns.of_below hC.out.bel : Turns [g] w _).trans hT.out (by simp), .inl ⟨L, D, ⟨fun k hk => hC.out.len k hk, hpre.out⟩, by rw [← ha0.out]; rfl, hFD.out, hnum.out, hsame.out⟩⟩
end Go.Proofs.YthpgfnhecfgiaaaGreatDoor
