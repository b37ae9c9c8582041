/-
  Bytes as operations: the program's Decode, whole.
-/
import Derived.Test.YthpgfnhecfgiaaaGreatDoorBaHit
import Derived.Test.YthpgfnhecfgiaaaGreatDoorBaTkx
import Derived.Test.YthpgfnhecfgiaaaGreatDoorBaEnc
namespace Go.Proofs.YthpgfnhecfgiaaaGreatDoor
open Go.RowKit Go.Sort
set_option maxRecDepth 20000

/-- A batch of these operations. -/
def IsBatch (b : List Nat) (l : List OpV) : Prop := l.length ≤ 200 ∧ allB_ l = true ∧ b = batchB l

theorem prefB_numB (l : List OpV) : ∀ k, prefB (colL l) k = numB l k
  | 0 => rfl
  | k + 1 => by rw [prefB, numB, prefB_numB l k]; rfl
theorem truPre_truB (l : List OpV) : ∀ k, truPre (truL l) k = truB l k
  | 0 => rfl
  | k + 1 => by rw [truPre, truB, truPre_truB l k]
def texL (l : List OpV) (c : Nat) : List ByteArray := l.map fun o => txt o c
theorem lens_texL (l : List OpV) (c : Nat) : lensS (texL l c) = lenL l c := by simp [lensS, texL, lenL, List.map_map]
theorem allS_texL (l : List OpV) (c : Nat) : allS (texL l c) = allT l c := by
  induction l with
  | nil => rfl
  | cons o r ih => simp only [texL, List.map_cons, allS, allT] at ih ⊢; rw [ih]
theorem texPre_texB (l : List OpV) : ∀ k, texPre (texL l) k = texB l k
  | 0 => rfl
  | k + 1 => by rw [texPre, texB, texPre_texB l k, texCol, lens_texL, allS_texL]

/-- What all takers together leave: the operations whose columns they are. -/
structure Whole (b : List Nat) (n : Nat) (L : Nat → List Int) (T : Nat → List Bool) (S : Nat → List ByteArray) (l : List OpV) : Prop where
  len : l.length = n
  num : ∀ j, j < 21 → L j = colL l j
  tru : ∀ c, c < 2 → T c = truL l c
  tex : ∀ c, c < 3 → S c = texL l c

theorem eq_map {α : Type} {X : List α} {n : Nat} {D : Nat → OpV} {f : OpV → α} (hl : X.length = n) (h : ∀ t, t < n → X[t]? = some (f (D t))) : X = ((List.range n).map D).map f := by
  apply List.ext_getElem?
  intro t
  rw [List.map_map, List.getElem?_map]
  rcases Nat.lt_or_ge t n with ht | ht
  · rw [h t ht, List.getElem?_range ht]; rfl
  · rw [List.getElem?_eq_none (by omega), List.getElem?_eq_none (by simpa using ht)]; rfl

theorem NumOf.of {b r : List Nat} {l : List OpV} (hr : ∀ o ∈ l, NumR o) (hb : numB l 21 ++ r = b) : NumOf b l.length (colL l) := by
  refine ⟨fun i hi => ⟨by simp [colL], colL_in hr hi⟩, ?_⟩
  rw [prefB_numB, ← hb]
  exact List.prefix_append _ _
theorem TruOf.of {b r : List Nat} {l : List OpV} (hb : truB l 2 ++ r = b) : TruOf b l.length (truL l) := by
  refine ⟨fun c _ => by simp [truL], ?_⟩
  rw [truPre_truB, ← hb]
  exact List.prefix_append _ _
theorem TexOf.of {b r : List Nat} {l : List OpV} (hb : texB l 3 ++ r = b) : TexOf b l.length (texL l) := by
  refine ⟨fun c _ => by simp [texL], ?_⟩
  rw [texPre_texB, ← hb]
  exact List.prefix_append _ _
theorem NumOf.unique {b : List Nat} {n : Nat} {L L' : Nat → List Int} (h : NumOf b n L) (h' : NumOf b n L') : ∀ i, i < 21 → L i = L' i := by
  have key : ∀ k, k ≤ 21 → ∀ i, i < k → L i = L' i := by
    intro k
    induction k with
    | zero => intro _ i hi; omega
    | succ k ih =>
      intro hk i hi
      rcases Nat.lt_or_ge i k with h1 | h1
      · exact ih (by omega) i h1
      · obtain rfl : i = k := by omega
        have e1 := h.col (i := i) (by omega) (L := L') (fun j hj => ih (by omega) j hj)
        have e2 := h'.col (i := i) (by omega) (L := L') (fun _ _ => rfl)
        exact e1.unique e2
  exact key 21 (Nat.le_refl _)
theorem TruOf.unique {b : List Nat} {n : Nat} {L L' : Nat → List Bool} (h : TruOf b n L) (h' : TruOf b n L') : ∀ i, i < 2 → L i = L' i := by
  have key : ∀ k, k ≤ 2 → ∀ i, i < k → L i = L' i := by
    intro k
    induction k with
    | zero => intro _ i hi; omega
    | succ k ih =>
      intro hk i hi
      rcases Nat.lt_or_ge i k with h1 | h1
      · exact ih (by omega) i h1
      · obtain rfl : i = k := by omega
        have e1 := h.col (i := i) (by omega) (L := L') (fun j hj => ih (by omega) j hj)
        have e2 := h'.col (i := i) (by omega) (L := L') (fun _ _ => rfl)
        exact TruthsOf.unique e1 e2
  exact key 2 (Nat.le_refl _)
theorem TexOf.unique {b : List Nat} {n : Nat} {L L' : Nat → List ByteArray} (h : TexOf b n L) (h' : TexOf b n L') (hb : (b.length : Int) ≤ 9223372036854775807) : ∀ i, i < 3 → L i = L' i := by
  have key : ∀ k, k ≤ 3 → ∀ i, i < k → L i = L' i := by
    intro k
    induction k with
    | zero => intro _ i hi; omega
    | succ k ih =>
      intro hk i hi
      rcases Nat.lt_or_ge i k with h1 | h1
      · exact ih (by omega) i h1
      · obtain rfl : i = k := by omega
        have e1 := h.col (i := i) (by omega) (L := L') (fun j hj => ih (by omega) j hj)
        have e2 := h'.col (i := i) (by omega) (L := L') (fun _ _ => rfl)
        have r1 := TexOf.runs (h.1 i (by omega)) e1 (by rw [List.length_drop]; omega)
        have r2 := TexOf.runs (h'.1 i (by omega)) e2 (by rw [List.length_drop]; omega)
        have e3 := r1.unique r2
        unfold texCol at e1 e2
        have p1 := pre_drop e1
        have p2 := pre_drop e2
        rw [e3] at p1
        exact texts_same e3 p1 p2
  exact key 3 (Nat.le_refl _)
theorem opC_of {o o' : OpV} (h1 : ∀ j, j < 21 → fld o j = fld o' j) (h2 : ∀ c, c < 2 → truV o c = truV o' c) (h3 : ∀ c, c < 3 → txt o c = txt o' c) : OpC o = OpC o' := by
  have n := fun j (hj : j < 21) => h1 j hj
  have e0 : o.n = o'.n := n 0 (by omega)
  have e1 : o.r = o'.r := n 1 (by omega)
  have d0 : o.deps 0 = o'.deps 0 := n 2 (by omega)
  have d1 : o.deps 1 = o'.deps 1 := n 3 (by omega)
  have d2 : o.deps 2 = o'.deps 2 := n 4 (by omega)
  have d3 : o.deps 3 = o'.deps 3 := n 5 (by omega)
  have d4 : o.deps 4 = o'.deps 4 := n 6 (by omega)
  have d5 : o.deps 5 = o'.deps 5 := n 7 (by omega)
  have d6 : o.deps 6 = o'.deps 6 := n 8 (by omega)
  have d7 : o.deps 7 = o'.deps 7 := n 9 (by omega)
  have e10 : o.kind = o'.kind := n 10 (by omega)
  have e11 : o.rn = o'.rn := n 11 (by omega)
  have e12 : o.rr = o'.rr := n 12 (by omega)
  have e13 : o.side = o'.side := n 13 (by omega)
  have e14 : o.ch = o'.ch := n 14 (by omega)
  have e15 : o.un = o'.un := n 15 (by omega)
  have e16 : o.ur = o'.ur := n 16 (by omega)
  have e17 : o.fn = o'.fn := n 17 (by omega)
  have e18 : o.fr = o'.fr := n 18 (by omega)
  have e19 : o.tn = o'.tn := n 19 (by omega)
  have e20 : o.tr = o'.tr := n 20 (by omega)
  have t0 : o.fa = o'.fa := h2 0 (by omega)
  have t1 : o.ta = o'.ta := h2 1 (by omega)
  have s0 : o.key = o'.key := h3 0 (by omega)
  have s1 : o.name = o'.name := h3 1 (by omega)
  have s2 : o.value = o'.value := h3 2 (by omega)
  unfold OpC
  rw [e0, e1, d0, d1, d2, d3, d4, d5, d6, d7, e10, e11, e12, e13, e14, e15, e16, e17, e18, e19, e20, t0, t1, s0, s1, s2]

theorem hasB_congr {d d' : Nat → Int} (h : ∀ i, i < 8 → d i = d' i) (n r : Int) : hasB d n r = hasB d' n r := by
  unfold hasB
  cases hr : replB r with
  | false => rfl
  | true =>
    unfold replB at hr
    have := of_decide_eq_true hr
    rw [h r.toNat (by omega)]
theorem depsB_congr {o o' : OpV} (h : ∀ i, i < 8 → o.deps i = o'.deps i) (hn : o.n = o'.n) : depsB o = depsB o' := by
  rw [Bool.eq_iff_iff, depsB_iff, depsB_iff, hn]
  constructor
  · intro h' i hi; rw [← h i hi]; exact h' i hi
  · intro h' i hi; rw [h i hi]; exact h' i hi
theorem opB_congr {o o' : OpV} (h : OpC o = OpC o') : opB o = opB o' := by
  obtain ⟨n, r, d, kind, rn, rr, side, ch, un, ur, key, name, value, fn, fr, fa, tn, tr, ta⟩ := o
  obtain ⟨n', r', d', kind', rn', rr', side', ch', un', ur', key', name', value', fn', fr', fa', tn', tr', ta'⟩ := o'
  simp [OpC] at h
  obtain ⟨rfl, rfl, h0, h1, h2, h3, h4, h5, h6, h7, rfl, rfl, rfl, rfl, rfl, rfl, rfl, rfl, rfl, rfl, rfl, rfl, rfl, rfl, rfl, rfl⟩ := h
  have hd : ∀ i, i < 8 → d i = d' i := fun i hi => by
    rcases (by omega : i = 0 ∨ i = 1 ∨ i = 2 ∨ i = 3 ∨ i = 4 ∨ i = 5 ∨ i = 6 ∨ i = 7) with rfl | rfl | rfl | rfl | rfl | rfl | rfl | rfl <;> assumption
  unfold opB
  have e1 : eqV d d = true := (eqV_iff d d).2 fun _ _ => rfl
  have e2 : eqV d' d' = true := (eqV_iff d' d').2 fun _ _ => rfl
  rw [depsB_congr (o := ⟨n, r, d, kind, rn, rr, side, ch, un, ur, key, name, value, fn, fr, fa, tn, tr, ta⟩) (o' := ⟨n, r, d', kind, rn, rr, side, ch, un, ur, key, name, value, fn, fr, fa, tn, tr, ta⟩) hd rfl]
  unfold namedB eqOp ownO
  simp only [e1, e2, hasB_congr hd]
  rfl
theorem allB_congr {l l' : List OpV} (h : l.map OpC = l'.map OpC) : allB_ l = allB_ l' := by
  unfold allB_
  induction l generalizing l' with
  | nil => cases l' with
    | nil => rfl
    | cons => simp at h
  | cons o r ih =>
    cases l' with
    | nil => simp at h
    | cons o' r' =>
      simp at h
      rw [List.all_cons, List.all_cons, opB_congr h.1, ih h.2]
/-- The same columns: the same operations. -/
theorem cols_same {l l' : List OpV} (hl : l.length = l'.length) (h1 : ∀ j, j < 21 → colL l j = colL l' j) (h2 : ∀ c, c < 2 → truL l c = truL l' c) (h3 : ∀ c, c < 3 → texL l c = texL l' c) : l.map OpC = l'.map OpC := by
  apply List.ext_getElem (by simpa using hl)
  intro i hi hi'
  simp only [List.length_map] at hi hi'
  simp only [List.getElem_map]
  refine opC_of (fun j hj => ?_) (fun c hc => ?_) (fun c hc => ?_)
  · have := congrArg (fun z => z[i]?) (h1 j hj)
    simpa [colL, List.getElem?_eq_getElem hi, List.getElem?_eq_getElem hi'] using this
  · have := congrArg (fun z => z[i]?) (h2 c hc)
    simpa [truL, List.getElem?_eq_getElem hi, List.getElem?_eq_getElem hi', truV] using this
  · have := congrArg (fun z => z[i]?) (h3 c hc)
    simpa [texL, List.getElem?_eq_getElem hi, List.getElem?_eq_getElem hi'] using this

/-- What take hands back: the operations, or an error that tells why not. -/
def TakePost (b : List Nat) (w : World) : Ending → World → Prop := fun e w' => Below w.heap.size w w' ∧
  ((∃ l v, IsBatch b l ∧ e = .returned (.tuple #[v, .nilIface]) ∧ OpsAt w' v l) ∨
   ((∀ l, ¬ IsBatch b l) ∧ ∃ k : Int, e = .returned (.tuple #[.slice none 0 0, .iface 49 (.agg #[.int .i64 k])])))

theorem run_make_ops (w : World) (n : Nat) (hn : n ≤ 200) : ∃ w', (Instr.makeSlice 24 (.int .u64 (n : Int)) (.int .u64 (n : Int))).run Tryz.prog w = .ok (.slice (some ⟨w.heap.size, 0, none⟩) n n) w' ∧
    Fld w' w.heap.size n (fun _ => zeroO) ∧ Below w.heap.size w w' := by
  obtain ⟨i0, hi0, hz0, hz1, hz2⟩ := info_parts elemO.hi
  obtain ⟨w', h1, h2, h3⟩ := run_make_full (P := Tryz.prog) w w.heap.size 24 42 i0 _ 26 elemO.ht hi0 hz0 hz1 .u64 .u64 n (by rw [hz2]; omega) (by unfold maxLen; omega) (Nat.le_refl _)
  refine ⟨w', h1, ?_, (Below.refl _ _).grown h3 (Nat.le_refl _) (fun k hk => by cases hk)⟩
  rcases h2.2 with ⟨h, _⟩ | ⟨g, cap, cur, he, hbg, hg, hnc, hcm, hsz, htk⟩
  · cases h
  · injection he with he _ hcap
    injection he with he
    injection he with he
    subst he hcap
    refine ⟨cur, hg, hsz, fun t ht j hj => ?_⟩
    have hm := congrArg (fun z => z[t * 26 + j]?) htk
    simp only [List.getElem?_take] at hm
    have hlt : t * 26 + j < n * 26 := by omega
    rw [if_pos hlt, Array.getElem?_toList] at hm
    rw [hm]
    have hmod : (t * 26 + j) % 26 = j := by omega
    simp only [madeCells, Array.toList_map, Array.toList_range, List.getElem?_map, List.getElem?_range hlt, Option.map_some, Value.cells]
    have hsz : (#[Value.int .i64 0, .int .i64 0, .int .i64 0, .int .i64 0, .int .i64 0, .int .i64 0, .int .i64 0, .int .i64 0, .int .i64 0, .int .i64 0, .int .i64 0, .int .i64 0, .int .i64 0, .int .i64 0, .int .i64 0, .int .i64 0, .int .i64 0, .string { data := #[] }, .string { data := #[] }, .string { data := #[] }, .int .i64 0, .int .i64 0, .bool false, .int .i64 0, .int .i64 0, .bool false] : Array Value) = OpC zeroO := rfl
    rw [hsz, OpC_size, hmod, getElem!_pos (OpC zeroO) j (by rw [OpC_size]; exact hj), Array.getElem?_eq_getElem (by rw [OpC_size]; exact hj)]

theorem BytesAt.tail {w : World} {v : Value} {l : List Nat} (h : BytesAt w v l) {k : Nat} (hk : k ≤ l.length) :
    ∃ v', (∀ W, (Instr.slice 22 v (some (.int .i64 (k : Int))) none none).run Tryz.prog W = .ok v' W) ∧ BytesAt w v' (l.drop k) ∧ ∀ q, v'.ownBlock = some q → v.ownBlock = some q := by
  have h0 := h
  obtain ⟨v', h1, h2⟩ := h.cut hk
  refine ⟨v', h1, h2, fun q hq => ?_⟩
  obtain ⟨A, c, rfl, h3, h4, h5, h6, h7⟩ := h0
  have he : Tryz.prog.elem 22 = 5 := by kernel_rfl
  have := h1 w
  rw [run_slice_l (P := Tryz.prog) w 22 A l.length c (by rw [he]; exact Tryz.underlying22) .i64 (k : Int) (by omega) (by omega), he, elemY.hs] at this
  simp only [Result.andThen, sliced, Int.toNat_natCast] at this
  injection this with this _
  subst this
  cases A with
  | none => split at hq <;> simp [Value.ownBlock] at hq
  | some ad =>
    split at hq
    · exact hq
    · obtain ⟨bk, off, sp⟩ := ad
      simp only [Value.ownBlock, Option.map_some, Addr.add] at hq ⊢
      split at hq <;> simpa using hq
theorem BytesAt.blk {w : World} {v : Value} {l : List Nat} (h : BytesAt w v l) (hp : 0 < l.length) : ∀ q, v.ownBlock = some q → q < w.heap.size := by
  obtain ⟨A, c, rfl, _, _, _, h5, _⟩ := h
  obtain ⟨b, off, rfl, hb, _⟩ := h5 hp
  intro q hq
  simp [Value.ownBlock] at hq
  omega
theorem IsBatch.parts {b : List Nat} {l : List OpV} {n : Nat} (h : IsBatch b l) (hp : putL n <+: b) : n = l.length ∧ b.drop (putL n).length = numB l 21 ++ (truB l 2 ++ texB l 3) := by
  obtain ⟨_, _, rfl⟩ := h
  obtain ⟨r, hr⟩ := hp
  unfold batchB at hr
  obtain ⟨rfl, h2⟩ := putL_free _ _ _ _ hr
  refine ⟨rfl, ?_⟩
  unfold batchB
  rw [List.drop_left]
theorem pre_eq {A b : List Nat} (h : A <+: b) : A ++ b.drop A.length = b := by
  obtain ⟨s, rfl⟩ := h
  rw [List.drop_left]
theorem allS_pre {S : Nat → List ByteArray} {c : Nat} (hc : c < 3) : (allS (S c)).length ≤ (texPre S 3).length := by
  have h := (texPre_up S (j := c + 1) (k := 3) (by omega)).length_le
  rw [texPre, List.length_append, texCol, List.length_append] at h
  omega
theorem fits_of {b : List Nat} {n : Nat} {S : Nat → List ByteArray} {l : List OpV} (hS : TexOf b n S) (hl : ∀ c, c < 3 → S c = texL l c) (hb : (b.length : Int) ≤ 9223372036854775807) : ∀ o ∈ l, o.Fits := by
  have key : ∀ c, c < 3 → ∀ o ∈ l, (txt o c).size ≤ 9223372036854775807 := fun c hc o ho => by
    have h1 : txt o c ∈ S c := by rw [hl c hc]; exact List.mem_map.2 ⟨o, ho, rfl⟩
    have h2 := allS_mem h1
    have h3 := allS_pre (S := S) hc
    have h4 := hS.2.length_le
    omega
  exact fun o ho => ⟨key 0 (by omega) o ho, key 1 (by omega) o ho, key 2 (by omega) o ho⟩
theorem IsBatch.nums {b : List Nat} {l : List OpV} (h : IsBatch b l) : ∀ o ∈ l, NumR o := fun o ho => opB_num (List.all_eq_true.1 h.2.1 o ho)

set_option maxHeartbeats 4000000 in
theorem take_batch (bv : Value) (b : List Nat) (w : World) (hbv : BytesAt w bv b) : Calls Tryz.prog 10 #[bv] w (TakePost b w) := by
  obtain ⟨n, k, e5, hT⟩ := taken_any b
  have hbv := Lib.hid hbv
  have HC : ∀ W, BytesAt W bv b → Calls Tryz.prog 25 #[bv] W fun e' w' => e' = .returned (.tuple #[.int .u64 n, .int .i64 k, .int .i64 e5]) ∧ W = w' := fun W h => take_at h hT
  have HC := Lib.hid HC
  rcases hT with ⟨h1, h2, h3, h4⟩ | ⟨h1, h2, h3, h4⟩
  · have hg5 : ((e5 : Int) != 0) = false := by rw [h4]; rfl
    replace h3 := Lib.hid h3
    clear h4
    rcases Nat.lt_or_ge 200 n with hbig | hsm
    · have hg1 : decide ((200 : Int) < (n : Int)) = true := decide_eq_true (by omega)
      go_enter Tryz.func10, Tryz.ntmps10
      go_wp2_with (first
        | (go_at_call 25; refine (HC.out _ hbv.out).mono ?_; rintro e w2 ⟨rfl, rfl⟩)
        | (go_at_call 26; refine (not_any 1 _).mono ?_; rintro e w6 ⟨rfl, rfl⟩))
      refine bodyPost_ret (results_tmp2 rfl _ _ _) rfl ⟨Below.refl _ _, .inr ⟨fun l hl => ?_, 1, rfl⟩⟩
      obtain ⟨q1, q2, q3⟩ := hl
      rw [q3] at h2
      unfold batchB at h2
      obtain ⟨r, hr⟩ := h2
      have := (putL_free _ _ _ _ hr).1
      omega
    · have hg1 : decide ((200 : Int) < (n : Int)) = false := decide_eq_false (by omega)
      have hkl : k ≤ b.length := by rw [h3.out]; exact h2.length_le
      obtain ⟨wm, hmk, hFm, hbm⟩ := run_make_ops w n hsm
      obtain ⟨bv2, hcut, hbv2, ho2⟩ := (hbv.out.below hbm).tail hkl
      have hmk := Lib.hid hmk
      obtain ⟨sl, hsl⟩ : ∃ sl, Value.slice (some ⟨w.heap.size, 0, none⟩) n n = sl := ⟨_, rfl⟩
      rw [hsl] at hmk
      replace hsl := Lib.hid hsl
      go_enter Tryz.func10, Tryz.ntmps10
      go_wp2_with (first
        | (go_at_call 25; refine (HC.out _ hbv.out).mono ?_; rintro e w2 ⟨rfl, rfl⟩)
        | (at_make; refine wpList_make_run rfl (.tmp 26) (.tmp 26) _ rfl rfl rfl hmk.out ?_))
      have hbpos : 0 < b.length := by have := h2.length_le; have := putL_pos n; omega
      have hob := hbv.out.blk hbpos
      have hpre0 := Lib.hid h2
      have hno0 : Hid (∀ l, IsBatch b l → n = l.length ∧ b.drop k = numB l 21 ++ (truB l 2 ++ texB l 3)) := Lib.hid (fun l hl => by rw [h3.out]; exact hl.parts h2)
      obtain ⟨g, hg⟩ : ∃ g, w.heap.size = g := ⟨_, rfl⟩
      have hbelA := hbm.alloc hbm.size (.cells #[(.func (.func 27) #[] #[]), (.func (.func 28) #[] #[]), (.func (.func 29) #[] #[])] 66)
      have hFA := Fld.turns (F := []) hFm (Turns.of_below (below_box1 wm (.cells #[(.func (.func 27) #[] #[]), (.func (.func 28) #[] #[]), (.func (.func 29) #[] #[])] 66))) (by simp)
      have hqA := Go.heap_alloc_new wm (.cells #[(.func (.func 27) #[] #[]), (.func (.func 28) #[] #[]), (.func (.func 29) #[] #[])] 66)
      have hbA := hbv2.below (below_box1 wm (.cells #[(.func (.func 27) #[] #[]), (.func (.func 28) #[] #[]), (.func (.func 29) #[] #[])] 66))
      obtain ⟨wA, hwA⟩ : ∃ wA, wm.alloc (.cells #[(.func (.func 27) #[] #[]), (.func (.func 28) #[] #[]), (.func (.func 29) #[] #[])] 66) = wA := ⟨_, rfl⟩
      obtain ⟨q, hq⟩ : ∃ q, wm.heap.size = q := ⟨_, rfl⟩
      have hgq : g < q := by rw [← hg, ← hq]; have := hFm.lt; omega
      rw [hwA] at hbelA hFA hqA hbA ⊢
      rw [hq] at hqA
      try rw [hq]
      rw [hg] at hFA hob hbelA hsl
      obtain ⟨b1, hb1⟩ : ∃ b1, b.drop k = b1 := ⟨_, rfl⟩
      rw [hb1] at hbA hno0
      have hog2 : ∀ x, bv2.ownBlock = some x → x ∉ [g] := fun x hx => by have := hob x (ho2 x hx); simp; omega
      have f0 : wA.cell? ⟨q, 0, none⟩ = some (.func (.func 27) #[] #[]) := cell_held hqA rfl
      clear hwA hq hmk hFm hbm hbv2 hkl hpre0
      have HN : Calls Tryz.prog 27 #[sl, bv2] wA (NumPost b1 n g (fun _ => zeroO) wA) := by
        rw [← hsl.out]; exact takeNumbers_any wA hFA hbA hsm (Nat.le_refl _) (by unfold maxLen; omega)
      have hgA : g < wA.heap.size := hFA.lt
      have hqAl : q < wA.heap.size := (Array.getElem?_eq_some_iff.1 hqA).1
      have HN := Lib.hid HN
      have hqA := Lib.hid hqA
      have hbelA := Lib.hid hbelA
      have hbA := Lib.hid hbA
      have hb1 := Lib.hid hb1
      clear hFA
      refine wp_loop_rounds 4 ?_
      rw [rounds_succ]
      go_wp2_with fail
      refine HN.out.mono ?_
      rintro e w1 ⟨hT1, h⟩
      have hbel1 : Below g w w1 := hbelA.out.trans (hT1.below (by omega) (fun x hx => by simp at hx; omega))
      rcases h with ⟨L, D1, hL, rfl, hF1, hn1, hs1⟩ | ⟨hno, kk, rfl⟩
      · have hbw1 := hbA.out.turns hT1 hog2
        obtain ⟨bv3, hcut3, hbv3, ho3⟩ := hbw1.tail (k := (prefB L 21).length) hL.2.length_le
        have hq1 := held_turns hqA.out hT1 (by simp; omega)
        have f1 : w1.cell? ⟨q, 1, none⟩ = some (.func (.func 28) #[] #[]) := cell_held hq1 rfl
        obtain ⟨b2, hb2⟩ : ∃ b2, b1.drop (prefB L 21).length = b2 := ⟨_, rfl⟩
        rw [hb2] at hbv3
        have hno1 : Hid (∀ l, IsBatch b l → n = l.length ∧ (∀ j, j < 21 → L j = colL l j) ∧ b2 = truB l 2 ++ texB l 3) := Lib.hid (fun l hl => by
          obtain ⟨e1, e2⟩ := hno0.out l hl
          have hu := hL.unique (by rw [e1]; exact NumOf.of hl.nums e2.symm : NumOf b1 n (colL l))
          refine ⟨e1, hu, ?_⟩
          rw [← hb2, prefB_congr hu, prefB_numB, e2, List.drop_left])
        have hog3 : ∀ x, bv3.ownBlock = some x → x ∉ [g] := fun x hx => hog2 x (ho3 x hx)
        have HN2 : Calls Tryz.prog 28 #[sl, bv3] w1 (TruPost b2 n g D1 w1) := by
          rw [← hsl.out]; exact takeTruths_any w1 hF1 hbv3 hog3 hsm (Nat.le_refl _) (by unfold maxLen; omega)
        have hq1 := Lib.hid hq1
        have hbel1 := Lib.hid hbel1
        have hbv3 := Lib.hid hbv3
        replace hb2 := Lib.hid hb2
        have hL := Lib.hid hL
        have hn1 := Lib.hid hn1
        have hs1 := Lib.hid hs1
        have hgl1 : g < w1.heap.size := hF1.lt
        clear hF1 hbw1 hT1
        go_wp2
        rw [rounds_succ]
        go_wp2_with fail
        refine HN2.mono ?_
        rintro e w2 ⟨hT2, h⟩
        have hbel2 : Below g w w2 := hbel1.out.trans (hT2.below (by omega) (fun x hx => by simp at hx; omega))
        rcases h with ⟨T, D2, hTr, rfl, hF2, hn2, hs2⟩ | ⟨hno, kk, rfl⟩
        · have hbw2 := hbv3.out.turns hT2 hog3
          obtain ⟨bv4, hcut4, hbv4, ho4⟩ := hbw2.tail (k := (truPre T 2).length) hTr.2.length_le
          have hq2 := held_turns hq1.out hT2 (by simp; omega)
          have f2 : w2.cell? ⟨q, 2, none⟩ = some (.func (.func 29) #[] #[]) := cell_held hq2 rfl
          obtain ⟨b3, hb3⟩ : ∃ b3, b2.drop (truPre T 2).length = b3 := ⟨_, rfl⟩
          rw [hb3] at hbv4
          have hno2 : Hid (∀ l, IsBatch b l → n = l.length ∧ (∀ j, j < 21 → L j = colL l j) ∧ (∀ c, c < 2 → T c = truL l c) ∧ b3 = texB l 3) := Lib.hid (fun l hl => by
            obtain ⟨e1, e2, e3⟩ := hno1.out l hl
            have hu := hTr.unique (by rw [e1]; exact TruOf.of e3.symm : TruOf b2 n (truL l))
            refine ⟨e1, e2, hu, ?_⟩
            rw [← hb3, truPre_congr hu, truPre_truB, e3, List.drop_left])
          have hog4 : ∀ x, bv4.ownBlock = some x → x ∉ [g] := fun x hx => hog3 x (ho4 x hx)
          have HN3 : Calls Tryz.prog 29 #[sl, bv4] w2 (TexPost b3 n g D2 w2) := by
            rw [← hsl.out]; exact takeTexts_any w2 hF2 hbv4 hog4 hsm (Nat.le_refl _) (by unfold maxLen; omega)
          have hbel2 := Lib.hid hbel2
          have hbv4 := Lib.hid hbv4
          replace hb3 := Lib.hid hb3
          have hTr := Lib.hid hTr
          have hn2 := Lib.hid hn2
          have hs2 := Lib.hid hs2
          have hgl2 : g < w2.heap.size := hF2.lt
          clear hF2 hbw2 hT2 hq2
          go_wp2
          rw [rounds_succ]
          go_wp2_with fail
          refine HN3.mono ?_
          rintro e w3 ⟨hT3, h⟩
          have hbel3 : Below g w w3 := hbel2.out.trans (hT3.below (by omega) (fun x hx => by simp at hx; omega))
          rcases h with ⟨S, D3, hS, rfl, hF3, hn3, hs3⟩ | ⟨hno, kk, rfl⟩
          · have hbw3 := hbv4.out.turns hT3 hog4
            obtain ⟨bv5, hcut5, hbv5, ho5⟩ := hbw3.tail (k := (texPre S 3).length) hS.2.length_le
            have hb3l := Lib.hid (show (b3.length : Int) ≤ 9223372036854775807 by have := hbv4.out.row.le; rwa [bvals_length] at this)
            obtain ⟨b4, hb4⟩ : ∃ b4, b3.drop (texPre S 3).length = b4 := ⟨_, rfl⟩
            rw [hb4] at hbv5
            have hl5 := fun W => hbv5.len (ty := 3) W
            have hops : Hid (OpsAt w3 sl ((List.range n).map D3)) := Lib.hid (by rw [← hsl.out]; exact hF3.ops (Nat.le_refl _) (by unfold maxLen; omega))
            obtain ⟨l, hl⟩ : ∃ l, (List.range n).map D3 = l := ⟨_, rfl⟩
            have hlen : Hid (l.length = n) := Lib.hid (by rw [← hl]; simp)
            have hcL : Hid (∀ j, j < 21 → L j = colL l j) := Lib.hid (fun j hj => by
              rw [← hl]
              exact eq_map (f := fun o => fld o j) (hL.out.1 j hj).1 (fun t ht => by rw [hn1.out t ht j hj, ← (hs2.out t).1 j hj, ← (hs3 t).1 j hj]))
            have hcT : Hid (∀ c, c < 2 → T c = truL l c) := Lib.hid (fun c hc => by
              rw [← hl]
              exact eq_map (f := fun o => if c = 0 then o.fa else o.ta) (hTr.out.1 c hc) (fun t ht => by rw [hn2.out c hc t ht, ← (hs3 t).2 c]; rfl))
            have hcS : Hid (∀ c, c < 3 → S c = texL l c) := Lib.hid (fun c hc => by
              rw [← hl]
              exact eq_map (f := fun o => txt o c) (hS.1 c hc) (fun t ht => hn3 c hc t ht))
            rw [hl] at hops
            have hno3 : Hid (∀ l', IsBatch b l' → l.map OpC = l'.map OpC ∧ b4 = []) := Lib.hid (fun l' hl' => by
              obtain ⟨e1, e2, e3, e4⟩ := hno2.out l' hl'
              have hu := hS.unique (by rw [e1]; exact TexOf.of (r := []) (by rw [List.append_nil]; exact e4.symm) : TexOf b3 n (texL l')) hb3l.out
              refine ⟨cols_same (by rw [hlen.out]; exact e1) (fun j hj => by rw [← hcL.out j hj]; exact e2 j hj) (fun c hc => by rw [← hcT.out c hc]; exact e3 c hc) (fun c hc => by rw [← hcS.out c hc]; exact hu c hc), ?_⟩
              rw [← hb4, texPre_congr hu, texPre_texB, e4, List.drop_length])
            have hfit := Lib.hid (fits_of hS hcS.out hb3l.out)
            have hS := Lib.hid hS
            replace hb4 := Lib.hid hb4
            have hbel3 := Lib.hid hbel3
            clear hF3 hbw3 hT3 hn3 hs3 hl hbv5
            obtain ⟨m4, hm4⟩ : ∃ m4, b4.length = m4 := ⟨_, rfl⟩
            rw [hm4] at hl5
            replace hm4 := Lib.hid hm4
            rcases Nat.eq_zero_or_pos m4 with h0 | hpos
            · have hg2 : decide ((0 : Int) < (m4 : Int)) = false := decide_eq_false (by omega)
              have hg3 : decide (0 < m4) = false := decide_eq_false (by omega)
              have h40 : Hid (b4 = []) := Lib.hid (List.eq_nil_of_length_eq_zero (by rw [hm4.out]; exact h0))
              replace h0 := Lib.hid h0
              cases hq : allB_ l with
              | false =>
                have HA : ∀ W, OpsAt W sl l → Calls Tryz.prog 20 #[sl] W (Ret (.bool false) W) := fun W h => by rw [← hq]; exact allRight_any sl l W h hfit.out
                have hq := Lib.hid hq
                go_wp2
                rw [rounds_succ]
                go_wp2_with (first
                  | (go_at_call 20; refine (HA _ hops.out).mono ?_; rintro e w4 ⟨rfl, hb4'⟩)
                  | (go_at_call 26; refine (not_any 71 _).mono ?_; rintro e w6 ⟨rfl, rfl⟩))
                refine bodyPost_ret (results_tmp2 rfl _ _ _) rfl ⟨by rw [hg]; exact hbel3.out.trans (hb4'.mono (by have := hbel3.out.size; omega)), .inr ⟨fun l' hl' => ?_, 71, rfl⟩⟩
                have := allB_congr (hno3.out l' hl').1
                rw [hq.out, hl'.2.1] at this
                cases this
              | true =>
                have HA : ∀ W, OpsAt W sl l → Calls Tryz.prog 20 #[sl] W (Ret (.bool true) W) := fun W h => by rw [← hq]; exact allRight_any sl l W h hfit.out
                have hq := Lib.hid hq
                go_wp2
                rw [rounds_succ]
                go_wp2_with (go_at_call 20; refine (HA _ hops.out).mono ?_; rintro e w4 ⟨rfl, hb4'⟩)
                refine bodyPost_ret (results_tmp2 rfl _ _ _) rfl ⟨by rw [hg]; exact hbel3.out.trans (hb4'.mono (by have := hbel3.out.size; omega)), .inl ⟨l, sl, ⟨by rw [hlen.out]; exact hsm, hq.out, ?_⟩, rfl, hops.out.below hb4'⟩⟩
                have p0 := pre_eq h2
                have p1 := pre_eq hL.out.2
                have p2 := pre_eq hTr.out.2
                have p3 := pre_eq hS.out.2
                rw [← h3.out, hb1.out] at p0
                rw [hb2.out, prefB_congr hcL.out, prefB_numB] at p1
                rw [hb3.out, truPre_congr hcT.out, truPre_truB] at p2
                rw [hb4.out, h40.out, texPre_congr hcS.out, texPre_texB, List.append_nil] at p3
                unfold batchB
                rw [hlen.out, p3, p2, p1, p0]
            · have hg2 : decide ((0 : Int) < (m4 : Int)) = true := decide_eq_true (by omega)
              have hg3 : decide (0 < m4) = true := decide_eq_true hpos
              replace hpos := Lib.hid hpos
              go_wp2
              rw [rounds_succ]
              go_wp2_with (go_at_call 26; refine (not_any 1 _).mono ?_; rintro e w6 ⟨rfl, rfl⟩)
              refine bodyPost_ret (results_tmp2 rfl _ _ _) rfl ⟨by rw [hg]; exact hbel3.out, .inr ⟨fun l' hl' => ?_, 1, rfl⟩⟩
              have h1 := (hno3.out l' hl').2
              have h2 := hpos.out
              have h3 := hm4.out
              rw [h1] at h3
              simp at h3
              omega
          · go_wp2
            refine bodyPost_ret (results_tmp2 rfl _ _ _) rfl ⟨by rw [hg]; exact hbel3, .inr ⟨fun l hl => ?_, kk, rfl⟩⟩
            obtain ⟨e1, _, _, e3⟩ := hno2.out l hl
            exact hno (texL l) (by rw [e1]; exact TexOf.of (r := []) (by rw [List.append_nil]; exact e3.symm))
        · go_wp2
          refine bodyPost_ret (results_tmp2 rfl _ _ _) rfl ⟨by rw [hg]; exact hbel2, .inr ⟨fun l hl => ?_, kk, rfl⟩⟩
          obtain ⟨e1, _, e3⟩ := hno1.out l hl
          exact hno (truL l) (by rw [e1]; exact TruOf.of e3.symm)
      · go_wp2
        refine bodyPost_ret (results_tmp2 rfl _ _ _) rfl ⟨by rw [hg]; exact hbel1, .inr ⟨fun l hl => ?_, kk, rfl⟩⟩
        obtain ⟨e1, e2⟩ := hno0.out l hl
        exact hno (colL l) (by rw [e1]; exact NumOf.of hl.nums e2.symm)
  · have hg5 : ((e5 : Int) != 0) = true := by rw [h4]; rfl
    clear h2 h3 h4
    go_enter Tryz.func10, Tryz.ntmps10
    go_wp2_with (first
      | (go_at_call 25; refine (HC.out _ hbv.out).mono ?_; rintro e w2 ⟨rfl, rfl⟩)
      | (go_at_call 26; refine (not_any e5 _).mono ?_; rintro e w6 ⟨rfl, rfl⟩))
    refine bodyPost_ret (results_tmp2 rfl _ _ _) rfl ⟨Below.refl _ _, .inr ⟨fun l hl => ?_, e5, rfl⟩⟩
    obtain ⟨q1, q2, q3⟩ := hl
    exact h1 l.length (by omega) (by rw [q3]; exact List.prefix_append _ _)
end Go.Proofs.YthpgfnhecfgiaaaGreatDoor
