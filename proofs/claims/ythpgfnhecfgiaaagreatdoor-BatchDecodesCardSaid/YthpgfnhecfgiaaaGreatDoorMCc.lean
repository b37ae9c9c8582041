/-
  Joined: CcNum, CcSeq, CcRuns, CcStore, CcDeltas, CcBools.
-/
import Derived.Test.YthpgfnhecfgiaaaGreatDoorMCo
import Derived.RangeFuncNested
import Derived.RangeFuncBox
import Derived.RangeFuncBound
import Derived.RangeFuncCalls
import Derived.RangeFuncLeaves
import Derived.Shelf.Abstract
import Derived.Shelf.RegionOpen
import Derived.WalkKit
import Derived.OwnWalkIn
import Derived.TacticsInMore
import Derived.LoopNIn
import Derived.LoopIn
import Derived.Test.YthpgfnhecfgiaaaGreatDoorMBase
import Derived.Maps.AppendAt
namespace Go.Proofs.YthpgfnhecfgiaaaGreatDoor

theorem enc_snoc (rs : List (Nat × Int)) (k : Nat) (x : Int) : encR (rs ++ [(k, x)]) = encR rs ++ putL k ++ putL (zigN x) := by
  rw [enc_append]; simp [encR]
theorem encB_snoc (c : List Nat) (k : Nat) : encB (c ++ [k]) = encB c ++ putL k := by
  rw [encB_append]; simp [encB]

/-- A run behind a list that ends in another. -/
theorem runs_snoc : ∀ (m : List Int) (x : Int) (k : Nat), 1 ≤ k → (∀ y, m.getLast? = some y → y ≠ x) → runsL (m ++ List.replicate k x) = runsL m ++ [(k, x)]
  | [], x, k, hk, _ => by
    obtain ⟨j, rfl⟩ : ∃ j, k = j + 1 := ⟨k - 1, by omega⟩
    have := runs_rep (x := x) (t := []) (by intro y t' h; cases h) j
    simpa [runsL] using this
  | y :: t, x, k, hk, h => by
    have ih := runs_snoc t x k hk (by
      intro z hz
      refine h z ?_
      cases t with
      | nil => simp at hz
      | cons u t' => simpa [List.getLast?_cons] using hz)
    rw [List.cons_append, runsL, ih]
    cases t with
    | nil =>
      have hyx : y ≠ x := h y rfl
      simp [runsL, hyx]
    | cons z t' =>
      obtain ⟨j, r, hr, _⟩ := runs_head z t'
      rw [hr, show runsL (y :: z :: t') = (if y = z then (j + 1, z) :: r else (1, y) :: (j, z) :: r) by rw [runsL, hr]]
      simp only [List.cons_append]
      split <;> rfl

/-- Runs beside one another are unlike. -/
def Apart : List (Nat × Int) → Prop
  | [] => True
  | [_] => True
  | (_, x) :: (j, y) :: r => x ≠ y ∧ Apart ((j, y) :: r)

theorem apart_head {k k' : Nat} {x : Int} {r : List (Nat × Int)} (h : Apart ((k, x) :: r)) : Apart ((k', x) :: r) := by
  cases r with
  | nil => trivial
  | cons p r => exact h

theorem apart_runs : ∀ l : List Int, Apart (runsL l)
  | [] => trivial
  | x :: t => by
    have ih := apart_runs t
    rw [runsL]
    cases hr : runsL t with
    | nil => trivial
    | cons p r =>
      obtain ⟨k, y⟩ := p
      rw [hr] at ih
      by_cases hxy : x = y
      · simp only [if_pos hxy]; exact apart_head ih
      · simp only [if_neg hxy]; exact ⟨hxy, ih⟩

theorem apart_not : ∀ (a : List (Nat × Int)) (j k : Nat) (x : Int) (r : List (Nat × Int)), ¬ Apart (a ++ (j, x) :: (k, x) :: r)
  | [], _, _, _, _, h => h.1 rfl
  | [(_, _)], _, _, _, _, h => h.2.1 rfl
  | (_, _) :: p :: a, j, k, x, r, h => apart_not (p :: a) j k x r h.2

theorem runs_last : ∀ (m : List Int) (x : Int), m.getLast? = some x → ∃ a j, runsL m = a ++ [(j, x)]
  | [], x, h => by simp at h
  | [y], x, h => by
    simp at h; subst h
    exact ⟨[], 1, rfl⟩
  | y :: z :: t, x, h => by
    obtain ⟨a, j, ha⟩ := runs_last (z :: t) x (by simpa [List.getLast?_cons] using h)
    rw [runsL, ha]
    cases a with
    | nil =>
      by_cases hyx : y = x
      · exact ⟨[], j + 1, by simp [hyx]⟩
      · exact ⟨[(1, y)], j, by simp [hyx]⟩
    | cons p a =>
      obtain ⟨i, u⟩ := p
      by_cases hyu : y = u
      · exact ⟨(i + 1, u) :: a, j, by simp [hyu]⟩
      · exact ⟨(1, y) :: (i, u) :: a, j, by simp [hyu]⟩

/-- What was read is the runs of a list; its end. -/
theorem Read.runsEnd {b : List Nat} {n a : Nat} {m : List Int} (h : Read b n (runsL m) a) (heq : m.length = n) {l : List Int} {a' e : Nat} (ht : TakenR b n l a' e) : l = m ∧ a' = a ∧ e = 0 := by
  have hd := h.done (by rw [total_runs]; exact heq) ht
  have h1 : b.take a = encR (runsL m) := by
    have h1 := h.bytes
    have h2 := h.len
    rw [h1, List.take_left' h2.symm]
  rw [flat_runs] at hd
  exact hd.1 (by rw [h1]; rfl)

/-- The next run is like the last one: there is no such list. -/
theorem Read.alike {b : List Nat} {n a k v : Nat} {m : List Int} (h : Read b n (runsL m) a) (hlt : m.length < n) (hlast : m.getLast? = some (zagN v))
    (hb1 : putL k <+: b.drop a) (hb2 : putL v <+: b.drop (a + (putL k).length)) : ∀ l', ¬ RunsOf b n l' := by
  intro l' hl'
  obtain ⟨q, s, h1, h2, h3, h4⟩ := h.goes hl'
  rw [total_runs] at h3
  cases q with
  | nil => simp [total] at h3; omega
  | cons p r =>
    obtain ⟨k', x⟩ := p
    obtain ⟨s1, hs1⟩ := hb1
    obtain ⟨s2, hs2⟩ := hb2
    rw [encR, List.append_assoc, List.append_assoc] at h2
    obtain ⟨rfl, h6⟩ := putL_free k k' _ _ (hs1.trans h2)
    have h7 : b.drop (a + (putL k).length) = s1 := by rw [← List.drop_drop, ← hs1, List.drop_left' rfl]
    obtain ⟨h8, _⟩ := putL_free v (zigN x) _ _ ((hs2.trans h7).trans h6)
    rw [h8, zagN_zigN] at hlast
    obtain ⟨a0, j, ha⟩ := runs_last m x hlast
    have := apart_runs l'
    rw [h1, ha, List.append_assoc] at this
    exact apart_not a0 j k x r this

/-- A run more, unlike the last one. -/
theorem Read.more {b : List Nat} {n a k v : Nat} {m : List Int} (h : Read b n (runsL m) a) (hk : 1 ≤ k) (hv : v < 18446744073709551616) (hle : m.length + k ≤ n) (hlast : ∀ y, m.getLast? = some y → y ≠ zagN v)
    (hb1 : putL k <+: b.drop a) (hb2 : putL v <+: b.drop (a + (putL k).length)) : Read b n (runsL (m ++ List.replicate k (zagN v))) (a + (putL k).length + (putL v).length) := by
  rw [runs_snoc m _ k hk hlast]
  exact h.step hk hv (by rw [total_runs]; exact hle) hb1 hb2

/-! Truths: what was read, at its end; a list's runs of truths. -/

theorem inc_rep (k : Nat) : incB [k] = [k + 1] := rfl

/-- The counts of flatB, where but the first may be 0 and the last is not. -/
theorem cnt_flat : ∀ (v : Bool) (c : List Nat), PosB c → cntB v (flatB v c) = c
  | _, [], _ => rfl
  | v, k :: r, h => by
    have hk := h k (by simp)
    obtain ⟨j, rfl⟩ : ∃ j, k = j + 1 := ⟨k - 1, by omega⟩
    have hr : PosB r := fun i hi => h i (by simp [hi])
    rw [flatB, cnt_rep ?_ j, cnt_flat (!v) r hr]
    intro t' ht
    cases r with
    | nil => simp [flatB] at ht
    | cons i r' =>
      have hi := hr i (by simp)
      obtain ⟨u, rfl⟩ : ∃ u, i = u + 1 := ⟨i - 1, by omega⟩
      rw [flatB, List.replicate_succ, List.cons_append] at ht
      injection ht with h1 _
      cases v <;> simp at h1

theorem cnt_flat0 {v : Bool} {c : List Nat} (hp : PosB c.tail) (hn : 0 < totB c ∨ c = []) : cntB v (flatB v c) = c := by
  cases c with
  | nil => rfl
  | cons k r =>
    rcases Nat.eq_zero_or_pos k with rfl | hk
    · cases r with
      | nil => simp [totB] at hn
      | cons i r' =>
        have hi : 1 ≤ i := hp i (by simp)
        have h1 := cnt_flat (!v) (i :: r') hp
        have h2 : flatB v (0 :: i :: r') = flatB (!v) (i :: r') := by simp [flatB]
        rw [h2]
        obtain ⟨u, rfl⟩ : ∃ u, i = u + 1 := ⟨i - 1, by omega⟩
        rw [show flatB (!v) ((u + 1) :: r') = (!v) :: (List.replicate u (!v) ++ flatB (!(!v)) r') by rw [flatB, List.replicate_succ]; rfl] at h1 ⊢
        rw [cnt_zero (by cases v <;> simp), h1]
    · refine cnt_flat v (k :: r) fun i hi => ?_
      rcases List.mem_cons.1 hi with rfl | hi
      · exact hk
      · exact hp i hi

theorem ReadB.runsEnd {b : List Nat} {n a : Nat} {c : List Nat} (h : ReadB b n c a) (heq : totB c = n) {l : List Bool} {a' e : Nat} (ht : TakenB b n l a' e) : l = flatB false c ∧ a' = a ∧ e = 0 := by
  have hd := h.done heq ht
  have h1 : b.take a = encB c := by
    have h1 := h.bytes
    have h2 := h.len
    rw [h1, List.take_left' h2.symm]
  refine hd.1 ?_
  rw [h1, bytesB, cnt_flat0 h.pos]
  rcases h.some_ with h2 | h2
  · exact .inr h2
  · exact .inl (by omega)

/-- A list's runs of truths. -/
def runsT : List Bool → List (Nat × Bool)
  | [] => []
  | x :: t => match runsT t with
    | [] => [(1, x)]
    | (k, y) :: r => if x = y then (k + 1, y) :: r else (1, x) :: (k, y) :: r

theorem runsT_head (y : Bool) (t : List Bool) : ∃ k r, runsT (y :: t) = (k, y) :: r ∧ 1 ≤ k := by
  unfold runsT
  split
  · exact ⟨1, [], rfl, by omega⟩
  · rename_i k z r _
    split
    · subst_vars; exact ⟨k + 1, r, rfl, by omega⟩
    · exact ⟨1, _, rfl, by omega⟩

theorem runsT_one {x : Bool} {t : List Bool} (h : ∀ y t', t = y :: t' → y ≠ x) : runsT (x :: t) = (1, x) :: runsT t := by
  cases t with
  | nil => rfl
  | cons y t' =>
    obtain ⟨k, r, hr, _⟩ := runsT_head y t'
    have := h y t' rfl
    rw [runsT, hr]
    simp only
    rw [if_neg (fun e => this e.symm)]
theorem runsT_rep {x : Bool} {t : List Bool} (h : ∀ y t', t = y :: t' → y ≠ x) : ∀ m : Nat, runsT (List.replicate (m + 1) x ++ t) = (m + 1, x) :: runsT t
  | 0 => runsT_one h
  | m + 1 => by
    rw [List.replicate_succ, List.cons_append, runsT, runsT_rep h m]
    simp

/-- How many, of each run. -/
theorem cnt_runs : ∀ (x : Bool) (t : List Bool), cntB x (x :: t) = (runsT (x :: t)).map (·.1)
  | x, [] => by simp [cntB, incB, runsT]
  | x, y :: t => by
    have ih := cnt_runs y t
    obtain ⟨k, r, hr, _⟩ := runsT_head y t
    rw [hr] at ih
    rw [cntB, if_pos rfl, runsT, hr]
    by_cases hxy : x = y
    · subst hxy
      rw [ih]; simp [incB]
    · have hyx : y ≠ x := fun h => hxy h.symm
      simp only [if_neg hxy]
      have hz : cntB x (y :: t) = 0 :: cntB y (y :: t) := by
        rw [cntB, if_neg hyx]
        rw [show cntB y (y :: t) = incB (cntB y t) by rw [cntB, if_pos rfl]]
      rw [hz, ih]
      simp [incB]

theorem bytes_truths (l : List Bool) : bytesB l = (if l.head? = some true then putL 0 else []) ++ encB ((runsT l).map (·.1)) := by
  cases l with
  | nil => simp [bytesB, cntB, encB, runsT]
  | cons x t =>
    rw [← cnt_runs]
    cases x
    · simp [bytesB]
    · rw [bytesB, cntB, if_neg (by simp)]
      simp [encB]
      rw [show cntB true (true :: t) = incB (cntB true t) by rw [cntB, if_pos rfl]]
end Go.Proofs.YthpgfnhecfgiaaaGreatDoor

namespace Go.Proofs.YthpgfnhecfgiaaaGreatDoor
open Go.RowKit Go.Sort
set_option maxRecDepth 20000

attribute [local go_sem] Oper.semAt_some

/-- What a round keeps: whatever lay below n, and the iterator's box. -/
structure Save (n Bs : Nat) (W W' : World) : Prop where
  below : Below n W W'
  seq : W'.heap[Bs]? = W.heap[Bs]?

section
variable {n Bs : Nat} {W W' W'' : World}
theorem Save.refl (n Bs : Nat) (W : World) : Save n Bs W W := ⟨Below.refl _ _, rfl⟩
theorem Save.trans (h : Save n Bs W W') (k : Save n Bs W' W'') : Save n Bs W W'' := ⟨h.below.trans k.below, k.seq.trans h.seq⟩
theorem save_put {w : World} (hn : n ≤ w.heap.size) (hB : Bs < w.heap.size) (W : World) (l : Nat) (o o' : Obj) (hl : w.heap.size ≤ l) (h : W.heap[l]? = some o) (h1 : o.isCells = false) (h2 : o.isWalk = false) : Save n Bs W (W.putObj l o') :=
  ⟨belowK_b hn W l o o' hl h h1 h2, World.putObj_heap_other (by omega)⟩
end

/-- What an iterator over a list hands on: how many, of which. -/
abbrev RunI := { p : Nat × Int // p.1 ≤ 65536 ∧ InR p.2 }
abbrev RunT := { p : Nat × Bool // p.1 ≤ 65536 }
abbrev encI (p : RunI) : Array Value := #[.int .i64 p.1.2, .int .i64 (p.1.1 : Int)]
abbrev encT (p : RunT) : Array Value := #[.bool p.1.2, .int .i64 (p.1.1 : Int)]

theorem run_pieceR {l : List Int} {i k m : Nat} {x : Int} (hk : k = i + m) (hm : 1 ≤ m) (hkl : k ≤ l.length) (hall : ∀ j, i ≤ j → j < k → l.getD j 0 = x) (hend : k = l.length ∨ l.getD k 0 ≠ x) :
    runsL (l.drop i) = (m, x) :: runsL (l.drop k) := by
  subst hk
  obtain ⟨m', rfl⟩ : ∃ m', m = m' + 1 := ⟨m - 1, by omega⟩
  rw [drop_piece (m' + 1) i l x hkl hall]
  refine runs_rep ?_ m'
  intro y t' ht
  rcases hend with h | h
  · rw [List.drop_eq_nil_of_le (by omega)] at ht; cases ht
  · have hlt : i + (m' + 1) < l.length := by
      rcases Nat.lt_or_ge (i + (m' + 1)) l.length with h' | h'
      · exact h'
      · rw [List.drop_eq_nil_of_le h'] at ht; cases ht
    rw [List.drop_eq_getElem_cons hlt] at ht
    injection ht with h1 _
    simp only [List.getD, List.getElem?_eq_getElem hlt, Option.getD_some] at h
    rw [← h1]; exact h

/-- What has come of a list's runs, f values in all, and i values looked at. -/
structure Come (l : List Int) (pre : List RunI) (f i : Nat) : Prop where
  runs : runsL l = pre.map (·.1) ++ runsL (l.drop f)
  few : pre.length ≤ f
  le : f ≤ i
  top : i ≤ l.length
  same : i < l.length → ∀ j, f ≤ j → j ≤ i → l.getD j 0 = l.getD i 0
  all : l.length ≤ i → f = i

theorem Come.start (l : List Int) : Come l [] 0 0 := ⟨by simp, by simp, by omega, by omega, fun _ j h1 h2 => by rw [show j = 0 by omega], fun h => rfl⟩

theorem Come.goOn {l : List Int} {pre : List RunI} {f i : Nat} (h : Come l pre f i) (hi : i + 1 < l.length) (he : l.getD (i + 1) 0 = l.getD i 0) : Come l pre f (i + 1) :=
  ⟨h.runs, h.few, by have := h.le; omega, by omega, fun _ j h1 h2 => by
    rcases Nat.lt_or_ge j (i + 1) with h3 | h3
    · rw [he]; exact h.same (by omega) j h1 (by omega)
    · rw [show j = i + 1 by omega], fun h4 => by omega⟩

theorem Come.turn {l : List Int} {pre : List RunI} {f i : Nat} (h : Come l pre f i) (hi : i < l.length) (he : i + 1 = l.length ∨ l.getD (i + 1) 0 ≠ l.getD i 0) {x : RunI} (hx : x.1 = (i + 1 - f, l.getD i 0)) : Come l (pre ++ [x]) (i + 1) (i + 1) := by
  have hle := h.le
  have hp := run_pieceR (l := l) (i := f) (k := i + 1) (m := i + 1 - f) (x := l.getD i 0) (by omega) (by omega) (by omega) (fun j h1 h2 => h.same hi j h1 (by omega)) he
  refine ⟨?_, ?_, by omega, by omega, fun _ j h1 h2 => by rw [show j = i + 1 by omega], fun _ => rfl⟩
  · rw [h.runs, hp, List.map_append, List.append_assoc]; simp [hx]
  · have := h.few; simp; omega

set_option maxRecDepth 20000 in
set_option maxHeartbeats 2000000 in
/-- The iterator over a list of integers. -/
theorem iterI_in (F : Fence) (n : Nat) (hf : F.fn 94) (hro : F.round = none) (hn : 1 ≤ n) (lp Bs : Nat) (v : Value) (l : List Int) (J Jx : List RunI → World → Prop) (hl : l.length ≤ 65536) (hr : ∀ x ∈ l, InR x)
    (w0 : World) (hv : IntsAt w0 v l)
    (hY : ∀ pre x W, J pre W → pre.length < l.length → YieldAt F (n - 1) Tryz.prog lp (encI x) W fun e W' =>
      (e = .returned (.bool true) ∧ J (pre ++ [x]) W' ∧ Save w0.heap.size Bs W W') ∨ (e = .returned (.bool false) ∧ Jx (pre ++ [x]) W'))
    (W : World) (hb0 : Below w0.heap.size w0 W) (hc : W.cell? ⟨Bs, 0, none⟩ = some v) (h0 : J [] W) :
    CallsIn F n Tryz.prog 94 #[.func (.yield lp) #[] #[], .pointer (some ⟨Bs, 0, none⟩)] W fun e W' => (∃ u, e = .returned u) ∧
      ((∃ ys, ys.map (·.1) = runsL l ∧ J ys W') ∨ (∃ pre, True ∧ Jx pre W')) := by
  have hlv := fun W => hv.len (ty := 3) W
  have hv := Lib.hid hv
  have hr := Lib.hid hr
  have hY := Lib.hid hY
  refine callsIn_of_wp Tryz.func94 rfl hf ?_ hro
  simp only [Tryz.ntmps94, List.size_toArray, List.length_cons, List.length_nil, Nat.reduceAdd, Nat.reduceSub, Array.replicate_succ, Array.replicate_zero, List.push_toArray, List.append_toArray, List.nil_append, List.cons_append]
  gi_wp2
  gi_loopw [3, 9] (fun f i wr => ∃ (pre : List RunI) (fN iN : Nat), f = .int .i64 fN ∧ i = .int .i64 iN ∧ fN ≤ iN ∧ iN ≤ l.length ∧ Hid (Come l pre fN iN) ∧ Hid (J pre wr) ∧ Save w0.heap.size Bs W wr)
    (fun _ i _ => l.length - (intOf i).toNat)
  case atStart => exact ⟨[], 0, 0, rfl, rfl, by omega, by omega, Lib.hid (Come.start l), Lib.hid h0, Save.refl _ _ _⟩
  case round =>
    obtain ⟨pre, f, i, rfl, rfl, hfi, hil, hcome, hJ, hsv⟩ := hrel
    have hcr : wr.cell? ⟨Bs, 0, none⟩ = some v := (World.cell?_of_block hsv.seq).trans hc
    rcases Nat.lt_or_ge i l.length with hlt | hge
    · obtain ⟨ad, ha, hac, hab⟩ := hv.out.index hlt
      obtain ⟨x, hx⟩ : ∃ x, l.getD i 0 = x := ⟨_, rfl⟩
      have hcell : ∀ (p : Addr) (u : Value), p.block < w0.heap.size → w0.cell? p = some u → wr.cell? p = some u := fun p u h1 h2 =>
        (hsv.below.cell h1).trans ((hb0.cell h1).trans h2)
      have hacr := hcell ad _ hab hac
      rw [hx] at hacr
      clear hac
      have hcell := Lib.hid hcell
      by_cases hgo : i + 1 < l.length ∧ l.getD (i + 1) 0 = x
      · obtain ⟨h1, h2⟩ := hgo
        obtain ⟨bd, hb, hbc, hbb⟩ := hv.out.index h1
        have hbcr := hcell.out bd _ hbb hbc
        rw [h2] at hbcr
        clear hbc
        simp only [Int.natCast_add, Int.natCast_one] at hb
        have hnext := Lib.hid (hcome.out.goOn h1 (by rw [h2, hx]))
        have hx := Lib.hid hx
        have h2 := Lib.hid h2
        gi_wp2
        go_roundw
        case rel => exact ⟨pre, f, i + 1, rfl, by go_num, by omega, by omega, hnext, hJ, hsv⟩
        case measure => simp [intOf]; omega
      · have he : i + 1 = l.length ∨ l.getD (i + 1) 0 ≠ l.getD i 0 := by
          rcases Nat.lt_or_ge (i + 1) l.length with h | h
          · exact .inr (fun e => hgo ⟨h, by rw [e, hx]⟩)
          · exact .inl (by omega)
        have hxr : InR x := by
          rw [← hx]
          simp only [List.getD, List.getElem?_eq_getElem hlt, Option.getD_some]
          exact hr.out _ (List.getElem_mem hlt)
        obtain ⟨fn, tmps, assign, body, hy, hR⟩ := hY.out pre ⟨(i + 1 - f, x), by omega, hxr⟩ wr hJ.out (by have := hcome.out.few; omega)
        dsimp only [encI] at hy
        rw [show ((i + 1 - f : Nat) : Int) = (i : Int) + 1 - f by omega] at hy
        have hnext := Lib.hid (hcome.out.turn hlt he (x := ⟨(i + 1 - f, x), by omega, hxr⟩) (by rw [hx]))
        have HW : (i + 1 < l.length ∧ ∃ bd y, (∀ W, (Instr.indexAt 55 v (.int .i64 ((i : Int) + 1))).run Tryz.prog W = .ok (.pointer (some bd)) W) ∧ wr.cell? bd = some (.int .i64 y) ∧ (y == x) = false ∧ Hid (y ≠ x)) ∨ (l.length ≤ i + 1 ∧ decide ((i : Int) + 1 < l.length) = false) := by
          rcases Nat.lt_or_ge (i + 1) l.length with h | h
          · obtain ⟨bd, hb, hbc, hbb⟩ := hv.out.index h
            have hyx : l.getD (i + 1) 0 ≠ x := fun e => hgo ⟨h, e⟩
            simp only [Int.natCast_add, Int.natCast_one] at hb
            exact .inl ⟨h, bd, _, hb, hcell.out bd _ hbb hbc, beq_false_of_ne hyx, Lib.hid hyx⟩
          · exact .inr ⟨h, decide_eq_false (by omega)⟩
        have hx := Lib.hid hx
        clear hgo he hcome
        rcases HW with ⟨h1, bd, y, hb, hbc, hq, hyx⟩ | ⟨h1, hq⟩
        all_goals
          gi_wp2
          refine hR.mono ?_
          rintro e W3 (⟨rfl, hJ3, hk3⟩ | ⟨rfl, hJx3⟩)
          · have hJ3 := Lib.hid hJ3
            gi_wp2
            go_roundw
            case rel => exact ⟨_, i + 1, i + 1, by go_num, by go_num, by omega, by omega, hnext, hJ3, hsv.trans hk3⟩
            case measure => simp [intOf]; omega
          · gi_wp2
            refine bodyPost_ret (results_none rfl _ _ _) rfl ?_
            exact ⟨⟨_, rfl⟩, .inr ⟨_, trivial, hJx3⟩⟩
    · have hd : Hid (pre.map (·.1) = runsL l) := Lib.hid (by
        have h1 := hcome.out.runs
        have h2 := hcome.out.all hge
        rw [h1, List.drop_eq_nil_of_le (by omega)]; simp [runsL])
      gi_wp2
      go_end0
      exact ⟨⟨_, rfl⟩, .inl ⟨pre, hd.out, hJ.out⟩⟩

set_option maxHeartbeats 1000000 in
/-- What makes it: the list in a box. -/
theorem seqI_in (F : Fence) (n : Nat) (hf : F.fn 77) (hro : F.round = none) (a : Option Addr) (len cap : Nat) (w : World) :
    CallsIn F n Tryz.prog 77 #[.slice a len cap] w fun e w' => e = .returned (.func (.func 94) #[] #[.pointer (some ⟨w.heap.size, 0, none⟩)]) ∧ w' = w.alloc (.cells #[.slice a len cap] 55) := by
  refine callsIn_of_wp Tryz.func77 rfl hf ?_ hro
  simp only [Tryz.ntmps77, List.size_toArray, List.length_cons, List.length_nil, Nat.reduceAdd, Nat.reduceSub, Array.replicate_succ, Array.replicate_zero, List.push_toArray, List.append_toArray, List.nil_append, List.cons_append]
  gi_wp2
  go_ret
  exact ⟨rfl, rfl⟩

theorem iterI_stops (F : Fence) (n : Nat) (hf : F.fn 94) (hro : F.round = none) (hn : 1 ≤ n) (Bs : Nat) (v : Value) (l : List Int) (hl : l.length ≤ 65536) (hr : ∀ x ∈ l, InR x) (w0 w : World) (hv : IntsAt w0 v l)
    (hBs : Bs < w.heap.size) (h0 : Below w0.heap.size w0 w) (hc : w.cell? ⟨Bs, 0, none⟩ = some v) :
    SeqStopsK F n Tryz.prog 94 #[.pointer (some ⟨Bs, 0, none⟩)] encI (Save w0.heap.size Bs) (fun ys => ys.map (·.1) = runsL l) (fun _ => True) l.length w := fun lp J Jx W hW _ _ hY hJ0 =>
  iterI_in F n hf hro hn lp Bs v l J Jx hl hr w0 hv hY W (h0.trans (hW.mono h0.size)) ((hW.cell (p := ⟨Bs, 0, none⟩) hBs).trans hc) hJ0

theorem run_pieceT {l : List Bool} {i k m : Nat} {x : Bool} (hk : k = i + m) (hm : 1 ≤ m) (hkl : k ≤ l.length) (hall : ∀ j, i ≤ j → j < k → l.getD j false = x) (hend : k = l.length ∨ l.getD k false ≠ x) :
    runsT (l.drop i) = (m, x) :: runsT (l.drop k) := by
  subst hk
  obtain ⟨m', rfl⟩ : ∃ m', m = m' + 1 := ⟨m - 1, by omega⟩
  rw [drop_pieceB (m' + 1) i l x hkl hall]
  refine runsT_rep ?_ m'
  intro y t' ht
  rcases hend with h | h
  · rw [List.drop_eq_nil_of_le (by omega)] at ht; cases ht
  · have hlt : i + (m' + 1) < l.length := by
      rcases Nat.lt_or_ge (i + (m' + 1)) l.length with h' | h'
      · exact h'
      · rw [List.drop_eq_nil_of_le h'] at ht; cases ht
    rw [List.drop_eq_getElem_cons hlt] at ht
    injection ht with h1 _
    simp only [List.getD, List.getElem?_eq_getElem hlt, Option.getD_some] at h
    rw [← h1]; exact h

/-- What has come (truths) of a list's runs, f values in all, and i values looked at. -/
structure ComeT (l : List Bool) (pre : List RunT) (f i : Nat) : Prop where
  runs : runsT l = pre.map (·.1) ++ runsT (l.drop f)
  few : pre.length ≤ f
  le : f ≤ i
  top : i ≤ l.length
  same : i < l.length → ∀ j, f ≤ j → j ≤ i → l.getD j false = l.getD i false
  all : l.length ≤ i → f = i

theorem ComeT.start (l : List Bool) : ComeT l [] 0 0 := ⟨by simp, by simp, by omega, by omega, fun _ j h1 h2 => by rw [show j = 0 by omega], fun h => rfl⟩

theorem ComeT.goOn {l : List Bool} {pre : List RunT} {f i : Nat} (h : ComeT l pre f i) (hi : i + 1 < l.length) (he : l.getD (i + 1) false = l.getD i false) : ComeT l pre f (i + 1) :=
  ⟨h.runs, h.few, by have := h.le; omega, by omega, fun _ j h1 h2 => by
    rcases Nat.lt_or_ge j (i + 1) with h3 | h3
    · rw [he]; exact h.same (by omega) j h1 (by omega)
    · rw [show j = i + 1 by omega], fun h4 => by omega⟩

theorem ComeT.turn {l : List Bool} {pre : List RunT} {f i : Nat} (h : ComeT l pre f i) (hi : i < l.length) (he : i + 1 = l.length ∨ l.getD (i + 1) false ≠ l.getD i false) {x : RunT} (hx : x.1 = (i + 1 - f, l.getD i false)) : ComeT l (pre ++ [x]) (i + 1) (i + 1) := by
  have hle := h.le
  have hp := run_pieceT (l := l) (i := f) (k := i + 1) (m := i + 1 - f) (x := l.getD i false) (by omega) (by omega) (by omega) (fun j h1 h2 => h.same hi j h1 (by omega)) he
  refine ⟨?_, ?_, by omega, by omega, fun _ j h1 h2 => by rw [show j = i + 1 by omega], fun _ => rfl⟩
  · rw [h.runs, hp, List.map_append, List.append_assoc]; simp [hx]
  · have := h.few; simp; omega

set_option maxRecDepth 20000 in
set_option maxHeartbeats 2000000 in
/-- The iterator over a list of integers. -/
theorem iterT_in (F : Fence) (n : Nat) (hf : F.fn 95) (hro : F.round = none) (hn : 1 ≤ n) (lp Bs : Nat) (v : Value) (l : List Bool) (J Jx : List RunT → World → Prop) (hl : l.length ≤ 65536)
    (w0 : World) (hv : TruthsAt w0 v l)
    (hY : ∀ pre x W, J pre W → pre.length < l.length → YieldAt F (n - 1) Tryz.prog lp (encT x) W fun e W' =>
      (e = .returned (.bool true) ∧ J (pre ++ [x]) W' ∧ Save w0.heap.size Bs W W') ∨ (e = .returned (.bool false) ∧ Jx (pre ++ [x]) W'))
    (W : World) (hb0 : Below w0.heap.size w0 W) (hc : W.cell? ⟨Bs, 0, none⟩ = some v) (h0 : J [] W) :
    CallsIn F n Tryz.prog 95 #[.func (.yield lp) #[] #[], .pointer (some ⟨Bs, 0, none⟩)] W fun e W' => (∃ u, e = .returned u) ∧
      ((∃ ys, ys.map (·.1) = runsT l ∧ J ys W') ∨ (∃ pre, True ∧ Jx pre W')) := by
  have hlv := fun W => hv.len (ty := 3) W
  have hv := Lib.hid hv
  have hY := Lib.hid hY
  refine callsIn_of_wp Tryz.func95 rfl hf ?_ hro
  simp only [Tryz.ntmps95, List.size_toArray, List.length_cons, List.length_nil, Nat.reduceAdd, Nat.reduceSub, Array.replicate_succ, Array.replicate_zero, List.push_toArray, List.append_toArray, List.nil_append, List.cons_append]
  gi_wp2
  gi_loopw [3, 9] (fun f i wr => ∃ (pre : List RunT) (fN iN : Nat), f = .int .i64 fN ∧ i = .int .i64 iN ∧ fN ≤ iN ∧ iN ≤ l.length ∧ Hid (ComeT l pre fN iN) ∧ Hid (J pre wr) ∧ Save w0.heap.size Bs W wr)
    (fun _ i _ => l.length - (intOf i).toNat)
  case atStart => exact ⟨[], 0, 0, rfl, rfl, by omega, by omega, Lib.hid (ComeT.start l), Lib.hid h0, Save.refl _ _ _⟩
  case round =>
    obtain ⟨pre, f, i, rfl, rfl, hfi, hil, hcome, hJ, hsv⟩ := hrel
    have hcr : wr.cell? ⟨Bs, 0, none⟩ = some v := (World.cell?_of_block hsv.seq).trans hc
    rcases Nat.lt_or_ge i l.length with hlt | hge
    · obtain ⟨ad, ha, hac, hab⟩ := hv.out.index hlt
      obtain ⟨x, hx⟩ : ∃ x, l.getD i false = x := ⟨_, rfl⟩
      have hcell : ∀ (p : Addr) (u : Value), p.block < w0.heap.size → w0.cell? p = some u → wr.cell? p = some u := fun p u h1 h2 =>
        (hsv.below.cell h1).trans ((hb0.cell h1).trans h2)
      have hacr := hcell ad _ hab hac
      rw [hx] at hacr
      clear hac
      have hcell := Lib.hid hcell
      by_cases hgo : i + 1 < l.length ∧ l.getD (i + 1) false = x
      · obtain ⟨h1, h2⟩ := hgo
        obtain ⟨bd, hb, hbc, hbb⟩ := hv.out.index h1
        have hbcr := hcell.out bd _ hbb hbc
        rw [h2] at hbcr
        clear hbc
        simp only [Int.natCast_add, Int.natCast_one] at hb
        have hnext := Lib.hid (hcome.out.goOn h1 (by rw [h2, hx]))
        have hx := Lib.hid hx
        have h2 := Lib.hid h2
        gi_wp2
        go_roundw
        case rel => exact ⟨pre, f, i + 1, rfl, by go_num, by omega, by omega, hnext, hJ, hsv⟩
        case measure => simp [intOf]; omega
      · have he : i + 1 = l.length ∨ l.getD (i + 1) false ≠ l.getD i false := by
          rcases Nat.lt_or_ge (i + 1) l.length with h | h
          · exact .inr (fun e => hgo ⟨h, by rw [e, hx]⟩)
          · exact .inl (by omega)
        obtain ⟨fn, tmps, assign, body, hy, hR⟩ := hY.out pre ⟨(i + 1 - f, x), by omega⟩ wr hJ.out (by have := hcome.out.few; omega)
        dsimp only [encT] at hy
        rw [show ((i + 1 - f : Nat) : Int) = (i : Int) + 1 - f by omega] at hy
        have hnext := Lib.hid (hcome.out.turn hlt he (x := ⟨(i + 1 - f, x), by omega⟩) (by rw [hx]))
        have HW : (i + 1 < l.length ∧ ∃ bd y, (∀ W, (Instr.indexAt 84 v (.int .i64 ((i : Int) + 1))).run Tryz.prog W = .ok (.pointer (some bd)) W) ∧ wr.cell? bd = some (.bool y) ∧ (y == x) = false ∧ Hid (y ≠ x)) ∨ (l.length ≤ i + 1 ∧ decide ((i : Int) + 1 < l.length) = false) := by
          rcases Nat.lt_or_ge (i + 1) l.length with h | h
          · obtain ⟨bd, hb, hbc, hbb⟩ := hv.out.index h
            have hyx : l.getD (i + 1) false ≠ x := fun e => hgo ⟨h, e⟩
            simp only [Int.natCast_add, Int.natCast_one] at hb
            exact .inl ⟨h, bd, _, hb, hcell.out bd _ hbb hbc, beq_false_of_ne hyx, Lib.hid hyx⟩
          · exact .inr ⟨h, decide_eq_false (by omega)⟩
        have hx := Lib.hid hx
        clear hgo he hcome
        rcases HW with ⟨h1, bd, y, hb, hbc, hq, hyx⟩ | ⟨h1, hq⟩
        all_goals
          gi_wp2
          refine hR.mono ?_
          rintro e W3 (⟨rfl, hJ3, hk3⟩ | ⟨rfl, hJx3⟩)
          · have hJ3 := Lib.hid hJ3
            gi_wp2
            go_roundw
            case rel => exact ⟨_, i + 1, i + 1, by go_num, by go_num, by omega, by omega, hnext, hJ3, hsv.trans hk3⟩
            case measure => simp [intOf]; omega
          · gi_wp2
            refine bodyPost_ret (results_none rfl _ _ _) rfl ?_
            exact ⟨⟨_, rfl⟩, .inr ⟨_, trivial, hJx3⟩⟩
    · have hd : Hid (pre.map (·.1) = runsT l) := Lib.hid (by
        have h1 := hcome.out.runs
        have h2 := hcome.out.all hge
        rw [h1, List.drop_eq_nil_of_le (by omega)]; simp [runsT])
      gi_wp2
      go_end0
      exact ⟨⟨_, rfl⟩, .inl ⟨pre, hd.out, hJ.out⟩⟩

set_option maxHeartbeats 1000000 in
/-- What makes it: the list in a box. -/
theorem seqT_in (F : Fence) (n : Nat) (hf : F.fn 79) (hro : F.round = none) (a : Option Addr) (len cap : Nat) (w : World) :
    CallsIn F n Tryz.prog 79 #[.slice a len cap] w fun e w' => e = .returned (.func (.func 95) #[] #[.pointer (some ⟨w.heap.size, 0, none⟩)]) ∧ w' = w.alloc (.cells #[.slice a len cap] 84) := by
  refine callsIn_of_wp Tryz.func79 rfl hf ?_ hro
  simp only [Tryz.ntmps79, List.size_toArray, List.length_cons, List.length_nil, Nat.reduceAdd, Nat.reduceSub, Array.replicate_succ, Array.replicate_zero, List.push_toArray, List.append_toArray, List.nil_append, List.cons_append]
  gi_wp2
  go_ret
  exact ⟨rfl, rfl⟩

theorem iterT_stops (F : Fence) (n : Nat) (hf : F.fn 95) (hro : F.round = none) (hn : 1 ≤ n) (Bs : Nat) (v : Value) (l : List Bool) (hl : l.length ≤ 65536) (w0 w : World) (hv : TruthsAt w0 v l)
    (hBs : Bs < w.heap.size) (h0 : Below w0.heap.size w0 w) (hc : w.cell? ⟨Bs, 0, none⟩ = some v) :
    SeqStopsK F n Tryz.prog 95 #[.pointer (some ⟨Bs, 0, none⟩)] encT (Save w0.heap.size Bs) (fun ys => ys.map (·.1) = runsT l) (fun _ => True) l.length w := fun lp J Jx W hW _ _ hY hJ0 =>
  iterT_in F n hf hro hn lp Bs v l J Jx hl w0 hv hY W (h0.trans (hW.mono h0.size)) ((hW.cell (p := ⟨Bs, 0, none⟩) hBs).trans hc) hJ0
end Go.Proofs.YthpgfnhecfgiaaaGreatDoor

namespace Go.Proofs.YthpgfnhecfgiaaaGreatDoor
open Go.RowKit Go.Sort
set_option maxRecDepth 20000

attribute [local go_sem] Oper.semAt_some

theorem keeps_below {w w' : World} (h : Below w.heap.size w w') : KeepsOthers w w' :=
  ⟨h.size, fun k _ hk _ => (h.block k (Array.getElem?_eq_some_iff.1 hk).1).trans hk⟩
theorem keeps_grown {w w' : World} {base : Nat} {v : Value} {l : List Nat} (h : Own w base v l) (hg : w.grownBy w' v.ownBlock) : KeepsOthers w w' := by
  refine KeepsOthers.of_grownBy hg fun j o ej hj => ?_
  rcases h.2 with ⟨rfl, _⟩ | ⟨g, cap, cur, rfl, _, hgb, _⟩
  · simp [Value.ownBlock] at ej
  · obtain rfl : g = j := by simpa [Value.ownBlock] using ej
    rw [hgb] at hj; cases hj; rfl

/-- append(v, x...), run. -/
theorem run_append_bytes {w : World} {base : Nat} {v x : Value} {l m : List Nat} (hown : Own w base v l) (hx : BytesAt w x m) (hm : 0 < m.length) (hle : (l.length + m.length) * 8 ≤ 140737488355328) (hbase : base ≤ w.heap.size) (ty : TypeId) :
    ∃ v' w', (Builtin.append_ #[22, 22] ty #[v, x]).run Tryz.prog w = .ok v' w' ∧ Own w' base v' (l ++ m) ∧ w.grownBy w' v.ownBlock := by
  obtain ⟨i0, hi0, hz0, hz1, hz2⟩ := info_parts info_u8
  obtain ⟨A, c, rfl, _, _, hc, _⟩ := hx.row
  rw [bvals_length] at hc ⊢
  obtain ⟨b, off, rfl, _, hcell⟩ := hc hm
  obtain ⟨v', w', h1, h2, h3, _⟩ := run_append_own (P := Tryz.prog) w base 22 ty 5 i0 (.int .u8 0) 1 1 Tryz.underlying22 hi0 hz0 hz1 hz2 rfl (by decide) v l.length (bvals l) hown
    ⟨b, off, none⟩ m.length c (bvals m) (by simp [bvals]) (fun j u hu => by rw [addr_at]; exact hcell j u hu) (bvals_one m) (by unfold maxLen; omega) (by omega) hbase
  exact ⟨v', w', h1, by rw [Own, bvals_append, List.length_append]; exact h2, h3⟩

/-- A row grows in a variable's box: since W, all else lies as it lay. -/
structure After (n bx Bs : Nat) (ts : TypeId) (sv : Value) (W w : World) (v : Value) (l : List Nat) : Prop where
  box : Boxed w bx 22 v
  seq : Boxed w Bs ts sv
  was : Boxed W Bs ts sv
  own : Own w n v l
  keep : KeepsOthers W w
  below : Below n W w
  low : n ≤ bx
  ne : bx ≠ Bs

section
variable {n bx Bs : Nat} {ts : TypeId} {sv : Value} {W w w' : World} {v : Value} {l : List Nat}
theorem After.cell (h : After n bx Bs ts sv W w v l) : w.cell? ⟨bx, 0, none⟩ = some v := h.box.cell
theorem After.drew (h : After n bx Bs ts sv W w v l) : After n bx Bs ts sv W w.drew v l :=
  ⟨h.box, h.seq, h.was, h.own.drewN 1, h.keep.trans (KeepsOthers.drew _), below_drewN h.below 1, h.low, h.ne⟩
theorem After.call (h : After n bx Bs ts sv W w v l) (hb : Below w.heap.size w w') : After n bx Bs ts sv W w' v l :=
  ⟨(hb.block bx h.box.lt).trans h.box, (hb.block Bs h.seq.lt).trans h.seq, h.was, h.own.later hb, h.keep.trans (keeps_below hb), h.below.trans (hb.mono (by have := h.low; have := h.box.lt; omega)), h.low, h.ne⟩
theorem After.save (h : After n bx Bs ts sv W w v l) : Save n Bs W w := ⟨h.below, (show w.heap[Bs]? = _ from h.seq).trans (show W.heap[Bs]? = _ from h.was).symm⟩
theorem After.app (h : After n bx Bs ts sv W w v l) (hts : ts ≠ 5) {x : Value} {m : List Nat} (hx : BytesAt w x m) (hm : 0 < m.length) (hle : (l.length + m.length) * 8 ≤ 140737488355328) (ty : TypeId) :
    ∃ A k c w', (Builtin.append_ #[22, 22] ty #[v, x]).run Tryz.prog w = .ok (.slice A k c) w' ∧ w'.cell? ⟨bx, 0, none⟩ = some v ∧ w'.frozen? ⟨bx, 0, none⟩ = false ∧ After n bx Bs ts sv W (w'.setCell ⟨bx, 0, none⟩ (.slice A k c)) (.slice A k c) (l ++ m) := by
  have hlo := h.low
  have hlt := h.box.lt
  obtain ⟨v', w', h1, h2, h3⟩ := run_append_bytes h.own hx hm hle (by omega) ty
  obtain ⟨A, c, rfl, _⟩ := OwnRow.row (xs := bvals (l ++ m)) (by simpa [OwnRow, Own, bvals] using h2)
  have hne : some bx ≠ v.ownBlock := h.box.not_row (by decide) h.own
  have hne2 : some Bs ≠ v.ownBlock := h.seq.not_row hts h.own
  have hbox := h.box.kept h3 hne
  have hseq := h.seq.kept h3 hne2
  have hb : Below n w w' := grown_below h.own h3 (by omega)
  refine ⟨_, _, _, w', h1, hbox.cell, hbox.frozen, hbox.set _, hseq.kept (grownBy_setCell' w' bx _) (fun e => h.ne (by injection e with e; exact e.symm)), h.was, ?_, (h.keep.trans (keeps_grown h.own h3)).trans (KeepsOthers.setCell _ _ _), (h.below.trans hb).setCell (p := ⟨bx, 0, none⟩) hlo _, hlo, h.ne⟩
  exact World.ownsRow.kept h2 (grownBy_setCell' w' bx _) (.inr (hbox.not_row (by decide) h2).symm)
end

/-- What a loop over an iterator keeps, between two rounds. -/
theorem own_row_from {β : Type} {n bx Bs B : Nat} {ts : TypeId} {sv : Value} (w : World) (f : β → List Nat) (hn : n ≤ w.heap.size) (hnB : n ≤ B) (hs : Bs < B) :
    OwnFrom B (fun (s : β) W => ((∃ v, Boxed W bx 22 v ∧ W.ownsRow n 5 1 v (f s).length (bvals (f s)) ∧ True) ∧ Below n w W) ∧ Boxed W Bs ts sv) :=
  OwnFrom.and (OwnFrom.and (Go.Own.from (holdsRow_own n bx 22 5 1 (fun s => (f s).length) (fun s => bvals (f s)) (fun _ _ => True)) _) (ownFrom_below hn hnB))
    (fun _ _ _ _ h hg hr => h.kept hg (fun e => by have := (hr _ e.symm).1; omega))

theorem stepIn_append {F : Fence} {n : Nat} {P : Program} {w : World} {ops : Array Oper} {o : Oper} {a : Act} {K : Act → World → Prop} {Q : Exit → Act → World → Prop} {E : Prop} (hgd : o.guard = none) (s x : Operand) (t : TypeId)
    (ho : o.op = .call { callee := .builtin .append, args := #[s, x], argTypes := #[t, t] }) {v u v' : Value} {w' : World} (hs : a.eval s = v) (hx : a.eval x = u)
    (hrun : (Builtin.append_ #[t, t] o.type #[v, u]).run P w = .ok v' w') (h : K (a.put o.dst v') w') : if Region.wanted o (yielded ops a.tmps) = true then Oper.wpIn F n P o a w K Q else E := by
  have hw : Region.wanted o (yielded ops a.tmps) = true := by simp [Region.wanted, hgd]
  rw [if_pos hw]
  unfold Oper.wpIn
  refine ⟨?_, ?_⟩
  · simp [Oper.about, ho, resolve, Target.leads, Sem.run_pure]
  · rw [Oper.semAt_plain F _ _ (by rw [ho]; intro c hc'; cases hc')]
    simp [execOp, ho, resolve, invoke, builtin, hs, hx, hrun, Result.andThen]
    exact h

theorem zig_N_any {x : Int} {z : Nat} (h : zigN x = z) (hx : InR x) (w : World) : Calls Tryz.prog 78 #[.int .i64 x] w fun e w' => e = .returned (.int .u64 (z : Nat)) ∧ w = w' := by
  have := zig_any x hx.1 hx.2 w
  rw [zig_N, h] at this
  exact this

theorem encR_few : ∀ (rs : List RunI), (encR (rs.map (·.1))).length ≤ 20 * rs.length
  | [] => by simp [encR]
  | ⟨(k, x), hk, hx⟩ :: r => by
    have ih := encR_few r
    dsimp only at hk hx
    have h1 := putL_len10 (n := k) (by omega)
    have h2 := putL_len10 (zigN_lt hx)
    simp only [List.map_cons, encR, List.length_append, List.length_cons]
    omega

set_option maxRecDepth 20000 in
set_option maxHeartbeats 8000000 in
theorem cRuns_any (v : Value) (l : List Int) (w : World) (hv : IntsAt w v l) (hr : ∀ x ∈ l, InR x) (hl : l.length ≤ 65536) :
    Calls Tryz.prog 47 #[v] w fun e w' => ∃ v', e = .returned v' ∧ Own w' w.heap.size v' (bytesR l) ∧ Below w.heap.size w w' := by
  obtain ⟨a, c, rfl, _⟩ := id hv
  rw [ints_len] at hv ⊢
  refine (callsIn_wide (n := 3)).1 ?_
  refine callsIn_of_wp_marks Tryz.func47 rfl trivial ?_ rfl
  simp only [Tryz.ntmps47, List.size_toArray, List.length_cons, List.length_nil, Nat.reduceAdd, Nat.reduceSub, Array.replicate_succ, Array.replicate_zero, List.push_toArray, List.append_toArray, List.nil_append, List.cons_append]
  have hv := Lib.hid hv
  have hr := Lib.hid hr
  gi_wp2_with (refine ⟨trivial, ?_⟩; gi_at_call 77; refine (seqI_in Fence.wide _ trivial rfl _ _ _ _).mono ?_; rintro e w' ⟨rfl, rfl⟩)
  have bO := Boxed.new w 22 (.slice none 0 0)
  have bN := Boxed.new (w.alloc (.cells #[.slice none 0 0] 22)) 55 (.slice a l.length c)
  rw [World.size_alloc] at bN
  have hB0 : Below w.heap.size w ((w.alloc (.cells #[.slice none 0 0] 22)).alloc (.cells #[.slice a l.length c] 55)) := ((Below.refl _ w).alloc (Nat.le_refl _) _).alloc (by simp) _
  refine wpIn_rangeFunc_ownG (F := Fence.wide) rfl (by omega) (gf := 94) (lb := #[.pointer (some ⟨w.heap.size + 1, 0, none⟩)]) rfl trivial (enters_of Tryz.func94 (by kernel_rfl) rfl)
    (iterI_stops Fence.wide _ trivial rfl (by omega) (w.heap.size + 1) _ l hl hr.out w _ hv.out (by simp) hB0 bN.cell)
    Save.trans (save_put (by simp; omega) (by simp)) (Below.refl _ _) (fun _ => rfl)
    (fun pre W => ((∃ v, Boxed W w.heap.size 22 v ∧ W.ownsRow w.heap.size 5 1 v (encR (pre.map (·.1))).length (bvals (encR (pre.map (·.1)))) ∧ True) ∧ Below w.heap.size w W) ∧ Boxed W (w.heap.size + 1) 55 (.slice a l.length c))
    (fun _ _ _ => False)
    (own_row_from w (fun pre : List RunI => encR (pre.map (·.1))) (Nat.le_refl _) (by simp; omega) (by simp))
    (fun _ _ _ _ _ hs _ _ => hs)
    ⟨⟨⟨_, bO.alloc _, World.ownsRow_nil _ _ _ _, trivial⟩, hB0⟩, bN⟩
    (fun x => { tmps := #[.slice a l.length c, undef, .slice none 0 0, .pointer (some ⟨w.heap.size, 0, none⟩), .int .i64 x.1.2, .int .i64 (x.1.1 : Int), .slice a l.length c, .func (.func 94) #[] #[.pointer (some ⟨w.heap.size + 1, 0, none⟩)], .int .i64 x.1.2, .int .i64 (x.1.1 : Int), undef, undef, undef, undef, undef, undef, undef, undef, undef, undef, undef], defers := [] }) ?assign ?body ?done ?stop
  case assign =>
    intro l x W K hK
    gi_wp2
    exact hK
  case body =>
    rintro lp pre ⟨⟨m, x⟩, hm, hx⟩ W ⟨⟨⟨v, hv1, hrow, _⟩, hB⟩, hseq⟩ hlt
    dsimp only at hm hx
    have hx := Lib.hid hx
    have hmx : Tryz.prog.follows .mixedOrders = true := by kernel_rfl
    have haf : After w.heap.size w.heap.size (w.heap.size + 1) 55 (.slice a l.length c) W W v (encR (pre.map (·.1))) := ⟨hv1, hseq, hseq, hrow, KeepsOthers.refl _, Below.refl _ _, Nat.le_refl _, by omega⟩
    have haf := haf.drew
    have hcv := haf.cell
    have c1 := hide (fun W => put_any m (by omega) W)
    have c2 := hide (fun W => put_any (zigN x) (zigN_lt hx.out) W)
    have c3 := hide (fun W => zig_N_any (x := x) rfl hx.out W)
    have hwm : IntKind.u64.wrap (m : Int) = m := by rw [IntKind.wrap_u64]; omega
    have hen := encR_few pre
    have hm10 : (putL m).length ≤ 10 := putL_len10 (by omega)
    gi_wp2
    rename_i K6 hK6
    have h6 : ∀ (v1 : Value) (g2 : Option Addr) (n2 k2 : Nat) (W3 : World), After w.heap.size w.heap.size (w.heap.size + 1) 55 (.slice a l.length c) W W3 (.slice g2 n2 k2) (encR (pre.map (·.1)) ++ putL m) →
        K6 { tmps := #[.slice a l.length c, undef, .slice none 0 0, .pointer (some ⟨w.heap.size, 0, none⟩), .int .i64 x, .int .i64 (m : Int), .slice a l.length c, .func (.func 94) #[] #[.pointer (some ⟨w.heap.size + 1, 0, none⟩)], .int .i64 x, .int .i64 (m : Int), v, .int .i64 (m : Int), .int .u64 (m : Int), v1, .slice g2 n2 k2, undef, undef, undef, undef, undef, undef], defers := [] } W3 := by
      intro v1 g2 n2 k2 W3 haf
      clear hcv c1 hwm
      refine hK6 _ _ ?_
      have haf := haf.drew
      have hcv := haf.cell
      obtain ⟨z, hz⟩ : ∃ z, zigN x = z := ⟨_, rfl⟩
      rw [hz] at c2 c3
      have hz10 : (putL z).length ≤ 10 := by rw [← hz]; exact putL_len10 (zigN_lt hx.out)
      have hbd : ((encR (pre.map (·.1)) ++ putL m).length + (putL z).length) * 8 ≤ 140737488355328 := by rw [List.length_append]; omega
      have hz := Lib.hid hz
      refine wpIn_region_any (by assumption) ?_
      change wpAnyIn _ _ _ _ _ _ _ _ _ (World.drew _)
      all_goals refine wpAnyIn_ready (rs := [0, 1]) (by decide +kernel) (by simp) (AllReadyIn.cons rfl (fun K hK => ?_) (AllReadyIn.cons rfl (fun K hK => ?_) AllReadyIn.nil))
      all_goals go_simp
      all_goals first
        | (refine hK _ _ ?_; clear hK K)
        | (refine ⟨trivial, ?_⟩; gi_at_call 21; refine (CallsIn.inRound lp (callsIn_wide.2 (c2.out _))).mono ?_; rintro e' w1 ⟨v1, rfl, ho1, hb1⟩; have haf := haf.call hb1; have hcv := haf.cell; have hx1 := putL_bytes ho1; dsimp only; refine hK _ _ ?_; clear hK K)
        | (refine ⟨trivial, ?_⟩; gi_at_call 78; refine (CallsIn.inRound lp (callsIn_wide.2 (c3.out _))).mono ?_; rintro e' w1 ⟨rfl, rfl⟩; dsimp only; refine hK _ _ ?_; clear hK K)
      all_goals first | (refine wpAnyIn_ready (rs := [1]) (by decide +kernel) (by simp) (AllReadyIn.cons rfl (fun K hK => ?_) AllReadyIn.nil)) | (refine wpAnyIn_ready (rs := [0, 2]) (by decide +kernel) (by simp) (AllReadyIn.cons rfl (fun K hK => ?_) (AllReadyIn.cons rfl (fun K hK => ?_) AllReadyIn.nil)))
      all_goals go_simp
      all_goals first
        | (refine hK _ _ ?_; clear hK K)
        | (refine ⟨trivial, ?_⟩; gi_at_call 21; refine (CallsIn.inRound lp (callsIn_wide.2 (c2.out _))).mono ?_; rintro e' w1 ⟨v1, rfl, ho1, hb1⟩; have haf := haf.call hb1; have hcv := haf.cell; have hx1 := putL_bytes ho1; dsimp only; refine hK _ _ ?_; clear hK K)
        | (refine ⟨trivial, ?_⟩; gi_at_call 78; refine (CallsIn.inRound lp (callsIn_wide.2 (c3.out _))).mono ?_; rintro e' w1 ⟨rfl, rfl⟩; dsimp only; refine hK _ _ ?_; clear hK K)
      all_goals first | (refine wpAnyIn_ready (rs := [2]) (by decide +kernel) (by simp) (AllReadyIn.cons rfl (fun K hK => ?_) AllReadyIn.nil)) | (refine wpAnyIn_ready (rs := [0, 3]) (by decide +kernel) (by simp) (AllReadyIn.cons rfl (fun K hK => ?_) (AllReadyIn.cons rfl (fun K hK => ?_) AllReadyIn.nil)))
      all_goals go_simp
      all_goals first
        | (refine hK _ _ ?_; clear hK K)
        | (refine ⟨trivial, ?_⟩; gi_at_call 21; refine (CallsIn.inRound lp (callsIn_wide.2 (c2.out _))).mono ?_; rintro e' w1 ⟨v1, rfl, ho1, hb1⟩; have haf := haf.call hb1; have hcv := haf.cell; have hx1 := putL_bytes ho1; dsimp only; refine hK _ _ ?_; clear hK K)
        | (refine ⟨trivial, ?_⟩; gi_at_call 78; refine (CallsIn.inRound lp (callsIn_wide.2 (c3.out _))).mono ?_; rintro e' w1 ⟨rfl, rfl⟩; dsimp only; refine hK _ _ ?_; clear hK K)
      all_goals first | (refine wpAnyIn_ready (rs := [3]) (by decide +kernel) (by simp) (AllReadyIn.cons rfl (fun K hK => ?_) AllReadyIn.nil)) | (refine wpAnyIn_ready (rs := [0]) (by decide +kernel) (by simp) (AllReadyIn.cons rfl (fun K hK => ?_) AllReadyIn.nil))
      all_goals go_simp
      all_goals first
        | (refine hK _ _ ?_; clear hK K)
        | (refine ⟨trivial, ?_⟩; gi_at_call 21; refine (CallsIn.inRound lp (callsIn_wide.2 (c2.out _))).mono ?_; rintro e' w1 ⟨v1, rfl, ho1, hb1⟩; have haf := haf.call hb1; have hcv := haf.cell; have hx1 := putL_bytes ho1; dsimp only; refine hK _ _ ?_; clear hK K)
        | (refine ⟨trivial, ?_⟩; gi_at_call 78; refine (CallsIn.inRound lp (callsIn_wide.2 (c3.out _))).mono ?_; rintro e' w1 ⟨rfl, rfl⟩; dsimp only; refine hK _ _ ?_; clear hK K)
      all_goals refine wpAnyIn_ready (rs := [4]) (by decide +kernel) (by simp) (AllReadyIn.cons rfl (fun K hK => ?_) AllReadyIn.nil)
      all_goals (obtain ⟨g2, n2, k2, w2, hr2, hcv, hfr, haf⟩ := haf.app (by decide) hx1 (putL_pos _) hbd 22; refine stepIn_append rfl (.tmp 15) (.tmp 18) _ rfl rfl rfl hr2 ?_; refine hK _ _ ?_; clear hK K)
      all_goals refine wpAnyIn_ready (rs := [5]) (by decide +kernel) (by simp) (AllReadyIn.cons rfl (fun K hK => ?_) AllReadyIn.nil)
      all_goals go_simp
      all_goals (refine hK _ _ ?_; clear hK K)
      all_goals refine wpAnyIn_done (by decide +kernel) ?_ _
      all_goals exact ⟨haf.keep.from _, haf.save, ⟨⟨_, haf.box, by rw [List.map_append, List.map_singleton, enc_snoc, hz.out]; exact haf.own, trivial⟩, hB.trans haf.below⟩, haf.seq⟩
    have hbd : ((encR (pre.map (·.1))).length + (putL m).length) * 8 ≤ 140737488355328 := by omega
    refine wpIn_region_any (by assumption) ?_
    change wpAnyIn _ _ _ _ _ _ _ _ _ (World.drew _)
    all_goals refine wpAnyIn_ready (rs := [0, 1]) (by decide +kernel) (by simp) (AllReadyIn.cons rfl (fun K hK => ?_) (AllReadyIn.cons rfl (fun K hK => ?_) AllReadyIn.nil))
    all_goals go_simp
    all_goals first
      | (refine hK _ _ ?_; clear hK K)
      | (refine ⟨trivial, ?_⟩; gi_at_call 21; refine (CallsIn.inRound lp (callsIn_wide.2 (c1.out _))).mono ?_; rintro e' w1 ⟨v1, rfl, ho1, hb1⟩; have haf := haf.call hb1; have hcv := haf.cell; have hx1 := putL_bytes ho1; dsimp only; refine hK _ _ ?_; clear hK K)
    all_goals first | (refine wpAnyIn_ready (rs := [1]) (by decide +kernel) (by simp) (AllReadyIn.cons rfl (fun K hK => ?_) AllReadyIn.nil)) | (refine wpAnyIn_ready (rs := [0, 2]) (by decide +kernel) (by simp) (AllReadyIn.cons rfl (fun K hK => ?_) (AllReadyIn.cons rfl (fun K hK => ?_) AllReadyIn.nil)))
    all_goals go_simp
    all_goals first
      | (refine hK _ _ ?_; clear hK K)
      | (refine ⟨trivial, ?_⟩; gi_at_call 21; refine (CallsIn.inRound lp (callsIn_wide.2 (c1.out _))).mono ?_; rintro e' w1 ⟨v1, rfl, ho1, hb1⟩; have haf := haf.call hb1; have hcv := haf.cell; have hx1 := putL_bytes ho1; dsimp only; refine hK _ _ ?_; clear hK K)
    all_goals first | (refine wpAnyIn_ready (rs := [2]) (by decide +kernel) (by simp) (AllReadyIn.cons rfl (fun K hK => ?_) AllReadyIn.nil)) | (refine wpAnyIn_ready (rs := [0, 3]) (by decide +kernel) (by simp) (AllReadyIn.cons rfl (fun K hK => ?_) (AllReadyIn.cons rfl (fun K hK => ?_) AllReadyIn.nil)))
    all_goals go_simp
    all_goals first
      | (refine hK _ _ ?_; clear hK K)
      | (refine ⟨trivial, ?_⟩; gi_at_call 21; refine (CallsIn.inRound lp (callsIn_wide.2 (c1.out _))).mono ?_; rintro e' w1 ⟨v1, rfl, ho1, hb1⟩; have haf := haf.call hb1; have hcv := haf.cell; have hx1 := putL_bytes ho1; dsimp only; refine hK _ _ ?_; clear hK K)
    all_goals first | (refine wpAnyIn_ready (rs := [3]) (by decide +kernel) (by simp) (AllReadyIn.cons rfl (fun K hK => ?_) AllReadyIn.nil)) | (refine wpAnyIn_ready (rs := [0]) (by decide +kernel) (by simp) (AllReadyIn.cons rfl (fun K hK => ?_) AllReadyIn.nil))
    all_goals go_simp
    all_goals first
      | (refine hK _ _ ?_; clear hK K)
      | (refine ⟨trivial, ?_⟩; gi_at_call 21; refine (CallsIn.inRound lp (callsIn_wide.2 (c1.out _))).mono ?_; rintro e' w1 ⟨v1, rfl, ho1, hb1⟩; have haf := haf.call hb1; have hcv := haf.cell; have hx1 := putL_bytes ho1; dsimp only; refine hK _ _ ?_; clear hK K)
    all_goals refine wpAnyIn_ready (rs := [4]) (by decide +kernel) (by simp) (AllReadyIn.cons rfl (fun K hK => ?_) AllReadyIn.nil)
    all_goals (obtain ⟨g2, n2, k2, w2, hr2, hcv, hfr, haf⟩ := haf.app (by decide) hx1 (putL_pos _) hbd 22; refine stepIn_append rfl (.tmp 10) (.tmp 13) _ rfl rfl rfl hr2 ?_; refine hK _ _ ?_; clear hK K)
    all_goals refine wpAnyIn_ready (rs := [5]) (by decide +kernel) (by simp) (AllReadyIn.cons rfl (fun K hK => ?_) AllReadyIn.nil)
    all_goals go_simp
    all_goals (refine hK _ _ ?_; clear hK K)
    all_goals refine wpAnyIn_done (by decide +kernel) ?_ _
    all_goals exact h6 _ _ _ _ _ haf
  case done =>
    rintro D ys W hD hys ⟨⟨⟨v, hv1, hrow, _⟩, hB⟩, _⟩ hK
    rw [hys] at hrow
    have hc := hv1.cell
    gi_wp2
    refine ⟨by simp, .inl ⟨_, _, rfl, run_takeDeferred hK, ?_⟩⟩
    exact ⟨_, results_tmp rfl _ _ _, v, rfl, ownsRow_putObj (show Own W w.heap.size v (bytesR l) from hrow) _ hK rfl, hB.trans (belowK_b (w := w) (Nat.le_refl _) W D _ _ (by simp at hD; omega) hK rfl rfl)⟩
  case stop =>
    rintro D c pre W _ _ h _
    exact h.elim
end Go.Proofs.YthpgfnhecfgiaaaGreatDoor

namespace Go.Proofs.YthpgfnhecfgiaaaGreatDoor
open Go.RowKit Go.Sort
set_option maxRecDepth 20000

/-- make([]int, n): n zeros. -/
theorem run_make_ints (w : World) (n : Nat) (hn : n ≤ 65536) : ∃ w', (Instr.makeSlice 55 (.int .i64 (n : Int)) (.int .i64 (n : Int))).run Tryz.prog w = .ok (.slice (some ⟨w.heap.size, 0, none⟩) n n) w' ∧
    OwnRow w' w.heap.size 3 (.slice (some ⟨w.heap.size, 0, none⟩) n n) (ints (List.replicate n 0)) ∧ Below w.heap.size w w' := by
  obtain ⟨i0, hi0, hz0, hz1, hz2⟩ := info_parts elemI.hi
  obtain ⟨w', h1, h2, h3⟩ := run_make_full (P := Tryz.prog) w w.heap.size 55 3 i0 (.int .i64 0) 1 elemI.ht hi0 hz0 hz1 .i64 .i64 n (by rw [hz2]; omega) (by unfold maxLen; omega) (Nat.le_refl _)
  refine ⟨w', h1, ?_, (Below.refl _ _).grown h3 (Nat.le_refl _) (fun k hk => by cases hk)⟩
  have he : (madeCells (Value.int .i64 0).cells (n * 1)).toList = ints (List.replicate n 0) := by
    simp only [madeCells, ints, Value.cells]
    apply List.ext_getElem
    · simp
    · intro i h1 h2
      simp [Nat.mod_one]
  rw [he] at h2
  rw [OwnRow, ints_len, List.length_replicate]
  exact h2
end Go.Proofs.YthpgfnhecfgiaaaGreatDoor

namespace Go.Proofs.YthpgfnhecfgiaaaGreatDoor
open Go.RowKit Go.Sort
set_option maxRecDepth 20000

theorem wpList_make_run {P : Program} {w w' : World} {ops : Array Oper} {rest : List Oper} {o : Oper} {a : Act} {Q : Exit → Act → World → Prop} (hg : o.guard = none) (l c : Operand) (t : TypeId) (hop : o.op = .makeSlice t l c) {x y v : Value}
    (hl : a.eval l = x) (hc : a.eval c = y) (hrun : (Instr.makeSlice t x y).run P w = .ok v w') (h : wpList P ops Q rest (a.put o.dst v) w') : wpList P ops Q (o :: rest) a w := by
  refine wpList_plain hg fun K hK' => ?_
  unfold Oper.wp
  simp [execOp, hop, hl, hc, hrun, Result.andThen]
  exact hK' _ _ h

theorem set_mid {α : Type} (A : List α) (x y : α) (B : List α) : (A ++ x :: B).set A.length y = A ++ [y] ++ B := by
  simp

/-- i differences are put, p is ahead of the next one. -/
structure DeltaAt (l : List Int) (i : Nat) (p : Int) (d : List Int) : Prop where
  made : d = deltaL 0 (l.take i) ++ List.replicate (l.length - i) 0
  prev : p = (l.take i).getLast?.getD 0

theorem DeltaAt.start (l : List Int) : DeltaAt l 0 0 (List.replicate l.length 0) := ⟨by simp [deltaL], by simp⟩
theorem DeltaAt.next {l : List Int} {i : Nat} {p x : Int} {d : List Int} (h : DeltaAt l i p d) (hi : i < l.length) (hx : l.getD i 0 = x) : DeltaAt l (i + 1) x (d.set i (w64 (x - p))) := by
  have e : l.take (i + 1) = l.take i ++ [x] := by
    rw [List.take_add_one, List.getElem?_eq_getElem hi]
    simp only [List.getD, List.getElem?_eq_getElem hi, Option.getD_some] at hx
    simp [hx]
  have hlen : (deltaL 0 (l.take i)).length = i := by rw [delta_len, List.length_take]; omega
  refine ⟨?_, by rw [e]; simp⟩
  rw [h.made, e, delta_snoc, ← h.prev, show l.length - i = (l.length - (i + 1)) + 1 by omega, List.replicate_succ]
  have := set_mid (deltaL 0 (l.take i)) (0 : Int) (w64 (x - p)) (List.replicate (l.length - (i + 1)) 0)
  rw [hlen] at this
  exact this
theorem DeltaAt.len {l : List Int} {i : Nat} {p : Int} {d : List Int} (h : DeltaAt l i p d) (hi : i ≤ l.length) : d.length = l.length := by
  rw [h.made, List.length_append, delta_len, List.length_take, List.length_replicate]; omega
theorem DeltaAt.done {l : List Int} {i : Nat} {p : Int} {d : List Int} (h : DeltaAt l i p d) (hi : l.length ≤ i) : d = deltaL 0 l := by
  rw [h.made, List.take_of_length_le hi, show l.length - i = 0 by omega]; simp
theorem ints_set (d : List Int) (i : Nat) (x : Int) : (ints d).set i (.int .i64 x) = ints (d.set i x) := by simp [ints, List.map_set]

theorem sub_w64 (a b : Int) : IntKind.i64.wrap (a - b) = w64 (a - b) := by
  rw [IntKind.wrap_i64]; unfold w64; omega
theorem add_w64 (a b : Int) : IntKind.i64.wrap (a + b) = w64 (a + b) := by
  rw [IntKind.wrap_i64]; unfold w64; omega

set_option maxRecDepth 20000 in
set_option maxHeartbeats 2000000 in
theorem cDeltas_any (v : Value) (l : List Int) (w : World) (hv : IntsAt w v l) (hr : ∀ x ∈ l, InR x) (hl : l.length ≤ 65536) :
    Calls Tryz.prog 46 #[v] w fun e w' => ∃ v', e = .returned v' ∧ Own w' w.heap.size v' (bytesR (deltaL 0 l)) ∧ Below w.heap.size w w' := by
  have hlv := fun W => hv.len (ty := 3) W
  obtain ⟨wm, hmk, hownm, hbm⟩ := run_make_ints w l.length hl
  have hmk := Lib.hid hmk
  obtain ⟨sl, hsl⟩ : ∃ sl, Value.slice (some ⟨w.heap.size, 0, none⟩) l.length l.length = sl := ⟨_, rfl⟩
  rw [hsl] at hmk hownm
  clear hsl
  have hv := Lib.hid hv
  have hr := Lib.hid hr
  go_enter Tryz.func46, Tryz.ntmps46
  go_wp2_with (at_make; refine wpList_make_run rfl (.tmp 8) (.tmp 8) _ rfl rfl rfl hmk.out ?_)
  go_loopw [4, 12] (fun o t wr => ∃ (i : Nat) (p : Int) (d : List Int), t = .int .i64 i ∧ o = .int .i64 p ∧ i ≤ l.length ∧ OwnRow wr w.heap.size 3 sl (ints d) ∧ Hid (DeltaAt l i p d) ∧ Below w.heap.size w wr) (fun _ t _ => l.length - (intOf t).toNat)
  case atStart => exact ⟨0, 0, _, rfl, rfl, by omega, hownm, Lib.hid (DeltaAt.start l), hbm⟩
  case round =>
    obtain ⟨i, p, d, rfl, rfl, hi, hown, hso, hbel⟩ := hrel
    rcases Nat.lt_or_ge i l.length with hil | hil
    · obtain ⟨ad, ha, hac, hab⟩ := hv.out.index hil
      obtain ⟨x, hx⟩ : ∃ x, l.getD i 0 = x := ⟨_, rfl⟩
      rw [hx, ← hbel.cell (p := ad) hab] at hac
      obtain ⟨bd, hb, hbc, hbf, hb1, hb2, hset⟩ := hown.store elemI.ht elemI.hs (k := i) (by rw [ints_len, hso.out.len (by omega)]; exact hil)
      have hbs : ∃ u, wr.cell? bd = some (.int .i64 u) := by
        rw [hbc]
        refine ⟨d.getD i 0, ?_⟩
        have := hso.out.len (by omega)
        simp [ints, List.getD, List.getElem?_eq_getElem (show i < d.length by omega)]
      obtain ⟨u, hbs⟩ := hbs
      obtain ⟨D, hD⟩ : ∃ D, w64 (x - p) = D := ⟨_, rfl⟩
      have hsw : IntKind.i64.wrap (x - p) = D := by rw [sub_w64, hD]
      have hnext := Lib.hid (hso.out.next hil hx)
      obtain ⟨hown2, hbel2⟩ := hset (.int .i64 D)
      rw [ints_set] at hown2
      rw [hD] at hnext
      have hbel3 := hbel.trans hbel2
      clear hx hD hbc hset
      go_wp2
      go_roundw
      case rel => exact ⟨i + 1, x, d.set i D, by go_num, rfl, by omega, hown2, hnext, hbel3⟩
      case measure => simp [intOf]; omega
    · have hd : Hid (d = deltaL 0 l) := Lib.hid (hso.out.done hil)
      have hdl : d.length ≤ 65536 := by rw [hso.out.len hi]; exact hl
      go_wp2_with (go_at_call 47; refine (cRuns_any _ d _ hown.row (by rw [hd.out]; exact delta_in 0 l) hdl).mono ?_; rintro e' w2 ⟨v2, rfl, ho2, hb2⟩)
      go_ret
      exact ⟨_, rfl, by rw [← hd.out]; exact ho2.lower hbel.size, then_call hbel hb2⟩
end Go.Proofs.YthpgfnhecfgiaaaGreatDoor

namespace Go.Proofs.YthpgfnhecfgiaaaGreatDoor
open Go.RowKit Go.Sort
set_option maxRecDepth 20000

attribute [local go_sem] Oper.semAt_some

theorem encB_few : ∀ (rs : List RunT), (encB (rs.map (·.1.1))).length ≤ 10 * rs.length
  | [] => by simp [encB]
  | ⟨(k, x), hk⟩ :: r => by
    have ih := encB_few r
    dsimp only at hk
    have h1 := putL_len10 (n := k) (by omega)
    simp only [List.map_cons, encB, List.length_append, List.length_cons]
    omega

/-- What lies where the loop begins. -/
structure Begun (w W : World) (a : Option Addr) (n c Bs : Nat) (ini : List Nat) : Prop where
  box : ∃ v, Boxed W w.heap.size 22 v ∧ Own W w.heap.size v ini
  seq : Boxed W Bs 84 (.slice a n c)
  below : Below w.heap.size w W
  ne : w.heap.size < Bs

theorem begun_nil (w : World) (a : Option Addr) (n c : Nat) : Begun w ((w.alloc (.cells #[.slice none 0 0] 22)).alloc (.cells #[.slice a n c] 84)) a n c (w.heap.size + 1) [] := by
  have bO := Boxed.new w 22 (.slice none 0 0)
  have bN := Boxed.new (w.alloc (.cells #[.slice none 0 0] 22)) 84 (.slice a n c)
  rw [World.size_alloc] at bN
  exact ⟨⟨_, bO.alloc _, own_none _ _⟩, bN, ((Below.refl _ w).alloc (Nat.le_refl _) _).alloc (by simp) _, by omega⟩

theorem begun_put {w w1 : World} {A : Option Addr} {k j : Nat} {ini : List Nat} (hb1 : Below (w.alloc (.cells #[.slice none 0 0] 22)).heap.size (w.alloc (.cells #[.slice none 0 0] 22)) w1)
    (ho1 : Own w1 (w.alloc (.cells #[.slice none 0 0] 22)).heap.size (.slice A k j) ini) (a : Option Addr) (n c : Nat) :
    Begun w ((w1.setCell ⟨w.heap.size, 0, none⟩ (.slice A k j)).alloc (.cells #[.slice a n c] 84)) a n c w1.heap.size ini := by
  have bO : Boxed w1 w.heap.size 22 (.slice none 0 0) := (hb1.block _ (by simp)).trans (Boxed.new w 22 (.slice none 0 0))
  have hlo : Own w1 w.heap.size (.slice A k j) ini := ho1.lower (by simp)
  have hs := hb1.size
  rw [World.size_alloc] at hs
  have hsz : (w1.setCell ⟨w.heap.size, 0, none⟩ (.slice A k j)).heap.size = w1.heap.size := by simp [World.setCell]
  have bN := Boxed.new (w1.setCell ⟨w.heap.size, 0, none⟩ (.slice A k j)) 84 (.slice a n c)
  rw [hsz] at bN
  exact ⟨⟨_, (bO.set _).alloc _, World.ownsRow.alloc (World.ownsRow.kept hlo (grownBy_setCell' w1 w.heap.size _) (.inr (bO.not_row (by decide) hlo).symm)) _⟩, bN,
    ((below_box hb1).setCell (p := ⟨w.heap.size, 0, none⟩) (Nat.le_refl _) _).alloc (by rw [hsz]; omega) _, by omega⟩

/-- What stands ahead: 0, where the first is true. -/
def aheadB (l : List Bool) : List Nat := if l.head? = some true then putL 0 else []
theorem ahead_short (l : List Bool) : (aheadB l).length ≤ 10 := by
  unfold aheadB; split
  · exact putL_len10 (by omega)
  · simp

set_option maxRecDepth 20000 in
set_option maxHeartbeats 8000000 in
theorem cBools_any (v : Value) (l : List Bool) (w : World) (hv : TruthsAt w v l) (hl : l.length ≤ 65536) :
    Calls Tryz.prog 49 #[v] w fun e w' => ∃ v', e = .returned v' ∧ Own w' w.heap.size v' (bytesB l) ∧ Below w.heap.size w w' := by
  have hlv := fun W => hv.len (ty := 3) W
  have HW : (l.length = 0 ∧ Hid (aheadB l = [])) ∨ (0 < l.length ∧ ∃ ad x, (∀ W, (Instr.indexAt 84 v (.int .i64 0)).run Tryz.prog W = .ok (.pointer (some ad)) W) ∧ w.cell? ad = some (.bool x) ∧ ad.block < w.heap.size ∧ Hid (aheadB l = if x = true then putL 0 else [])) := by
    cases l with
    | nil => exact .inl ⟨rfl, Lib.hid rfl⟩
    | cons x t =>
      obtain ⟨ad, h1, h2, h3⟩ := hv.index (k := 0) (by simp)
      exact .inr ⟨by simp, ad, x, h1, by simpa using h2, h3, Lib.hid (by cases x <;> rfl)⟩
  obtain ⟨a, c, rfl, _⟩ := id hv
  rw [truths_len] at hv hlv HW ⊢
  refine (callsIn_wide (n := 3)).1 ?_
  refine callsIn_of_wp_marks Tryz.func49 rfl trivial ?_ rfl
  simp only [Tryz.ntmps49, List.size_toArray, List.length_cons, List.length_nil, Nat.reduceAdd, Nat.reduceSub, Array.replicate_succ, Array.replicate_zero, List.push_toArray, List.append_toArray, List.nil_append, List.cons_append]
  have hv := Lib.hid hv
  have hl := Lib.hid hl
  have c0 := hide (fun W => put_any 0 (by omega) W)
  rcases HW with ⟨h0, hh⟩ | ⟨h0, ad, x, hix, hcx, hab, hh⟩
  · have hq : decide (0 < l.length) = false := decide_eq_false (by omega)
    clear h0
    gi_wp2_with (refine ⟨trivial, ?_⟩; gi_at_call 79; refine (seqT_in Fence.wide _ trivial rfl _ _ _ _).mono ?_; rintro e w' ⟨rfl, rfl⟩)
    obtain ⟨W1, hW1⟩ : ∃ W1, (w.alloc (.cells #[.slice none 0 0] 22)).alloc (.cells #[.slice a l.length c] 84) = W1 := ⟨_, rfl⟩
    have hbg := begun_nil w a l.length c
    rw [hW1] at hbg ⊢
    rw [← hh.out] at hbg
    clear hW1
    obtain ⟨Bs, hBs⟩ : ∃ Bs, w.heap.size + 1 = Bs := ⟨_, rfl⟩
    rw [hBs] at hbg ⊢
    refine wpIn_rangeFunc_ownG (F := Fence.wide) rfl (by omega) (gf := 95) (lb := #[.pointer (some ⟨Bs, 0, none⟩)]) rfl trivial (enters_of Tryz.func95 (by kernel_rfl) rfl)
      (iterT_stops Fence.wide _ trivial rfl (by omega) Bs _ l hl.out w _ hv.out hbg.seq.lt hbg.below hbg.seq.cell)
      Save.trans (save_put hbg.below.size hbg.seq.lt) (Below.refl _ _) (fun _ => rfl)
      (fun pre W => ((∃ v, Boxed W w.heap.size 22 v ∧ W.ownsRow w.heap.size 5 1 v (aheadB l ++ encB (pre.map (·.1.1))).length (bvals (aheadB l ++ encB (pre.map (·.1.1)))) ∧ True) ∧ Below w.heap.size w W) ∧ Boxed W Bs 84 (.slice a l.length c))
      (fun _ _ _ => False)
      (own_row_from w (fun pre : List RunT => aheadB l ++ encB (pre.map (·.1.1))) (Nat.le_refl _) hbg.below.size hbg.seq.lt)
      (fun _ _ _ _ _ hs _ _ => hs)
      ⟨⟨(by obtain ⟨v0, h1, h2⟩ := hbg.box; exact ⟨v0, h1, by rw [show aheadB l ++ encB (([] : List RunT).map (·.1.1)) = aheadB l by simp [encB]]; exact h2, trivial⟩), hbg.below⟩, hbg.seq⟩
      ?_ ?assign ?body ?done ?stop
    case assign =>
      intro l x W K hK
      gi_wp2
      exact hK
    case body =>
      rintro lp pre ⟨⟨m, x⟩, hm⟩ W ⟨⟨⟨v, hv1, hrow, _⟩, hB⟩, hseq⟩ hlt
      dsimp only at hm
      have hmx : Tryz.prog.follows .mixedOrders = true := by kernel_rfl
      have haf : After w.heap.size w.heap.size Bs 84 (.slice a l.length c) W W v (aheadB l ++ encB (pre.map (·.1.1))) := ⟨hv1, hseq, hseq, hrow, KeepsOthers.refl _, Below.refl _ _, Nat.le_refl _, by have := hbg.ne; omega⟩
      have haf := haf.drew
      have hcv := haf.cell
      have c1 := hide (fun W => put_any m (by omega) W)
      have hwm : IntKind.u64.wrap (m : Int) = m := by rw [IntKind.wrap_u64]; omega
      have hen := encB_few pre
      have hah := ahead_short l
      have hl2 := hl.out
      have hm10 : (putL m).length ≤ 10 := putL_len10 (by omega)
      have hbd : ((aheadB l ++ encB (pre.map (·.1.1))).length + (putL m).length) * 8 ≤ 140737488355328 := by rw [List.length_append]; omega
      gi_wp2
      refine wpIn_region_any (by assumption) ?_
      change wpAnyIn _ _ _ _ _ _ _ _ _ (World.drew _)
      all_goals refine wpAnyIn_ready (rs := [0, 1]) (by decide +kernel) (by simp) (AllReadyIn.cons rfl (fun K hK => ?_) (AllReadyIn.cons rfl (fun K hK => ?_) AllReadyIn.nil))
      all_goals go_simp
      all_goals first
        | (refine hK _ _ ?_; clear hK K)
        | (refine ⟨trivial, ?_⟩; gi_at_call 21; refine (CallsIn.inRound lp (callsIn_wide.2 (c1.out _))).mono ?_; rintro e' w1 ⟨v1, rfl, ho1, hb1⟩; have haf := haf.call hb1; have hcv := haf.cell; have hx1 := putL_bytes ho1; dsimp only; refine hK _ _ ?_; clear hK K)
      all_goals first | (refine wpAnyIn_ready (rs := [1]) (by decide +kernel) (by simp) (AllReadyIn.cons rfl (fun K hK => ?_) AllReadyIn.nil)) | (refine wpAnyIn_ready (rs := [0, 2]) (by decide +kernel) (by simp) (AllReadyIn.cons rfl (fun K hK => ?_) (AllReadyIn.cons rfl (fun K hK => ?_) AllReadyIn.nil)))
      all_goals go_simp
      all_goals first
        | (refine hK _ _ ?_; clear hK K)
        | (refine ⟨trivial, ?_⟩; gi_at_call 21; refine (CallsIn.inRound lp (callsIn_wide.2 (c1.out _))).mono ?_; rintro e' w1 ⟨v1, rfl, ho1, hb1⟩; have haf := haf.call hb1; have hcv := haf.cell; have hx1 := putL_bytes ho1; dsimp only; refine hK _ _ ?_; clear hK K)
      all_goals first | (refine wpAnyIn_ready (rs := [2]) (by decide +kernel) (by simp) (AllReadyIn.cons rfl (fun K hK => ?_) AllReadyIn.nil)) | (refine wpAnyIn_ready (rs := [0, 3]) (by decide +kernel) (by simp) (AllReadyIn.cons rfl (fun K hK => ?_) (AllReadyIn.cons rfl (fun K hK => ?_) AllReadyIn.nil)))
      all_goals go_simp
      all_goals first
        | (refine hK _ _ ?_; clear hK K)
        | (refine ⟨trivial, ?_⟩; gi_at_call 21; refine (CallsIn.inRound lp (callsIn_wide.2 (c1.out _))).mono ?_; rintro e' w1 ⟨v1, rfl, ho1, hb1⟩; have haf := haf.call hb1; have hcv := haf.cell; have hx1 := putL_bytes ho1; dsimp only; refine hK _ _ ?_; clear hK K)
      all_goals first | (refine wpAnyIn_ready (rs := [3]) (by decide +kernel) (by simp) (AllReadyIn.cons rfl (fun K hK => ?_) AllReadyIn.nil)) | (refine wpAnyIn_ready (rs := [0]) (by decide +kernel) (by simp) (AllReadyIn.cons rfl (fun K hK => ?_) AllReadyIn.nil))
      all_goals go_simp
      all_goals first
        | (refine hK _ _ ?_; clear hK K)
        | (refine ⟨trivial, ?_⟩; gi_at_call 21; refine (CallsIn.inRound lp (callsIn_wide.2 (c1.out _))).mono ?_; rintro e' w1 ⟨v1, rfl, ho1, hb1⟩; have haf := haf.call hb1; have hcv := haf.cell; have hx1 := putL_bytes ho1; dsimp only; refine hK _ _ ?_; clear hK K)
      all_goals refine wpAnyIn_ready (rs := [4]) (by decide +kernel) (by simp) (AllReadyIn.cons rfl (fun K hK => ?_) AllReadyIn.nil)
      all_goals (obtain ⟨g2, n2, k2, w2, hr2, hcv, hfr, haf⟩ := haf.app (by decide) hx1 (putL_pos _) hbd 22; refine stepIn_append rfl (.tmp 19) (.tmp 22) _ rfl rfl rfl hr2 ?_; refine hK _ _ ?_; clear hK K)
      all_goals refine wpAnyIn_ready (rs := [5]) (by decide +kernel) (by simp) (AllReadyIn.cons rfl (fun K hK => ?_) AllReadyIn.nil)
      all_goals go_simp
      all_goals (refine hK _ _ ?_; clear hK K)
      all_goals refine wpAnyIn_done (by decide +kernel) ?_ _
      all_goals exact ⟨haf.keep.from _, haf.save, ⟨⟨_, haf.box, by rw [List.map_append, List.map_singleton, encB_snoc, ← List.append_assoc]; exact haf.own, trivial⟩, hB.trans haf.below⟩, haf.seq⟩
    case done =>
      rintro D ys W hD hys ⟨⟨⟨v, hv1, hrow, _⟩, hB⟩, _⟩ hK
      have hall : aheadB l ++ encB (ys.map (·.1.1)) = bytesB l := by
        rw [bytes_truths, ← hys, List.map_map]; rfl
      rw [hall] at hrow
      have hc := hv1.cell
      gi_wp2
      refine ⟨by simp, .inl ⟨_, _, rfl, run_takeDeferred hK, ?_⟩⟩
      exact ⟨_, results_tmp rfl _ _ _, v, rfl, ownsRow_putObj (show Own W w.heap.size v (bytesB l) from hrow) _ hK rfl, hB.trans (belowK_b (w := w) (Nat.le_refl _) W D _ _ (Nat.le_trans hbg.below.size hD) hK rfl rfl)⟩
    case stop =>
      rintro D c pre W _ _ h _
      exact h.elim
  · have hcx2 : (w.alloc (.cells #[.slice none 0 0] 22)).cell? ad = some (.bool x) := ((below_box1 w _).cell (p := ad) hab).trans hcx
    cases x
    · gi_wp2_with (refine ⟨trivial, ?_⟩; gi_at_call 79; refine (seqT_in Fence.wide _ trivial rfl _ _ _ _).mono ?_; rintro e w' ⟨rfl, rfl⟩)
      obtain ⟨W1, hW1⟩ : ∃ W1, (w.alloc (.cells #[.slice none 0 0] 22)).alloc (.cells #[.slice a l.length c] 84) = W1 := ⟨_, rfl⟩
      have hbg := begun_nil w a l.length c
      rw [hW1] at hbg ⊢
      rw [← show aheadB l = [] by rw [hh.out]; rfl] at hbg
      clear hW1
      obtain ⟨Bs, hBs⟩ : ∃ Bs, w.heap.size + 1 = Bs := ⟨_, rfl⟩
      rw [hBs] at hbg ⊢
      refine wpIn_rangeFunc_ownG (F := Fence.wide) rfl (by omega) (gf := 95) (lb := #[.pointer (some ⟨Bs, 0, none⟩)]) rfl trivial (enters_of Tryz.func95 (by kernel_rfl) rfl)
        (iterT_stops Fence.wide _ trivial rfl (by omega) Bs _ l hl.out w _ hv.out hbg.seq.lt hbg.below hbg.seq.cell)
        Save.trans (save_put hbg.below.size hbg.seq.lt) (Below.refl _ _) (fun _ => rfl)
        (fun pre W => ((∃ v, Boxed W w.heap.size 22 v ∧ W.ownsRow w.heap.size 5 1 v (aheadB l ++ encB (pre.map (·.1.1))).length (bvals (aheadB l ++ encB (pre.map (·.1.1)))) ∧ True) ∧ Below w.heap.size w W) ∧ Boxed W Bs 84 (.slice a l.length c))
        (fun _ _ _ => False)
        (own_row_from w (fun pre : List RunT => aheadB l ++ encB (pre.map (·.1.1))) (Nat.le_refl _) hbg.below.size hbg.seq.lt)
        (fun _ _ _ _ _ hs _ _ => hs)
        ⟨⟨(by obtain ⟨v0, h1, h2⟩ := hbg.box; exact ⟨v0, h1, by rw [show aheadB l ++ encB (([] : List RunT).map (·.1.1)) = aheadB l by simp [encB]]; exact h2, trivial⟩), hbg.below⟩, hbg.seq⟩
        ?_ ?assign ?body ?done ?stop
      case assign =>
        intro l x W K hK
        gi_wp2
        exact hK
      case body =>
        rintro lp pre ⟨⟨m, x⟩, hm⟩ W ⟨⟨⟨v, hv1, hrow, _⟩, hB⟩, hseq⟩ hlt
        dsimp only at hm
        have hmx : Tryz.prog.follows .mixedOrders = true := by kernel_rfl
        have haf : After w.heap.size w.heap.size Bs 84 (.slice a l.length c) W W v (aheadB l ++ encB (pre.map (·.1.1))) := ⟨hv1, hseq, hseq, hrow, KeepsOthers.refl _, Below.refl _ _, Nat.le_refl _, by have := hbg.ne; omega⟩
        have haf := haf.drew
        have hcv := haf.cell
        have c1 := hide (fun W => put_any m (by omega) W)
        have hwm : IntKind.u64.wrap (m : Int) = m := by rw [IntKind.wrap_u64]; omega
        have hen := encB_few pre
        have hah := ahead_short l
        have hl2 := hl.out
        have hm10 : (putL m).length ≤ 10 := putL_len10 (by omega)
        have hbd : ((aheadB l ++ encB (pre.map (·.1.1))).length + (putL m).length) * 8 ≤ 140737488355328 := by rw [List.length_append]; omega
        gi_wp2
        refine wpIn_region_any (by assumption) ?_
        change wpAnyIn _ _ _ _ _ _ _ _ _ (World.drew _)
        all_goals refine wpAnyIn_ready (rs := [0, 1]) (by decide +kernel) (by simp) (AllReadyIn.cons rfl (fun K hK => ?_) (AllReadyIn.cons rfl (fun K hK => ?_) AllReadyIn.nil))
        all_goals go_simp
        all_goals first
          | (refine hK _ _ ?_; clear hK K)
          | (refine ⟨trivial, ?_⟩; gi_at_call 21; refine (CallsIn.inRound lp (callsIn_wide.2 (c1.out _))).mono ?_; rintro e' w1 ⟨v1, rfl, ho1, hb1⟩; have haf := haf.call hb1; have hcv := haf.cell; have hx1 := putL_bytes ho1; dsimp only; refine hK _ _ ?_; clear hK K)
        all_goals first | (refine wpAnyIn_ready (rs := [1]) (by decide +kernel) (by simp) (AllReadyIn.cons rfl (fun K hK => ?_) AllReadyIn.nil)) | (refine wpAnyIn_ready (rs := [0, 2]) (by decide +kernel) (by simp) (AllReadyIn.cons rfl (fun K hK => ?_) (AllReadyIn.cons rfl (fun K hK => ?_) AllReadyIn.nil)))
        all_goals go_simp
        all_goals first
          | (refine hK _ _ ?_; clear hK K)
          | (refine ⟨trivial, ?_⟩; gi_at_call 21; refine (CallsIn.inRound lp (callsIn_wide.2 (c1.out _))).mono ?_; rintro e' w1 ⟨v1, rfl, ho1, hb1⟩; have haf := haf.call hb1; have hcv := haf.cell; have hx1 := putL_bytes ho1; dsimp only; refine hK _ _ ?_; clear hK K)
        all_goals first | (refine wpAnyIn_ready (rs := [2]) (by decide +kernel) (by simp) (AllReadyIn.cons rfl (fun K hK => ?_) AllReadyIn.nil)) | (refine wpAnyIn_ready (rs := [0, 3]) (by decide +kernel) (by simp) (AllReadyIn.cons rfl (fun K hK => ?_) (AllReadyIn.cons rfl (fun K hK => ?_) AllReadyIn.nil)))
        all_goals go_simp
        all_goals first
          | (refine hK _ _ ?_; clear hK K)
          | (refine ⟨trivial, ?_⟩; gi_at_call 21; refine (CallsIn.inRound lp (callsIn_wide.2 (c1.out _))).mono ?_; rintro e' w1 ⟨v1, rfl, ho1, hb1⟩; have haf := haf.call hb1; have hcv := haf.cell; have hx1 := putL_bytes ho1; dsimp only; refine hK _ _ ?_; clear hK K)
        all_goals first | (refine wpAnyIn_ready (rs := [3]) (by decide +kernel) (by simp) (AllReadyIn.cons rfl (fun K hK => ?_) AllReadyIn.nil)) | (refine wpAnyIn_ready (rs := [0]) (by decide +kernel) (by simp) (AllReadyIn.cons rfl (fun K hK => ?_) AllReadyIn.nil))
        all_goals go_simp
        all_goals first
          | (refine hK _ _ ?_; clear hK K)
          | (refine ⟨trivial, ?_⟩; gi_at_call 21; refine (CallsIn.inRound lp (callsIn_wide.2 (c1.out _))).mono ?_; rintro e' w1 ⟨v1, rfl, ho1, hb1⟩; have haf := haf.call hb1; have hcv := haf.cell; have hx1 := putL_bytes ho1; dsimp only; refine hK _ _ ?_; clear hK K)
        all_goals refine wpAnyIn_ready (rs := [4]) (by decide +kernel) (by simp) (AllReadyIn.cons rfl (fun K hK => ?_) AllReadyIn.nil)
        all_goals (obtain ⟨g2, n2, k2, w2, hr2, hcv, hfr, haf⟩ := haf.app (by decide) hx1 (putL_pos _) hbd 22; refine stepIn_append rfl (.tmp 19) (.tmp 22) _ rfl rfl rfl hr2 ?_; refine hK _ _ ?_; clear hK K)
        all_goals refine wpAnyIn_ready (rs := [5]) (by decide +kernel) (by simp) (AllReadyIn.cons rfl (fun K hK => ?_) AllReadyIn.nil)
        all_goals go_simp
        all_goals (refine hK _ _ ?_; clear hK K)
        all_goals refine wpAnyIn_done (by decide +kernel) ?_ _
        all_goals exact ⟨haf.keep.from _, haf.save, ⟨⟨_, haf.box, by rw [List.map_append, List.map_singleton, encB_snoc, ← List.append_assoc]; exact haf.own, trivial⟩, hB.trans haf.below⟩, haf.seq⟩
      case done =>
        rintro D ys W hD hys ⟨⟨⟨v, hv1, hrow, _⟩, hB⟩, _⟩ hK
        have hall : aheadB l ++ encB (ys.map (·.1.1)) = bytesB l := by
          rw [bytes_truths, ← hys, List.map_map]; rfl
        rw [hall] at hrow
        have hc := hv1.cell
        gi_wp2
        refine ⟨by simp, .inl ⟨_, _, rfl, run_takeDeferred hK, ?_⟩⟩
        exact ⟨_, results_tmp rfl _ _ _, v, rfl, ownsRow_putObj (show Own W w.heap.size v (bytesB l) from hrow) _ hK rfl, hB.trans (belowK_b (w := w) (Nat.le_refl _) W D _ _ (Nat.le_trans hbg.below.size hD) hK rfl rfl)⟩
      case stop =>
        rintro D c pre W _ _ h _
        exact h.elim
    · gi_wp2_with (refine ⟨trivial, ?_⟩; first | (gi_at_call 79; refine (seqT_in Fence.wide _ trivial rfl _ _ _ _).mono ?_; rintro e w' ⟨rfl, rfl⟩) | (gi_at_call 21; refine (callsIn_wide.2 (c0.out _)).mono ?_; rintro e' w1 ⟨v1, rfl, ho1, hb1⟩; obtain ⟨A1, n1, k1, rfl⟩ : ∃ A1 n1 k1, v1 = .slice A1 n1 k1 := (by obtain ⟨A1, k1, h1, _⟩ := (putL_bytes ho1).row; exact ⟨A1, _, k1, h1⟩); have hb0 : Boxed w1 w.heap.size 22 (.slice none 0 0) := (hb1.block _ (by simp)).trans (Boxed.new w 22 (.slice none 0 0)); have hc1 := hb0.cell; have hf1 := hb0.frozen))
      obtain ⟨W1, hW1⟩ : ∃ W1, (w1.setCell ⟨w.heap.size, 0, none⟩ (.slice A1 n1 k1)).alloc (.cells #[.slice a l.length c] 84) = W1 := ⟨_, rfl⟩
      have hbg := begun_put hb1 ho1 a l.length c
      rw [hW1] at hbg ⊢
      rw [← show aheadB l = putL 0 by rw [hh.out]; rfl] at hbg
      clear hW1
      obtain ⟨Bs, hBs⟩ : ∃ Bs, w1.heap.size = Bs := ⟨_, rfl⟩
      rw [hBs] at hbg ⊢
      refine wpIn_rangeFunc_ownG (F := Fence.wide) rfl (by omega) (gf := 95) (lb := #[.pointer (some ⟨Bs, 0, none⟩)]) rfl trivial (enters_of Tryz.func95 (by kernel_rfl) rfl)
        (iterT_stops Fence.wide _ trivial rfl (by omega) Bs _ l hl.out w _ hv.out hbg.seq.lt hbg.below hbg.seq.cell)
        Save.trans (save_put hbg.below.size hbg.seq.lt) (Below.refl _ _) (fun _ => rfl)
        (fun pre W => ((∃ v, Boxed W w.heap.size 22 v ∧ W.ownsRow w.heap.size 5 1 v (aheadB l ++ encB (pre.map (·.1.1))).length (bvals (aheadB l ++ encB (pre.map (·.1.1)))) ∧ True) ∧ Below w.heap.size w W) ∧ Boxed W Bs 84 (.slice a l.length c))
        (fun _ _ _ => False)
        (own_row_from w (fun pre : List RunT => aheadB l ++ encB (pre.map (·.1.1))) (Nat.le_refl _) hbg.below.size hbg.seq.lt)
        (fun _ _ _ _ _ hs _ _ => hs)
        ⟨⟨(by obtain ⟨v0, h1, h2⟩ := hbg.box; exact ⟨v0, h1, by rw [show aheadB l ++ encB (([] : List RunT).map (·.1.1)) = aheadB l by simp [encB]]; exact h2, trivial⟩), hbg.below⟩, hbg.seq⟩
        ?_ ?assign ?body ?done ?stop
      case assign =>
        intro l x W K hK
        gi_wp2
        exact hK
      case body =>
        rintro lp pre ⟨⟨m, x⟩, hm⟩ W ⟨⟨⟨v, hv1, hrow, _⟩, hB⟩, hseq⟩ hlt
        dsimp only at hm
        have hmx : Tryz.prog.follows .mixedOrders = true := by kernel_rfl
        have haf : After w.heap.size w.heap.size Bs 84 (.slice a l.length c) W W v (aheadB l ++ encB (pre.map (·.1.1))) := ⟨hv1, hseq, hseq, hrow, KeepsOthers.refl _, Below.refl _ _, Nat.le_refl _, by have := hbg.ne; omega⟩
        have haf := haf.drew
        have hcv := haf.cell
        have c1 := hide (fun W => put_any m (by omega) W)
        have hwm : IntKind.u64.wrap (m : Int) = m := by rw [IntKind.wrap_u64]; omega
        have hen := encB_few pre
        have hah := ahead_short l
        have hl2 := hl.out
        have hm10 : (putL m).length ≤ 10 := putL_len10 (by omega)
        have hbd : ((aheadB l ++ encB (pre.map (·.1.1))).length + (putL m).length) * 8 ≤ 140737488355328 := by rw [List.length_append]; omega
        gi_wp2
        refine wpIn_region_any (by assumption) ?_
        change wpAnyIn _ _ _ _ _ _ _ _ _ (World.drew _)
        all_goals refine wpAnyIn_ready (rs := [0, 1]) (by decide +kernel) (by simp) (AllReadyIn.cons rfl (fun K hK => ?_) (AllReadyIn.cons rfl (fun K hK => ?_) AllReadyIn.nil))
        all_goals go_simp
        all_goals first
          | (refine hK _ _ ?_; clear hK K)
          | (refine ⟨trivial, ?_⟩; gi_at_call 21; refine (CallsIn.inRound lp (callsIn_wide.2 (c1.out _))).mono ?_; rintro e' w1 ⟨v1, rfl, ho1, hb1⟩; have haf := haf.call hb1; have hcv := haf.cell; have hx1 := putL_bytes ho1; dsimp only; refine hK _ _ ?_; clear hK K)
        all_goals first | (refine wpAnyIn_ready (rs := [1]) (by decide +kernel) (by simp) (AllReadyIn.cons rfl (fun K hK => ?_) AllReadyIn.nil)) | (refine wpAnyIn_ready (rs := [0, 2]) (by decide +kernel) (by simp) (AllReadyIn.cons rfl (fun K hK => ?_) (AllReadyIn.cons rfl (fun K hK => ?_) AllReadyIn.nil)))
        all_goals go_simp
        all_goals first
          | (refine hK _ _ ?_; clear hK K)
          | (refine ⟨trivial, ?_⟩; gi_at_call 21; refine (CallsIn.inRound lp (callsIn_wide.2 (c1.out _))).mono ?_; rintro e' w1 ⟨v1, rfl, ho1, hb1⟩; have haf := haf.call hb1; have hcv := haf.cell; have hx1 := putL_bytes ho1; dsimp only; refine hK _ _ ?_; clear hK K)
        all_goals first | (refine wpAnyIn_ready (rs := [2]) (by decide +kernel) (by simp) (AllReadyIn.cons rfl (fun K hK => ?_) AllReadyIn.nil)) | (refine wpAnyIn_ready (rs := [0, 3]) (by decide +kernel) (by simp) (AllReadyIn.cons rfl (fun K hK => ?_) (AllReadyIn.cons rfl (fun K hK => ?_) AllReadyIn.nil)))
        all_goals go_simp
        all_goals first
          | (refine hK _ _ ?_; clear hK K)
          | (refine ⟨trivial, ?_⟩; gi_at_call 21; refine (CallsIn.inRound lp (callsIn_wide.2 (c1.out _))).mono ?_; rintro e' w1 ⟨v1, rfl, ho1, hb1⟩; have haf := haf.call hb1; have hcv := haf.cell; have hx1 := putL_bytes ho1; dsimp only; refine hK _ _ ?_; clear hK K)
        all_goals first | (refine wpAnyIn_ready (rs := [3]) (by decide +kernel) (by simp) (AllReadyIn.cons rfl (fun K hK => ?_) AllReadyIn.nil)) | (refine wpAnyIn_ready (rs := [0]) (by decide +kernel) (by simp) (AllReadyIn.cons rfl (fun K hK => ?_) AllReadyIn.nil))
        all_goals go_simp
        all_goals first
          | (refine hK _ _ ?_; clear hK K)
          | (refine ⟨trivial, ?_⟩; gi_at_call 21; refine (CallsIn.inRound lp (callsIn_wide.2 (c1.out _))).mono ?_; rintro e' w1 ⟨v1, rfl, ho1, hb1⟩; have haf := haf.call hb1; have hcv := haf.cell; have hx1 := putL_bytes ho1; dsimp only; refine hK _ _ ?_; clear hK K)
        all_goals refine wpAnyIn_ready (rs := [4]) (by decide +kernel) (by simp) (AllReadyIn.cons rfl (fun K hK => ?_) AllReadyIn.nil)
        all_goals (obtain ⟨g2, n2, k2, w2, hr2, hcv, hfr, haf⟩ := haf.app (by decide) hx1 (putL_pos _) hbd 22; refine stepIn_append rfl (.tmp 19) (.tmp 22) _ rfl rfl rfl hr2 ?_; refine hK _ _ ?_; clear hK K)
        all_goals refine wpAnyIn_ready (rs := [5]) (by decide +kernel) (by simp) (AllReadyIn.cons rfl (fun K hK => ?_) AllReadyIn.nil)
        all_goals go_simp
        all_goals (refine hK _ _ ?_; clear hK K)
        all_goals refine wpAnyIn_done (by decide +kernel) ?_ _
        all_goals exact ⟨haf.keep.from _, haf.save, ⟨⟨_, haf.box, by rw [List.map_append, List.map_singleton, encB_snoc, ← List.append_assoc]; exact haf.own, trivial⟩, hB.trans haf.below⟩, haf.seq⟩
      case done =>
        rintro D ys W hD hys ⟨⟨⟨v, hv1, hrow, _⟩, hB⟩, _⟩ hK
        have hall : aheadB l ++ encB (ys.map (·.1.1)) = bytesB l := by
          rw [bytes_truths, ← hys, List.map_map]; rfl
        rw [hall] at hrow
        have hc := hv1.cell
        gi_wp2
        refine ⟨by simp, .inl ⟨_, _, rfl, run_takeDeferred hK, ?_⟩⟩
        exact ⟨_, results_tmp rfl _ _ _, v, rfl, ownsRow_putObj (show Own W w.heap.size v (bytesB l) from hrow) _ hK rfl, hB.trans (belowK_b (w := w) (Nat.le_refl _) W D _ _ (Nat.le_trans hbg.below.size hD) hK rfl rfl)⟩
      case stop =>
        rintro D c pre W _ _ h _
        exact h.elim
end Go.Proofs.YthpgfnhecfgiaaaGreatDoor
