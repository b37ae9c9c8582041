/-
  A list's runs, one after another: the iterator that the code makes of a list.
-/
import Derived.Test.YtdonbgejnllhlaaCcNum
import Derived.Test.YtdonbgejnllhlaaCoBools
import Derived.RangeFuncNested
import Derived.RangeFuncBox
import Derived.RangeFuncBound
import Derived.RangeFuncCalls
import Derived.RangeFuncLeaves
import Derived.Shelf.Abstract
import Derived.Shelf.RegionOpen
import Derived.WalkKit
import Derived.OwnWalkIn
import Derived.TacticsInMore
import Derived.LoopNIn
import Derived.LoopIn
namespace Go.Proofs.Ytdonbgejnllhlaa
open Go.RowKit Go.Sort

attribute [local go_sem] Oper.semAt_some

/-- What a round keeps: whatever lay below n, and the iterator's box. -/
structure Save (n Bs : Nat) (W W' : World) : Prop where
  below : Below n W W'
  seq : W'.heap[Bs]? = W.heap[Bs]?

section
variable {n Bs : Nat} {W W' W'' : World}
theorem Save.refl (n Bs : Nat) (W : World) : Save n Bs W W := ⟨Below.refl _ _, rfl⟩
theorem Save.trans (h : Save n Bs W W') (k : Save n Bs W' W'') : Save n Bs W W'' := ⟨h.below.trans k.below, k.seq.trans h.seq⟩
theorem save_put {w : World} (hn : n ≤ w.heap.size) (hB : Bs < w.heap.size) (W : World) (l : Nat) (o o' : Obj) (hl : w.heap.size ≤ l) (h : W.heap[l]? = some o) (h1 : o.isCells = false) (h2 : o.isWalk = false) : Save n Bs W (W.putObj l o') :=
  ⟨belowK_b hn W l o o' hl h h1 h2, World.putObj_heap_other (by omega)⟩
end

/-- What an iterator over a list hands on: how many, of which. -/
abbrev RunI := { p : Nat × Int // p.1 ≤ 65536 ∧ InR p.2 }
abbrev RunT := { p : Nat × Bool // p.1 ≤ 65536 }
abbrev encI (p : RunI) : Array Value := #[.int .i64 p.1.2, .int .i64 (p.1.1 : Int)]
abbrev encT (p : RunT) : Array Value := #[.bool p.1.2, .int .i64 (p.1.1 : Int)]

theorem run_pieceR {l : List Int} {i k m : Nat} {x : Int} (hk : k = i + m) (hm : 1 ≤ m) (hkl : k ≤ l.length) (hall : ∀ j, i ≤ j → j < k → l.getD j 0 = x) (hend : k = l.length ∨ l.getD k 0 ≠ x) :
    runsL (l.drop i) = (m, x) :: runsL (l.drop k) := by
  subst hk
  obtain ⟨m', rfl⟩ : ∃ m', m = m' + 1 := ⟨m - 1, by omega⟩
  rw [drop_piece (m' + 1) i l x hkl hall]
  refine runs_rep ?_ m'
  intro y t' ht
  rcases hend with h | h
  · rw [List.drop_eq_nil_of_le (by omega)] at ht; cases ht
  · have hlt : i + (m' + 1) < l.length := by
      rcases Nat.lt_or_ge (i + (m' + 1)) l.length with h' | h'
      · exact h'
      · rw [List.drop_eq_nil_of_le h'] at ht; cases ht
    rw [List.drop_eq_getElem_cons hlt] at ht
    injection ht with h1 _
    simp only [List.getD, List.getElem?_eq_getElem hlt, Option.getD_some] at h
    rw [← h1]; exact h

/-- What has come of a list's runs, f values in all, and i values looked at. -/
structure Come (l : List Int) (pre : List RunI) (f i : Nat) : Prop where
  runs : runsL l = pre.map (·.1) ++ runsL (l.drop f)
  few : pre.length ≤ f
  le : f ≤ i
  top : i ≤ l.length
  same : i < l.length → ∀ j, f ≤ j → j ≤ i → l.getD j 0 = l.getD i 0
  all : l.length ≤ i → f = i

theorem Come.start (l : List Int) : Come l [] 0 0 := ⟨by simp, by simp, by omega, by omega, fun _ j h1 h2 => by rw [show j = 0 by omega], fun h => rfl⟩

theorem Come.goOn {l : List Int} {pre : List RunI} {f i : Nat} (h : Come l pre f i) (hi : i + 1 < l.length) (he : l.getD (i + 1) 0 = l.getD i 0) : Come l pre f (i + 1) :=
  ⟨h.runs, h.few, by have := h.le; omega, by omega, fun _ j h1 h2 => by
    rcases Nat.lt_or_ge j (i + 1) with h3 | h3
    · rw [he]; exact h.same (by omega) j h1 (by omega)
    · rw [show j = i + 1 by omega], fun h4 => by omega⟩

theorem Come.turn {l : List Int} {pre : List RunI} {f i : Nat} (h : Come l pre f i) (hi : i < l.length) (he : i + 1 = l.length ∨ l.getD (i + 1) 0 ≠ l.getD i 0) {x : RunI} (hx : x.1 = (i + 1 - f, l.getD i 0)) : Come l (pre ++ [x]) (i + 1) (i + 1) := by
  have hle := h.le
  have hp := run_pieceR (l := l) (i := f) (k := i + 1) (m := i + 1 - f) (x := l.getD i 0) (by omega) (by omega) (by omega) (fun j h1 h2 => h.same hi j h1 (by omega)) he
  refine ⟨?_, ?_, by omega, by omega, fun _ j h1 h2 => by rw [show j = i + 1 by omega], fun _ => rfl⟩
  · rw [h.runs, hp, List.map_append, List.append_assoc]; simp [hx]
  · have := h.few; simp; omega

set_option maxRecDepth 20000 in
set_option maxHeartbeats 2000000 in
/-- The iterator over a list of integers. -/
theorem iterI_in (F : Fence) (n : Nat) (hf : F.fn 38) (hro : F.round = none) (hn : 1 ≤ n) (lp Bs : Nat) (v : Value) (l : List Int) (J Jx : List RunI → World → Prop) (hl : l.length ≤ 65536) (hr : ∀ x ∈ l, InR x)
    (w0 : World) (hv : IntsAt w0 v l)
    (hY : ∀ pre x W, J pre W → pre.length < l.length → YieldAt F (n - 1) Try.prog lp (encI x) W fun e W' =>
      (e = .returned (.bool true) ∧ J (pre ++ [x]) W' ∧ Save w0.heap.size Bs W W') ∨ (e = .returned (.bool false) ∧ Jx (pre ++ [x]) W'))
    (W : World) (hb0 : Below w0.heap.size w0 W) (hc : W.cell? ⟨Bs, 0, none⟩ = some v) (h0 : J [] W) :
    CallsIn F n Try.prog 38 #[.func (.yield lp) #[] #[], .pointer (some ⟨Bs, 0, none⟩)] W fun e W' => (∃ u, e = .returned u) ∧
      ((∃ ys, ys.map (·.1) = runsL l ∧ J ys W') ∨ (∃ pre, True ∧ Jx pre W')) := by
  have hlv := fun W => hv.len (ty := 3) W
  have hv := Lib.hid hv
  have hr := Lib.hid hr
  have hY := Lib.hid hY
  refine callsIn_of_wp Try.func38 rfl hf ?_ hro
  simp only [Try.ntmps38, List.size_toArray, List.length_cons, List.length_nil, Nat.reduceAdd, Nat.reduceSub, Array.replicate_succ, Array.replicate_zero, List.push_toArray, List.append_toArray, List.nil_append, List.cons_append]
  gi_wp2
  gi_loopw [3, 9] (fun f i wr => ∃ (pre : List RunI) (fN iN : Nat), f = .int .i64 fN ∧ i = .int .i64 iN ∧ fN ≤ iN ∧ iN ≤ l.length ∧ Hid (Come l pre fN iN) ∧ Hid (J pre wr) ∧ Save w0.heap.size Bs W wr)
    (fun _ i _ => l.length - (intOf i).toNat)
  case atStart => exact ⟨[], 0, 0, rfl, rfl, by omega, by omega, Lib.hid (Come.start l), Lib.hid h0, Save.refl _ _ _⟩
  case round =>
    obtain ⟨pre, f, i, rfl, rfl, hfi, hil, hcome, hJ, hsv⟩ := hrel
    have hcr : wr.cell? ⟨Bs, 0, none⟩ = some v := (World.cell?_of_block hsv.seq).trans hc
    rcases Nat.lt_or_ge i l.length with hlt | hge
    · obtain ⟨ad, ha, hac, hab⟩ := hv.out.index hlt
      obtain ⟨x, hx⟩ : ∃ x, l.getD i 0 = x := ⟨_, rfl⟩
      have hcell : ∀ (p : Addr) (u : Value), p.block < w0.heap.size → w0.cell? p = some u → wr.cell? p = some u := fun p u h1 h2 =>
        (hsv.below.cell h1).trans ((hb0.cell h1).trans h2)
      have hacr := hcell ad _ hab hac
      rw [hx] at hacr
      clear hac
      have hcell := Lib.hid hcell
      by_cases hgo : i + 1 < l.length ∧ l.getD (i + 1) 0 = x
      · obtain ⟨h1, h2⟩ := hgo
        obtain ⟨bd, hb, hbc, hbb⟩ := hv.out.index h1
        have hbcr := hcell.out bd _ hbb hbc
        rw [h2] at hbcr
        clear hbc
        simp only [Int.natCast_add, Int.natCast_one] at hb
        have hnext := Lib.hid (hcome.out.goOn h1 (by rw [h2, hx]))
        have hx := Lib.hid hx
        have h2 := Lib.hid h2
        gi_wp2
        go_roundw
        case rel => exact ⟨pre, f, i + 1, rfl, by go_num, by omega, by omega, hnext, hJ, hsv⟩
        case measure => simp [intOf]; omega
      · have he : i + 1 = l.length ∨ l.getD (i + 1) 0 ≠ l.getD i 0 := by
          rcases Nat.lt_or_ge (i + 1) l.length with h | h
          · exact .inr (fun e => hgo ⟨h, by rw [e, hx]⟩)
          · exact .inl (by omega)
        have hxr : InR x := by
          rw [← hx]
          simp only [List.getD, List.getElem?_eq_getElem hlt, Option.getD_some]
          exact hr.out _ (List.getElem_mem hlt)
        obtain ⟨fn, tmps, assign, body, hy, hR⟩ := hY.out pre ⟨(i + 1 - f, x), by omega, hxr⟩ wr hJ.out (by have := hcome.out.few; omega)
        dsimp only [encI] at hy
        rw [show ((i + 1 - f : Nat) : Int) = (i : Int) + 1 - f by omega] at hy
        have hnext := Lib.hid (hcome.out.turn hlt he (x := ⟨(i + 1 - f, x), by omega, hxr⟩) (by rw [hx]))
        have HW : (i + 1 < l.length ∧ ∃ bd y, (∀ W, (Instr.indexAt 22 v (.int .i64 ((i : Int) + 1))).run Try.prog W = .ok (.pointer (some bd)) W) ∧ wr.cell? bd = some (.int .i64 y) ∧ (y == x) = false ∧ Hid (y ≠ x)) ∨ (l.length ≤ i + 1 ∧ decide ((i : Int) + 1 < l.length) = false) := by
          rcases Nat.lt_or_ge (i + 1) l.length with h | h
          · obtain ⟨bd, hb, hbc, hbb⟩ := hv.out.index h
            have hyx : l.getD (i + 1) 0 ≠ x := fun e => hgo ⟨h, e⟩
            simp only [Int.natCast_add, Int.natCast_one] at hb
            exact .inl ⟨h, bd, _, hb, hcell.out bd _ hbb hbc, beq_false_of_ne hyx, Lib.hid hyx⟩
          · exact .inr ⟨h, decide_eq_false (by omega)⟩
        have hx := Lib.hid hx
        clear hgo he hcome
        rcases HW with ⟨h1, bd, y, hb, hbc, hq, hyx⟩ | ⟨h1, hq⟩
        all_goals
          gi_wp2
          refine hR.mono ?_
          rintro e W3 (⟨rfl, hJ3, hk3⟩ | ⟨rfl, hJx3⟩)
          · have hJ3 := Lib.hid hJ3
            gi_wp2
            go_roundw
            case rel => exact ⟨_, i + 1, i + 1, by go_num, by go_num, by omega, by omega, hnext, hJ3, hsv.trans hk3⟩
            case measure => simp [intOf]; omega
          · gi_wp2
            refine bodyPost_ret (results_none rfl _ _ _) rfl ?_
            exact ⟨⟨_, rfl⟩, .inr ⟨_, trivial, hJx3⟩⟩
    · have hd : Hid (pre.map (·.1) = runsL l) := Lib.hid (by
        have h1 := hcome.out.runs
        have h2 := hcome.out.all hge
        rw [h1, List.drop_eq_nil_of_le (by omega)]; simp [runsL])
      gi_wp2
      go_end0
      exact ⟨⟨_, rfl⟩, .inl ⟨pre, hd.out, hJ.out⟩⟩

set_option maxHeartbeats 1000000 in
/-- What makes it: the list in a box. -/
theorem seqI_in (F : Fence) (n : Nat) (hf : F.fn 25) (hro : F.round = none) (a : Option Addr) (len cap : Nat) (w : World) :
    CallsIn F n Try.prog 25 #[.slice a len cap] w fun e w' => e = .returned (.func (.func 38) #[] #[.pointer (some ⟨w.heap.size, 0, none⟩)]) ∧ w' = w.alloc (.cells #[.slice a len cap] 22) := by
  refine callsIn_of_wp Try.func25 rfl hf ?_ hro
  simp only [Try.ntmps25, List.size_toArray, List.length_cons, List.length_nil, Nat.reduceAdd, Nat.reduceSub, Array.replicate_succ, Array.replicate_zero, List.push_toArray, List.append_toArray, List.nil_append, List.cons_append]
  gi_wp2
  go_ret
  exact ⟨rfl, rfl⟩

theorem iterI_stops (F : Fence) (n : Nat) (hf : F.fn 38) (hro : F.round = none) (hn : 1 ≤ n) (Bs : Nat) (v : Value) (l : List Int) (hl : l.length ≤ 65536) (hr : ∀ x ∈ l, InR x) (w0 w : World) (hv : IntsAt w0 v l)
    (hBs : Bs < w.heap.size) (h0 : Below w0.heap.size w0 w) (hc : w.cell? ⟨Bs, 0, none⟩ = some v) :
    SeqStopsK F n Try.prog 38 #[.pointer (some ⟨Bs, 0, none⟩)] encI (Save w0.heap.size Bs) (fun ys => ys.map (·.1) = runsL l) (fun _ => True) l.length w := fun lp J Jx W hW _ _ hY hJ0 =>
  iterI_in F n hf hro hn lp Bs v l J Jx hl hr w0 hv hY W (h0.trans (hW.mono h0.size)) ((hW.cell (p := ⟨Bs, 0, none⟩) hBs).trans hc) hJ0

theorem run_pieceT {l : List Bool} {i k m : Nat} {x : Bool} (hk : k = i + m) (hm : 1 ≤ m) (hkl : k ≤ l.length) (hall : ∀ j, i ≤ j → j < k → l.getD j false = x) (hend : k = l.length ∨ l.getD k false ≠ x) :
    runsT (l.drop i) = (m, x) :: runsT (l.drop k) := by
  subst hk
  obtain ⟨m', rfl⟩ : ∃ m', m = m' + 1 := ⟨m - 1, by omega⟩
  rw [drop_pieceB (m' + 1) i l x hkl hall]
  refine runsT_rep ?_ m'
  intro y t' ht
  rcases hend with h | h
  · rw [List.drop_eq_nil_of_le (by omega)] at ht; cases ht
  · have hlt : i + (m' + 1) < l.length := by
      rcases Nat.lt_or_ge (i + (m' + 1)) l.length with h' | h'
      · exact h'
      · rw [List.drop_eq_nil_of_le h'] at ht; cases ht
    rw [List.drop_eq_getElem_cons hlt] at ht
    injection ht with h1 _
    simp only [List.getD, List.getElem?_eq_getElem hlt, Option.getD_some] at h
    rw [← h1]; exact h

/-- What has come (truths) of a list's runs, f values in all, and i values looked at. -/
structure ComeT (l : List Bool) (pre : List RunT) (f i : Nat) : Prop where
  runs : runsT l = pre.map (·.1) ++ runsT (l.drop f)
  few : pre.length ≤ f
  le : f ≤ i
  top : i ≤ l.length
  same : i < l.length → ∀ j, f ≤ j → j ≤ i → l.getD j false = l.getD i false
  all : l.length ≤ i → f = i

theorem ComeT.start (l : List Bool) : ComeT l [] 0 0 := ⟨by simp, by simp, by omega, by omega, fun _ j h1 h2 => by rw [show j = 0 by omega], fun h => rfl⟩

theorem ComeT.goOn {l : List Bool} {pre : List RunT} {f i : Nat} (h : ComeT l pre f i) (hi : i + 1 < l.length) (he : l.getD (i + 1) false = l.getD i false) : ComeT l pre f (i + 1) :=
  ⟨h.runs, h.few, by have := h.le; omega, by omega, fun _ j h1 h2 => by
    rcases Nat.lt_or_ge j (i + 1) with h3 | h3
    · rw [he]; exact h.same (by omega) j h1 (by omega)
    · rw [show j = i + 1 by omega], fun h4 => by omega⟩

theorem ComeT.turn {l : List Bool} {pre : List RunT} {f i : Nat} (h : ComeT l pre f i) (hi : i < l.length) (he : i + 1 = l.length ∨ l.getD (i + 1) false ≠ l.getD i false) {x : RunT} (hx : x.1 = (i + 1 - f, l.getD i false)) : ComeT l (pre ++ [x]) (i + 1) (i + 1) := by
  have hle := h.le
  have hp := run_pieceT (l := l) (i := f) (k := i + 1) (m := i + 1 - f) (x := l.getD i false) (by omega) (by omega) (by omega) (fun j h1 h2 => h.same hi j h1 (by omega)) he
  refine ⟨?_, ?_, by omega, by omega, fun _ j h1 h2 => by rw [show j = i + 1 by omega], fun _ => rfl⟩
  · rw [h.runs, hp, List.map_append, List.append_assoc]; simp [hx]
  · have := h.few; simp; omega

set_option maxRecDepth 20000 in
set_option maxHeartbeats 2000000 in
/-- The iterator over a list of integers. -/
theorem iterT_in (F : Fence) (n : Nat) (hf : F.fn 39) (hro : F.round = none) (hn : 1 ≤ n) (lp Bs : Nat) (v : Value) (l : List Bool) (J Jx : List RunT → World → Prop) (hl : l.length ≤ 65536)
    (w0 : World) (hv : TruthsAt w0 v l)
    (hY : ∀ pre x W, J pre W → pre.length < l.length → YieldAt F (n - 1) Try.prog lp (encT x) W fun e W' =>
      (e = .returned (.bool true) ∧ J (pre ++ [x]) W' ∧ Save w0.heap.size Bs W W') ∨ (e = .returned (.bool false) ∧ Jx (pre ++ [x]) W'))
    (W : World) (hb0 : Below w0.heap.size w0 W) (hc : W.cell? ⟨Bs, 0, none⟩ = some v) (h0 : J [] W) :
    CallsIn F n Try.prog 39 #[.func (.yield lp) #[] #[], .pointer (some ⟨Bs, 0, none⟩)] W fun e W' => (∃ u, e = .returned u) ∧
      ((∃ ys, ys.map (·.1) = runsT l ∧ J ys W') ∨ (∃ pre, True ∧ Jx pre W')) := by
  have hlv := fun W => hv.len (ty := 3) W
  have hv := Lib.hid hv
  have hY := Lib.hid hY
  refine callsIn_of_wp Try.func39 rfl hf ?_ hro
  simp only [Try.ntmps39, List.size_toArray, List.length_cons, List.length_nil, Nat.reduceAdd, Nat.reduceSub, Array.replicate_succ, Array.replicate_zero, List.push_toArray, List.append_toArray, List.nil_append, List.cons_append]
  gi_wp2
  gi_loopw [3, 9] (fun f i wr => ∃ (pre : List RunT) (fN iN : Nat), f = .int .i64 fN ∧ i = .int .i64 iN ∧ fN ≤ iN ∧ iN ≤ l.length ∧ Hid (ComeT l pre fN iN) ∧ Hid (J pre wr) ∧ Save w0.heap.size Bs W wr)
    (fun _ i _ => l.length - (intOf i).toNat)
  case atStart => exact ⟨[], 0, 0, rfl, rfl, by omega, by omega, Lib.hid (ComeT.start l), Lib.hid h0, Save.refl _ _ _⟩
  case round =>
    obtain ⟨pre, f, i, rfl, rfl, hfi, hil, hcome, hJ, hsv⟩ := hrel
    have hcr : wr.cell? ⟨Bs, 0, none⟩ = some v := (World.cell?_of_block hsv.seq).trans hc
    rcases Nat.lt_or_ge i l.length with hlt | hge
    · obtain ⟨ad, ha, hac, hab⟩ := hv.out.index hlt
      obtain ⟨x, hx⟩ : ∃ x, l.getD i false = x := ⟨_, rfl⟩
      have hcell : ∀ (p : Addr) (u : Value), p.block < w0.heap.size → w0.cell? p = some u → wr.cell? p = some u := fun p u h1 h2 =>
        (hsv.below.cell h1).trans ((hb0.cell h1).trans h2)
      have hacr := hcell ad _ hab hac
      rw [hx] at hacr
      clear hac
      have hcell := Lib.hid hcell
      by_cases hgo : i + 1 < l.length ∧ l.getD (i + 1) false = x
      · obtain ⟨h1, h2⟩ := hgo
        obtain ⟨bd, hb, hbc, hbb⟩ := hv.out.index h1
        have hbcr := hcell.out bd _ hbb hbc
        rw [h2] at hbcr
        clear hbc
        simp only [Int.natCast_add, Int.natCast_one] at hb
        have hnext := Lib.hid (hcome.out.goOn h1 (by rw [h2, hx]))
        have hx := Lib.hid hx
        have h2 := Lib.hid h2
        gi_wp2
        go_roundw
        case rel => exact ⟨pre, f, i + 1, rfl, by go_num, by omega, by omega, hnext, hJ, hsv⟩
        case measure => simp [intOf]; omega
      · have he : i + 1 = l.length ∨ l.getD (i + 1) false ≠ l.getD i false := by
          rcases Nat.lt_or_ge (i + 1) l.length with h | h
          · exact .inr (fun e => hgo ⟨h, by rw [e, hx]⟩)
          · exact .inl (by omega)
        obtain ⟨fn, tmps, assign, body, hy, hR⟩ := hY.out pre ⟨(i + 1 - f, x), by omega⟩ wr hJ.out (by have := hcome.out.few; omega)
        dsimp only [encT] at hy
        rw [show ((i + 1 - f : Nat) : Int) = (i : Int) + 1 - f by omega] at hy
        have hnext := Lib.hid (hcome.out.turn hlt he (x := ⟨(i + 1 - f, x), by omega⟩) (by rw [hx]))
        have HW : (i + 1 < l.length ∧ ∃ bd y, (∀ W, (Instr.indexAt 23 v (.int .i64 ((i : Int) + 1))).run Try.prog W = .ok (.pointer (some bd)) W) ∧ wr.cell? bd = some (.bool y) ∧ (y == x) = false ∧ Hid (y ≠ x)) ∨ (l.length ≤ i + 1 ∧ decide ((i : Int) + 1 < l.length) = false) := by
          rcases Nat.lt_or_ge (i + 1) l.length with h | h
          · obtain ⟨bd, hb, hbc, hbb⟩ := hv.out.index h
            have hyx : l.getD (i + 1) false ≠ x := fun e => hgo ⟨h, e⟩
            simp only [Int.natCast_add, Int.natCast_one] at hb
            exact .inl ⟨h, bd, _, hb, hcell.out bd _ hbb hbc, beq_false_of_ne hyx, Lib.hid hyx⟩
          · exact .inr ⟨h, decide_eq_false (by omega)⟩
        have hx := Lib.hid hx
        clear hgo he hcome
        rcases HW with ⟨h1, bd, y, hb, hbc, hq, hyx⟩ | ⟨h1, hq⟩
        all_goals
          gi_wp2
          refine hR.mono ?_
          rintro e W3 (⟨rfl, hJ3, hk3⟩ | ⟨rfl, hJx3⟩)
          · have hJ3 := Lib.hid hJ3
            gi_wp2
            go_roundw
            case rel => exact ⟨_, i + 1, i + 1, by go_num, by go_num, by omega, by omega, hnext, hJ3, hsv.trans hk3⟩
            case measure => simp [intOf]; omega
          · gi_wp2
            refine bodyPost_ret (results_none rfl _ _ _) rfl ?_
            exact ⟨⟨_, rfl⟩, .inr ⟨_, trivial, hJx3⟩⟩
    · have hd : Hid (pre.map (·.1) = runsT l) := Lib.hid (by
        have h1 := hcome.out.runs
        have h2 := hcome.out.all hge
        rw [h1, List.drop_eq_nil_of_le (by omega)]; simp [runsT])
      gi_wp2
      go_end0
      exact ⟨⟨_, rfl⟩, .inl ⟨pre, hd.out, hJ.out⟩⟩

set_option maxHeartbeats 1000000 in
/-- What makes it: the list in a box. -/
theorem seqT_in (F : Fence) (n : Nat) (hf : F.fn 30) (hro : F.round = none) (a : Option Addr) (len cap : Nat) (w : World) :
    CallsIn F n Try.prog 30 #[.slice a len cap] w fun e w' => e = .returned (.func (.func 39) #[] #[.pointer (some ⟨w.heap.size, 0, none⟩)]) ∧ w' = w.alloc (.cells #[.slice a len cap] 23) := by
  refine callsIn_of_wp Try.func30 rfl hf ?_ hro
  simp only [Try.ntmps30, List.size_toArray, List.length_cons, List.length_nil, Nat.reduceAdd, Nat.reduceSub, Array.replicate_succ, Array.replicate_zero, List.push_toArray, List.append_toArray, List.nil_append, List.cons_append]
  gi_wp2
  go_ret
  exact ⟨rfl, rfl⟩

theorem iterT_stops (F : Fence) (n : Nat) (hf : F.fn 39) (hro : F.round = none) (hn : 1 ≤ n) (Bs : Nat) (v : Value) (l : List Bool) (hl : l.length ≤ 65536) (w0 w : World) (hv : TruthsAt w0 v l)
    (hBs : Bs < w.heap.size) (h0 : Below w0.heap.size w0 w) (hc : w.cell? ⟨Bs, 0, none⟩ = some v) :
    SeqStopsK F n Try.prog 39 #[.pointer (some ⟨Bs, 0, none⟩)] encT (Save w0.heap.size Bs) (fun ys => ys.map (·.1) = runsT l) (fun _ => True) l.length w := fun lp J Jx W hW _ _ hY hJ0 =>
  iterT_in F n hf hro hn lp Bs v l J Jx hl w0 hv hY W (h0.trans (hW.mono h0.size)) ((hW.cell (p := ⟨Bs, 0, none⟩) hBs).trans hc) hJ0
end Go.Proofs.Ytdonbgejnllhlaa
