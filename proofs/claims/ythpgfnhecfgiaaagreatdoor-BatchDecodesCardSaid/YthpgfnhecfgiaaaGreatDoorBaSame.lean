/-
  Two lists of operations compared.
-/
import Derived.Test.YthpgfnhecfgiaaaGreatDoorBaAlive
import Derived.Test.YthpgfnhecfgiaaaGreatDoorBaFits
namespace Go.Proofs.YthpgfnhecfgiaaaGreatDoor
open Go.RowKit Go.Sort
set_option maxRecDepth 20000

theorem eqOp_iff {a b : OpV} : eqOp a b = true ↔ OpC a = OpC b := by
  constructor
  · intro h
    unfold eqOp at h
    simp only [Bool.and_eq_true, eqS_iff, eqA_iff, eqV_iff, beq_iff_eq] at h
    obtain ⟨⟨h1, h2⟩, hd, h3, ⟨h4, h5⟩, h6, h7, ⟨h8, h9⟩, k1, k2, k3, ⟨h10, h11, h12⟩, h13, h14, h15⟩ := h
    unfold OpC
    rw [h1, h2, hd 0 (by omega), hd 1 (by omega), hd 2 (by omega), hd 3 (by omega), hd 4 (by omega), hd 5 (by omega), hd 6 (by omega), hd 7 (by omega), h3, h4, h5, h6, h7, h8, h9, toList_eq k1, toList_eq k2, toList_eq k3, h10, h11, h12, h13, h14, h15]
  · intro h
    simp [OpC] at h
    obtain ⟨e1, e2, h0, h1, h2, h3, h4, h5, h6, h7, e3, e4, e5, e6, e7, e8, e9, e10, e11, e12, e13, e14, e15, e16, e17, e18⟩ := h
    have hd : ∀ i, i < 8 → a.deps i = b.deps i := fun i hi => by
      rcases (by omega : i = 0 ∨ i = 1 ∨ i = 2 ∨ i = 3 ∨ i = 4 ∨ i = 5 ∨ i = 6 ∨ i = 7) with rfl | rfl | rfl | rfl | rfl | rfl | rfl | rfl <;> assumption
    unfold eqOp
    simp only [Bool.and_eq_true, eqS_iff, eqA_iff, eqV_iff, beq_iff_eq]
    rw [e10, e11, e12]
    exact ⟨⟨e1, e2⟩, hd, e3, ⟨e4, e5⟩, e6, e7, ⟨e8, e9⟩, rfl, rfl, rfl, ⟨e13, e14, e15⟩, e16, e17, e18⟩

theorem quiet_load_el {w : World} {o : Oper} {a : Act} {K : Act → Prop} {g off : Nat} {f : OpV} (x : Operand) (ho : o.op = .load 42 x) (hx : a.eval x = .pointer (some ⟨g, off, none⟩)) (hg : g < w.heap.size) (hv : w.rangeAt g off (opL f))
    (h : K (a.put o.dst (.agg (OpC f)))) : o.quiet Tryz.prog a (fun w' => ∃ p : Regrown, w' = grow (redrawn w p.d) p.os) K := by
  refine ⟨_, fun w' hw' => ?_, h⟩
  obtain ⟨⟨d, os⟩, rfl⟩ := hw'
  unfold Oper.quietAt execOp
  simp only [ho, hx, Instr.loadAt, Instr.sureAddr, Sem.run_bind, Sem.run_pure, Result.andThen_ok, run_loadOpMid (range_after hv (below_regrown w d os) hg)]
  exact ⟨rfl, rfl⟩

/-- It tells whether they are the same. -/
def SamePost (l l' : List OpV) (w : World) : Ending → World → Prop := fun e w' => ∃ r : Bool, e = .returned (.bool r) ∧ (r = true ↔ l.map OpC = l'.map OpC) ∧ Below w.heap.size w w'

set_option maxHeartbeats 4000000 in
theorem same_ops (l l' : List OpV) (v v' : Value) (w : World) (hv : OpsAt w v l) (hv' : OpsAt w v' l') (hle : l.length ≤ 1000) :
    Calls Tryz.prog 7 #[v, v'] w (SamePost l l' w) := by
  have hll := fun W => hv.len 3 W
  have hll' := fun W => hv'.len 3 W
  have hl2 := hv'.le
  have hle2 : (l.length : Int) ≤ 9223372036854775807 := by omega
  have hv := Lib.hid hv
  have hv' := Lib.hid hv'
  by_cases hlen : l.length = l'.length
  · rw [← hlen] at hll' hl2
    have hne : ((l.length : Int) != (l.length : Int)) = false := by simp
    replace hlen := Lib.hid hlen
    go_enter Tryz.func7, Tryz.ntmps7
    go_wp2
    go_loopw [5] (fun i wr => ∃ k : Nat, i = .int .i64 k ∧ k ≤ l.length ∧ Below w.heap.size w wr ∧ Hid (∀ j, j < k → (l.map OpC)[j]? = (l'.map OpC)[j]?)) (fun i _ => l.length - (intOf i).toNat)
    case atStart => exact ⟨0, rfl, Nat.zero_le _, Below.refl _ _, Lib.hid fun j h => absurd h (Nat.not_lt_zero _)⟩
    case round =>
      obtain ⟨k, rfl, hk, hb, hP⟩ := hrel
      by_cases hlt : k < l.length
      · have hk4 : (k : Int) < (l.length : Int) := by omega
        obtain ⟨o, ho⟩ : ∃ o, l[k]? = some o := ⟨_, List.getElem?_eq_getElem hlt⟩
        obtain ⟨o', ho'⟩ : ∃ o', l'[k]? = some o' := ⟨_, List.getElem?_eq_getElem (by rw [← hlen.out]; exact hlt)⟩
        obtain ⟨g, off, hix, hel, hgl⟩ := (hv.out.below hb).index ho
        obtain ⟨g', off', hix', hel', hgl'⟩ := (hv'.out.below hb).index ho'
        have HH : (eqOp o o' = true ∧ Hid (OpC o = OpC o')) ∨ (eqOp o o' = false ∧ Hid (OpC o ≠ OpC o')) := by
          cases h : eqOp o o'
          · exact .inr ⟨rfl, Lib.hid fun h' => by rw [eqOp_iff.2 h'] at h; cases h⟩
          · exact .inl ⟨rfl, Lib.hid (eqOp_iff.1 h)⟩
        have ho := Lib.hid ho
        have ho' := Lib.hid ho'
        have hel := Lib.hid hel
        have hel' := Lib.hid hel'
        have hgl := Lib.hid hgl
        have hgl' := Lib.hid hgl'
        have hb := Lib.hid hb
        rcases HH with ⟨hq, HH⟩ | ⟨hq, HH⟩
        all_goals
          have heq := fun (w : World) => run_eqOp o o' w
          simp only [hq] at heq
          go_wp2_with fail
          refine wp_region_quiet_below (by kernel_rfl) (by kernel_rfl) ?_
          repeat (first
            | (go_big_quiet_want; refine quiet_load_el _ rfl rfl hgl.out hel.out ?_; simp only [Act.put, List.setIfInBounds_toArray, List.set_cons_succ, List.set_cons_zero]; go_big_quiet_on)
            | (go_big_quiet_want; refine quiet_load_el _ rfl rfl hgl'.out hel'.out ?_; simp only [Act.put, List.setIfInBounds_toArray, List.set_cons_succ, List.set_cons_zero]; go_big_quiet_on)
            | go_big_quiet_step (first | fail))
          refine wpQuiet_nil ?_
          intro W9 hw9
          have hB9 := (show Below _ _ W9 by obtain ⟨⟨dq, osq⟩, rfl⟩ := hw9; exact below_regrown _ dq osq)
          have hbb := hb.out.trans (hB9.mono hb.out.size)
          clear hB9 hw9 hel hel' hgl hgl'
          go_wp2
        · exact ⟨⟨k + 1, by go_num, hlt, hbb, Lib.hid fun j hj => by
            rcases Nat.lt_or_ge j k with h' | h'
            · exact hP.out j h'
            · obtain rfl : j = k := by omega
              rw [List.getElem?_map, List.getElem?_map, ho.out, ho'.out]
              simp [HH.out]⟩, by simp [intOf]; omega⟩
        · go_ret
          refine ⟨_, rfl, ⟨(fun h => Bool.noConfusion h), fun h => ?_⟩, hbb⟩
          exfalso
          have := congrArg (fun z => z[k]?) h
          simp only [List.getElem?_map, ho.out, ho'.out, Option.map_some] at this
          injection this with this
          exact HH.out this
      · have hk4 : ¬ (k : Int) < (l.length : Int) := by omega
        go_wp2
        go_ret
        refine ⟨_, rfl, ⟨fun _ => ?_, fun _ => rfl⟩, hb⟩
        apply List.ext_getElem?
        intro j
        rcases Nat.lt_or_ge j l.length with h' | h'
        · exact hP.out j (by omega)
        · rw [List.getElem?_eq_none (by simpa using h'), List.getElem?_eq_none (by rw [List.length_map, ← hlen.out]; exact h')]
  · have hne : ((l.length : Int) != (l'.length : Int)) = true := by simpa using (by omega : ¬ (l.length : Int) = (l'.length : Int))
    replace hlen := Lib.hid hlen
    go_enter Tryz.func7, Tryz.ntmps7
    go_wp2
    go_ret
    refine ⟨_, rfl, ⟨(fun h => Bool.noConfusion h), fun h => ?_⟩, Below.refl _ _⟩
    exfalso
    have := congrArg List.length h
    simp at this
    exact hlen.out this
end Go.Proofs.YthpgfnhecfgiaaaGreatDoor
