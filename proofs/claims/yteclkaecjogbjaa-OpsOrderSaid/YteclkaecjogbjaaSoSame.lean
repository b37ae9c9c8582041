/-
  The law's helper: two lists of the same operations are the same.
-/
import Derived.Test.YteclkaecjogbjaaSoFind
import Derived.Test.YteclkaecjogbjaaOpLawA
namespace Go.Proofs.Yteclkaecjogbjaa
open Go.RowKit Go.Sort

set_option maxRecDepth 20000 in
set_option maxHeartbeats 4000000 in
theorem same_any (l : List OpV) (v v' : Value) (w : World) (hv : OpsAt w v l) (hv' : OpsAt w v' l) (hle : l.length ≤ 1000) :
    Calls Try.prog 16 #[v, v'] w fun e w' => e = .returned (.bool true) ∧ Below w.heap.size w w' := by
  have hll := fun W => hv.len 3 W
  have hll' := fun W => hv'.len 3 W
  have hle2 : (l.length : Int) ≤ 9223372036854775807 := by omega
  have hv := Lib.hid hv
  have hv' := Lib.hid hv'
  have hne : ((l.length : Int) != (l.length : Int)) = false := by simp
  go_enter Try.func16, Try.ntmps16
  go_wp2
  go_loopw [5] (fun i wr => ∃ k : Nat, i = .int .i64 k ∧ k ≤ l.length ∧ Below w.heap.size w wr) (fun i _ => l.length - (intOf i).toNat)
  case atStart => exact ⟨0, rfl, Nat.zero_le _, Below.refl _ _⟩
  case round =>
    obtain ⟨k, rfl, hk, hb⟩ := hrel
    by_cases hlt : k < l.length
    · have hk4 : (k : Int) < (l.length : Int) := by omega
      obtain ⟨g, off, hix, hel, hgl⟩ := (hv.out.below hb).index (lst_at hlt)
      obtain ⟨g', off', hix', hel', hgl'⟩ := (hv'.out.below hb).index (lst_at hlt)
      obtain ⟨o, ho⟩ : ∃ o, lst l k = o := ⟨_, rfl⟩
      rw [ho] at hel hel'
      have heq := fun (w : World) => run_eqOp o o w
      simp only [eqOp_self] at heq
      have hel := Lib.hid hel
      have hel' := Lib.hid hel'
      have hgl := Lib.hid hgl
      have hgl' := Lib.hid hgl'
      have hb := Lib.hid hb
      go_wp2_with fail
      refine wp_region_quiet_below (by kernel_rfl) (by kernel_rfl) ?_
      repeat (first
        | (go_big_quiet_want; refine quiet_load_el _ rfl rfl hgl.out hel.out ?_; simp only [Act.put, List.setIfInBounds_toArray, List.set_cons_succ, List.set_cons_zero]; go_big_quiet_on)
        | (go_big_quiet_want; refine quiet_load_el _ rfl rfl hgl'.out hel'.out ?_; simp only [Act.put, List.setIfInBounds_toArray, List.set_cons_succ, List.set_cons_zero]; go_big_quiet_on)
        | go_big_quiet_step (first | fail))
      refine wpQuiet_nil ?_
      intro W9 hw9
      have hB9 := (show Below _ _ W9 by obtain ⟨⟨dq, osq⟩, rfl⟩ := hw9; exact below_regrown _ dq osq)
      have hbb := hb.out.trans (hB9.mono hb.out.size)
      clear hB9 hw9 hel hel' hgl hgl'
      go_wp2
      exact ⟨⟨k + 1, by go_num, hlt, hbb⟩, by simp [intOf]; omega⟩
    · have hk4 : ¬ (k : Int) < (l.length : Int) := by omega
      go_wp2
      go_ret
      exact ⟨rfl, hb⟩
end Go.Proofs.Yteclkaecjogbjaa
