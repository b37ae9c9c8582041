/-
  The law's helpers: an operation sought by its stamp; two lists compared.
-/
import Derived.Test.YteclkaecjogbjaaSoFact
import Derived.Test.YteclkaecjogbjaaOpNames
import Derived.Test.YteclkaecjogbjaaOpMore
namespace Go.Proofs.Yteclkaecjogbjaa
open Go.RowKit Go.Sort

/-- k is the first place of the stamp, or -1. -/
def FindIs (l : List OpV) (n r : Int) (k : Int) : Prop := (∃ i : Nat, k = i ∧ i < l.length ∧ (lst l i).n = n ∧ (lst l i).r = r ∧ ∀ j, j < i → ¬ ((lst l j).n = n ∧ (lst l j).r = r)) ∨ (k = -1 ∧ ∀ j, j < l.length → ¬ ((lst l j).n = n ∧ (lst l j).r = r))

set_option maxRecDepth 20000 in
set_option maxHeartbeats 4000000 in
theorem find_any (l : List OpV) (v : Value) (n r : Int) (w : World) (hv : OpsAt w v l) (hle : l.length ≤ 1000) :
    Calls Try.prog 15 #[v, .agg #[.int .i64 n, .int .i64 r]] w fun e w' => ∃ k, e = .returned (.int .i64 k) ∧ FindIs l n r k ∧ Below w.heap.size w w' := by
  have hll := fun W => hv.len 3 W
  have heq := fun (a b a' b' : Int) (w : World) => run_eqS 9998 a b a' b' w
  have hle2 : (l.length : Int) ≤ 9223372036854775807 := by omega
  obtain ⟨p, W1, hp, hW1, hb1, hlt1, c0, c1⟩ := new_stamp w n r
  have hv := Lib.hid hv
  go_enter Try.func15, Try.ntmps15
  go_wp2
  try rw [hp, hW1]
  have hb1 := Lib.hid hb1
  have c0 := Lib.hid c0
  have c1 := Lib.hid c1
  go_loopw [5] (fun i wr => ∃ k : Nat, i = .int .i64 k ∧ k ≤ l.length ∧ Below W1.heap.size W1 wr ∧ Hid (∀ j, j < k → ¬ ((lst l j).n = n ∧ (lst l j).r = r))) (fun i _ => l.length - (intOf i).toNat)
  case atStart => exact ⟨0, rfl, Nat.zero_le _, Below.refl _ _, Lib.hid fun j h => absurd h (Nat.not_lt_zero _)⟩
  case round =>
    obtain ⟨k, rfl, hk, hb, hP⟩ := hrel
    by_cases hlt : k < l.length
    · have hk4 : (k : Int) < (l.length : Int) := by omega
      have hvr := ((hv.out.below hb1.out).below hb)
      obtain ⟨g, off, hix, hel, hgl⟩ := hvr.index (lst_at hlt)
      have e0 := cell_regrown (show wr.cell? ⟨g, off, none⟩ = _ from hel 0 (.int .i64 (lst l k).n) rfl)
      have e1 := cell_regrown (hel 1 (.int .i64 (lst l k).r) rfl)
      have d0 := cell_regrown ((hb.cell (p := ⟨p, 0, none⟩) hlt1).trans c0.out)
      have d1 := cell_regrown ((hb.cell (p := ⟨p, 1, none⟩) hlt1).trans c1.out)
      have HH : (eqS (lst l k).n (lst l k).r n r = true ∧ Hid ((lst l k).n = n ∧ (lst l k).r = r)) ∨ (eqS (lst l k).n (lst l k).r n r = false ∧ Hid (¬ ((lst l k).n = n ∧ (lst l k).r = r))) := by
        cases h : eqS (lst l k).n (lst l k).r n r
        · exact .inr ⟨rfl, Lib.hid fun h' => by rw [eqS_iff.2 h'] at h; exact absurd h (by simp)⟩
        · exact .inl ⟨rfl, Lib.hid (eqS_iff.1 h)⟩
      have hb := Lib.hid hb
      rcases HH with ⟨hB, HH⟩ | ⟨hB, HH⟩
      all_goals
        go_wp2_with fail
        refine wp_region_quiet_below (by kernel_rfl) (by kernel_rfl) ?_
        repeat (go_big_quiet_step (fail))
        refine wpQuiet_nil ?_
        intro W9 hw9
        have hB9 := (show Below _ _ W9 by obtain ⟨⟨dq, osq⟩, rfl⟩ := hw9; exact below_regrown _ dq osq)
        have hbb := hb.out.trans (hB9.mono hb.out.size)
        clear hB9 hw9 e0 e1 d0 d1 hel
        go_wp2
      · go_ret
        exact ⟨_, rfl, .inl ⟨k, rfl, hlt, HH.out.1, HH.out.2, hP.out⟩, by first | exact hb1.out.trans (hbb.mono hb1.out.size) | (rw [← hp]; exact hb1.out.trans (hbb.mono hb1.out.size))⟩
      · exact ⟨⟨k + 1, by go_num, hlt, hbb, Lib.hid fun j hj => by
          by_cases e : j = k
          · rw [e]; exact HH.out
          · exact hP.out j (by omega)⟩, by simp [intOf]; omega⟩
    · have hk4 : ¬ (k : Int) < (l.length : Int) := by omega
      go_wp2
      go_ret
      exact ⟨_, rfl, .inr ⟨rfl, fun j hj => hP.out j (by omega)⟩, by rw [← hp]; exact hb1.out.trans (hb.mono hb1.out.size)⟩
end Go.Proofs.Yteclkaecjogbjaa
