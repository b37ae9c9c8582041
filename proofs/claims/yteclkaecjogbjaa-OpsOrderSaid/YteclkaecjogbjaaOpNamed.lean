/-
  The stamps that an operation names are among those that it leans on: the program.
-/
import Derived.Test.YteclkaecjogbjaaOpOwn
namespace Go.Proofs.Yteclkaecjogbjaa
open Go.RowKit Go.Sort

def sn (o : OpV) : Nat → Int
  | 0 => o.rn
  | 1 => o.un
  | 2 => o.fn
  | _ => o.tn
def sr (o : OpV) : Nat → Int
  | 0 => o.rr
  | 1 => o.ur
  | 2 => o.fr
  | _ => o.tr
theorem namedB_iff (o : OpV) : namedB o = true ↔ ∀ k, k < 4 → hasB o.deps (sn o k) (sr o k) = true := by
  unfold namedB
  simp only [Bool.and_eq_true]
  constructor
  · rintro ⟨h0, h1, h2, h3⟩ k hk
    have : k = 0 ∨ k = 1 ∨ k = 2 ∨ k = 3 := by omega
    rcases this with rfl | rfl | rfl | rfl <;> assumption
  · intro h
    exact ⟨h 0 (by omega), h 1 (by omega), h 2 (by omega), h 3 (by omega)⟩

theorem run_index_named (o : OpV) (k : Nat) (hk : k < 4) (w : World) : (Instr.index 65 (.agg #[.int .i64 o.rn, .int .i64 o.rr, .int .i64 o.un, .int .i64 o.ur, .int .i64 o.fn, .int .i64 o.fr, .int .i64 o.tn, .int .i64 o.tr]) (.int .i64 (k : Int))).run Try.prog w = .ok (.agg #[.int .i64 (sn o k), .int .i64 (sr o k)]) w := by
  have : k = 0 ∨ k = 1 ∨ k = 2 ∨ k = 3 := by omega
  rcases this with rfl | rfl | rfl | rfl <;> (show _ = _; kernel_rfl)

set_option maxHeartbeats 3200000 in
theorem leansOnNamed_any (o : OpV) (w : World) : Calls Try.prog 26 #[.agg (OpC o)] w (Ret (.bool (namedB o)) w) := by
  obtain ⟨W, hW, hb, hA⟩ := op_box w o
  have c11 := hA.c11
  have c12 := hA.c12
  have c15 := hA.c15
  have c16 := hA.c16
  have c20 := hA.c20
  have c21 := hA.c21
  have c23 := hA.c23
  have c24 := hA.c24
  go_enter Try.func26, Try.ntmps26
  go_wp2
  clear hW c11 c12 c15 c16 c20 c21 c23 c24
  have hA := Lib.hid hA
  have hb := Lib.hid hb
  go_loopw [16] (fun i wr => ∃ k : Nat, k ≤ 4 ∧ i = .int .i64 k ∧ OpAt wr w.heap.size o ∧ Below w.heap.size w wr ∧ Hid (∀ j, j < k → hasB o.deps (sn o j) (sr o j) = true)) (fun i _ => 4 - (intOf i).toNat)
  case atStart => exact ⟨0, by omega, rfl, hA.out, hb.out, Lib.hid (fun j hj => absurd hj (by omega))⟩
  case round =>
    clear hA hb
    rename_i wr _
    obtain ⟨k, hk, rfl, hA, hb, hall⟩ := hrel
    by_cases hlt : k < 4
    · have hi := fun (w : World) => run_index_named o k hlt w
      have hk4 : (k : Int) < 4 := by omega
      have hA2 := hA.alloc (.cells #[.int .i64 (sn o k), .int .i64 (sr o k)] 23)
      cases hh : hasB o.deps (sn o k) (sr o k) with
      | false =>
        have H : Hid (namedB o = false) := Lib.hid (by
          rw [Bool.eq_false_iff]
          intro h
          rw [(namedB_iff o).1 h k hlt] at hh
          cases hh)
        go_wp2_with (first
          | (refine load_deps hA2 rfl rfl ?_)
          | (go_at_call 14; refine (has_any _ _ _ _).mono ?_; rintro e w' ⟨rfl, hb'⟩; rw [hh]))
        go_ret
        exact ⟨ret_bool H.out.symm, then_call (then_box hb _) hb'⟩
      | true =>
        have hnext : Hid (∀ j, j < k + 1 → hasB o.deps (sn o j) (sr o j) = true) := Lib.hid (fun j hj => by
          rcases Nat.lt_or_ge j k with h' | h'
          · exact hall.out j h'
          · obtain rfl : j = k := by omega
            exact hh)
        clear hall
        go_wp2_with (first
          | (refine load_deps hA2 rfl rfl ?_)
          | (go_at_call 14; refine (has_any _ _ _ _).mono ?_; rintro e w' ⟨rfl, hb'⟩; rw [hh]))
        exact ⟨⟨k + 1, by omega, by go_num, hA2.after hb', then_call (then_box hb _) hb', hnext⟩, by simp [intOf]; omega⟩
    · obtain rfl : k = 4 := by omega
      have H : Hid (namedB o = true) := Lib.hid ((namedB_iff o).2 hall.out)
      clear hall
      go_wp2
      go_ret
      exact ⟨ret_bool H.out.symm, hb⟩
end Go.Proofs.Yteclkaecjogbjaa
