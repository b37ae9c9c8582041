/-
  The other functions on vectors: covers, most, and the document's own answers.
-/
import Derived.Test.YtmihcfjlhljmoaaVecJoin
namespace Go.Proofs.Ytmihcfjlhljmoaa
open Go.RowKit Go.Sort

def covB (f g : Nat → Int) : Bool := eqV (joinF f g) f
theorem covB_iff (f g : Nat → Int) : covB f g = true ↔ ∀ i, i < 8 → g i ≤ f i := by
  unfold covB
  rw [eqV_iff]
  exact forall_congr' fun i => imp_congr_right fun _ => by unfold joinF; omega

theorem vv_boxes (w : World) (f g : Nat → Int) : ∃ W, (w.alloc (.cells (V f) 23)).alloc (.cells (V g) 23) = W ∧ Below w.heap.size w W ∧ VAt W w.heap.size f ∧ VAt W (w.heap.size + 1) g := by
  refine ⟨_, rfl, below_alloc2 _ _ _, (VAt.new w f).alloc _, ?_⟩
  have h := VAt.new (w.alloc (.cells (V f) 23)) g
  rw [show (w.alloc (.cells (V f) 23)).heap.size = w.heap.size + 1 from by simp] at h
  exact h

/-- The class of worlds in which a quiet region's operations come up; a whole vector is read there. -/
theorem VAt.regrown {w : World} {b : Nat} {f : Nat → Int} (h : VAt w b f) (d : Nat) (os : Array Obj) : VAt (grow (redrawn w d) os) b f := h.after (below_regrown w d os)

theorem quiet_load_vec {w : World} {o : Oper} {a : Act} {K : Act → Prop} {b : Nat} {f : Nat → Int} (x : Operand) (ho : o.op = .load 23 x) (hx : a.eval x = .pointer (some ⟨b, 0, none⟩)) (hv : VAt w b f)
    (h : K (a.put o.dst (.agg (V f)))) : o.quiet Try.prog a (fun w' => ∃ p : Regrown, w' = grow (redrawn w p.d) p.os) K := by
  refine ⟨_, fun w' hw' => ?_, h⟩
  obtain ⟨⟨d, os⟩, rfl⟩ := hw'
  unfold Oper.quietAt execOp
  simp only [ho, hx, Instr.loadAt, Instr.sureAddr, Sem.run_bind, Sem.run_pure, Result.andThen_ok, run_loadVar_row _ b 23 23 _ _ _ (hv.regrown d os) Try.underlying23 rfl infoV]
  exact ⟨rfl, rfl⟩

set_option maxHeartbeats 400000 in
theorem covers_any (f g : Nat → Int) (w : World) :
    Calls Try.prog 16 #[.agg (V f), .agg (V g)] w (Ret (.bool (covB f g)) w) := by
  obtain ⟨W, hW, hb, hA, hB⟩ := vv_boxes w f g
  go_enter Try.func16, Try.ntmps16
  go_wp2_with fail
  clear hW
  have heq := fun (x y : Nat → Int) (w : World) => run_eqVec x y w
  refine wp_region_quiet_below (by kernel_rfl) (by kernel_rfl) ?_
  repeat (first | (go_big_quiet_want; refine quiet_load_vec _ rfl rfl (by first | exact hA | exact hB) ?_; simp only [Act.put, List.setIfInBounds_toArray, List.set_cons_succ, List.set_cons_zero]; go_big_quiet_on) | go_big_quiet_step ((go_at_call 14; exact Calls.ret_regrown (join_any _ _ _))))
  refine wpQuiet_nil ?_
  intro _ hw'
  obtain ⟨⟨dq, osq⟩, hw''⟩ := hw'
  subst hw''
  go_wp2
  go_ret
  exact ⟨rfl, hb.trans ((below_regrown W dq osq).mono hb.size)⟩

set_option maxHeartbeats 400000 in
theorem refCovers_any (f g : Nat → Int) (w : World) :
    Calls Try.prog 17 #[.agg (V f), .agg (V g)] w (Ret (.bool (covB f g)) w) := by
  obtain ⟨W, hW, hb, hA, hB⟩ := vv_boxes w f g
  go_enter Try.func17, Try.ntmps17
  go_wp2_with fail
  clear hW
  go_loopw [5] (fun i wr => ∃ k : Nat, k ≤ 8 ∧ i = .int .i64 k ∧ (∃ n, wr = W.drewN n) ∧ ∀ j, j < k → g j ≤ f j) (fun i _ => 8 - (intOf i).toNat)
  case atStart => exact ⟨0, by omega, rfl, ⟨0, rfl⟩, fun j hj => absurd hj (by omega)⟩
  case round =>
    obtain ⟨k, hk, rfl, ⟨n, rfl⟩, hall⟩ := hrel
    have hall := Lib.hid hall
    by_cases hlt : k < 8
    · have hcA := hA.cell hlt
      have hcB := hB.cell hlt
      have hk0 : (0 : Int) ≤ (k : Int) := by omega
      have hk8 : (k : Int) < 8 := by omega
      by_cases hm : f k < g k
      · have e : Hid (covB f g = false) := show _ = _ by
          rw [Bool.eq_false_iff]
          intro h
          have := (covB_iff f g).1 h k hlt
          omega
        go_wp2_with fail
        go_quiet (fail)
        go_wp2
        go_ret
        exact ⟨by rw [e.out]; rfl, below_drewN (below_drewN hb _) _⟩
      · go_wp2_with fail
        go_quiet (fail)
        go_wp2
        exact ⟨⟨k + 1, by omega, by go_num, ⟨_, rfl⟩, fun j hj => by
          rcases Nat.lt_or_eq_of_le (Nat.le_of_lt_succ hj) with h | rfl
          · exact hall.out j h
          · omega⟩, by simp [intOf]; omega⟩
    · obtain rfl : k = 8 := by omega
      have e : Hid (covB f g = true) := (covB_iff f g).2 hall.out
      go_wp2
      go_ret
      exact ⟨by rw [e.out]; rfl, below_drewN hb n⟩

def mostK (f : Nat → Int) : Nat → Int
  | 0 => f 0
  | k + 1 => max (mostK f k) (f (k + 1))
def mostF (f : Nat → Int) : Int := mostK f 7
theorem mostK_succ (f : Nat → Int) (k : Nat) : mostK f (k + 1) = if mostK f k < f (k + 1) then f (k + 1) else mostK f k := by show max _ _ = _; rw [Int.max_def]; split <;> split <;> omega

set_option maxHeartbeats 400000 in
theorem refMost_any (f : Nat → Int) (w : World) :
    Calls Try.prog 18 #[.agg (V f)] w (Ret (.int .i64 (mostF f)) w) := by
  have hA := VAt.new w f
  have h0 := hA.cell (k := 0) (by omega)
  have hcl : ∀ k, k < 8 → (w.alloc (.cells (V f) 23)).cell? ⟨w.heap.size, k, none⟩ = some (.int .i64 (f k)) := fun k hk => hA.cell hk
  have hA := Lib.hid hA
  have hcl := Lib.hid hcl
  go_enter Try.func18, Try.ntmps18
  go_wp2
  go_loop [3, 4] (fun m i => ∃ k : Nat, k < 8 ∧ i = .int .i64 (k + 1 : Nat) ∧ m = .int .i64 (mostK f k)) (fun _ i => 9 - (intOf i).toNat)
  case atStart => exact ⟨0, by omega, rfl, rfl⟩
  case round =>
    obtain ⟨k, hk, rfl, rfl⟩ := hrel
    by_cases hlt : k + 1 < 8
    · have hc := hcl.out (k + 1) hlt
      have hs := Lib.hid (mostK_succ f k)
      have hk0 : (0 : Int) ≤ (k : Int) := by omega
      have hk8 : (k : Int) + 1 < 8 := by omega
      by_cases hm : mostK f k < f (k + 1)
      · go_wp2
        exact ⟨⟨k + 1, by omega, by go_num, by rw [hs.out, if_pos hm]⟩, by simp [intOf]; omega⟩
      · go_wp2
        exact ⟨⟨k + 1, by omega, by go_num, by rw [hs.out, if_neg hm]⟩, by simp [intOf]; omega⟩
    · obtain rfl : k = 7 := by omega
      go_wp2
      go_ret
      exact ⟨rfl, below_box1 _ _⟩

set_option maxHeartbeats 400000 in
theorem slMax_any (f : Nat → Int) (b : Nat) (w : World) (hA : VAt w b f) :
    Calls Try.prog 20 #[.slice (some ⟨b, 0, none⟩) 8 8] w fun e w' => e = .returned (.int .i64 (mostF f)) ∧ w = w' := by
  have h0 := hA.cell (k := 0) (by omega)
  have hA := Lib.hid hA
  go_enter Try.func20, Try.ntmps20
  go_wp2
  go_loop [3, 4] (fun m i => ∃ k : Nat, k < 8 ∧ i = .int .i64 (k + 1 : Nat) ∧ m = .int .i64 (mostK f k)) (fun _ i => 9 - (intOf i).toNat)
  case atStart => exact ⟨0, by omega, rfl, rfl⟩
  case round =>
    obtain ⟨k, hk, rfl, rfl⟩ := hrel
    by_cases hlt : k + 1 < 8
    · have hc := hA.out.cell (k := k + 1) hlt
      have hs := Lib.hid (mostK_succ f k)
      have hk0 : (0 : Int) ≤ (k : Int) := by omega
      have hk8 : (k : Int) + 1 < 8 := by omega
      go_wp2
      exact ⟨⟨k + 1, by omega, by go_num, by rw [hs.out]⟩, by simp [intOf]; omega⟩
    · obtain rfl : k = 7 := by omega
      go_wp2
      go_ret
      exact ⟨rfl, rfl⟩

set_option maxHeartbeats 400000 in
theorem most_any (f : Nat → Int) (w : World) :
    Calls Try.prog 13 #[.agg (V f)] w (Ret (.int .i64 (mostF f)) w) := by
  have hA := VAt.new w f
  go_enter Try.func13, Try.ntmps13
  go_wp2_with fail
  refine (slMax_any f _ _ hA).mono ?_
  rintro e w' ⟨rfl, rfl⟩
  go_wp2_with fail
  go_ret
  exact ⟨rfl, below_box1 _ _⟩

end Go.Proofs.Ytmihcfjlhljmoaa
