/-
  A stamp that an operation names, in the document's own answer; its two answers held against the program's.
-/
import Derived.Test.YteclkaecjogbjaaOpRight
namespace Go.Proofs.Yteclkaecjogbjaa
open Go.RowKit Go.Sort

def namesB (o : OpV) (n r : Int) (none : Bool) : Bool := none && zeroS n r || rightB n r && hasB o.deps n r

theorem ops_boxes (w : World) (o : OpV) (n r : Int) : ∃ W, (w.alloc (.cells (OpC o) 31)).alloc (.cells #[.int .i64 n, .int .i64 r] 23) = W ∧ Below w.heap.size w W ∧ W.heap.size = w.heap.size + 2 ∧ OpAt W w.heap.size o ∧ W.cell? ⟨w.heap.size + 1, 0, none⟩ = some (.int .i64 n) ∧ W.cell? ⟨w.heap.size + 1, 1, none⟩ = some (.int .i64 r) :=
  ⟨_, rfl, below_alloc2 _ _ _, by simp, (OpAt.new w o).alloc _, by go_simp, by go_simp⟩

set_option maxHeartbeats 1600000 in
theorem names_any (o : OpV) (n r : Int) (nb : Bool) (w : World) : Calls Try.prog 29 #[.agg (OpC o), .agg #[.int .i64 n, .int .i64 r], .bool nb] w (Ret (.bool (namesB o n r nb)) w) := by
  obtain ⟨W, hW, hb, hs, hA, c0, c1⟩ := ops_boxes w o n r
  have H : (nb = true ∧ ((zeroS n r = true ∧ Hid (true = namesB o n r nb)) ∨ (zeroS n r = false ∧ ((rightB n r = false ∧ Hid (false = namesB o n r nb)) ∨ (rightB n r = true ∧ Hid (hasB o.deps n r = namesB o n r nb)))))) ∨ (nb = false ∧ ((rightB n r = false ∧ Hid (false = namesB o n r nb)) ∨ (rightB n r = true ∧ Hid (hasB o.deps n r = namesB o n r nb)))) := by
    unfold namesB
    cases nb <;> cases zeroS n r <;> cases rightB n r <;> simp [Lib.hid]
    all_goals exact Lib.hid rfl
  rcases H with ⟨rfl, ⟨z, H⟩ | ⟨z, ⟨q, H⟩ | ⟨q, H⟩⟩⟩ | ⟨rfl, ⟨q, H⟩ | ⟨q, H⟩⟩
  all_goals
    go_enter Try.func29, Try.ntmps29
    go_wp2_with (first
      | ((with_reducible refine load_deps hA ?_ ?_ ?_); rfl; rfl)
      | (go_at_call 27; refine (refRight_any _ _ _).mono ?_; rintro e w' ⟨rfl, hb'⟩; (try rw [q]); replace hA := hA.after hb'; replace c0 := cell_later hb' c0; replace c1 := cell_later hb' c1; replace hb := then_call hb hb')
      | (go_at_call 28; refine (refNone_any _ _ _).mono ?_; rintro e w'' ⟨rfl, hb''⟩; rw [z]; replace hA := hA.after hb''; replace c0 := cell_later hb'' c0; replace c1 := cell_later hb'' c1; replace hb := then_call hb hb'')
      | (go_at_call 46; refine (refHas_any _ _ _ _).mono ?_; rintro e w3 ⟨rfl, hb3⟩; replace hb := then_call hb hb3))
    go_ret
    exact ⟨ret_bool H.out, hb⟩

/-- What the document's own answer asks of each kind. -/
def refK (o : OpV) : Bool :=
  if o.kind = 1 then namesB o o.rn o.rr true && (o.side == 2 || o.side == 1 && !(zeroS o.rn o.rr)) && chB o.ch
  else if o.kind = 2 then namesB o o.rn o.rr false
  else if o.kind = 3 then namesB o o.rn o.rr false && namesB o o.un o.ur true && !(eqS o.un o.ur o.rn o.rr) && keyB o.key
  else if o.kind = 4 then namesB o o.rn o.rr false && nameB o.name && valueB o.value
  else if o.kind = 5 then namesB o o.fn o.fr false && namesB o o.tn o.tr false && nameB o.name && valueB o.value
  else false
def refB (o : OpV) : Bool := rightB o.n o.r && depsB o && refK o && eqOp (ownO o) o

theorem eqS_iff {a b a' b' : Int} : eqS a b a' b' = true ↔ a = a' ∧ b = b' := by unfold eqS; simp
theorem eqA_iff {a b a' b' : Int} {x x' : Bool} : eqA a b x a' b' x' = true ↔ a = a' ∧ b = b' ∧ x = x' := by unfold eqA; simp [eqS_iff, and_assoc]
theorem hasB_zero {o : OpV} (h : depsB o = true) : hasB o.deps 0 0 = true := by
  have := ((depsB_iff o).1 h 0 (by omega)).1
  unfold hasB
  rw [replB_in (by omega) (by omega)]
  simpa using this
theorem zeroS_iff {n r : Int} : zeroS n r = true ↔ n = 0 ∧ r = 0 := eqS_iff

/-- What eqOp says of the stamps. -/
theorem eqOp_stamps {a b : OpV} (h : eqOp a b = true) : (a.rn = b.rn ∧ a.rr = b.rr) ∧ (a.un = b.un ∧ a.ur = b.ur) ∧ (a.fn = b.fn ∧ a.fr = b.fr) ∧ (a.tn = b.tn ∧ a.tr = b.tr) := by
  unfold eqOp at h
  simp only [Bool.and_eq_true, eqS_iff, eqA_iff] at h
  exact ⟨h.2.2.2.1, h.2.2.2.2.2.2.1, ⟨h.2.2.2.2.2.2.2.2.2.2.1.1, h.2.2.2.2.2.2.2.2.2.2.1.2.1⟩, ⟨h.2.2.2.2.2.2.2.2.2.2.2.1, h.2.2.2.2.2.2.2.2.2.2.2.2.1⟩⟩

theorem refB_opB (o : OpV) : refB o = opB o := by
  unfold refB opB
  cases h1 : rightB o.n o.r
  · rfl
  cases h2 : depsB o
  · simp
  cases h3 : eqOp (ownO o) o
  · simp
  have hz := hasB_zero h2
  obtain ⟨⟨r1, r2⟩, ⟨u1, u2⟩, ⟨f1, f2⟩, t1, t2⟩ := eqOp_stamps h3
  simp only [Bool.true_and, Bool.and_true]
  unfold namedB
  rcases kind_cases o.kind with ⟨hk, -⟩ | ⟨hk, -⟩ | ⟨hk, -⟩ | ⟨hk, -⟩ | ⟨hk, -⟩ | ⟨hk, -⟩
  · have e := ownO_1 hk
    rw [e] at r1 r2 u1 u2 f1 f2 t1 t2
    simp only [baseO, zeroO] at u1 u2 f1 f2 t1 t2
    rw [fieldsB_1 hk, ← u1, ← u2, ← f1, ← f2, ← t1, ← t2, hz]
    unfold refK insB namesB
    rw [if_pos hk]
    cases hz' : zeroS o.rn o.rr
    · cases rightB o.rn o.rr <;> cases hasB o.deps o.rn o.rr <;> cases o.side == 1 <;> cases o.side == 2 <;> cases chB o.ch <;> rfl
    · obtain ⟨z1, z2⟩ := zeroS_iff.1 hz'
      rw [z1, z2, hz]
      cases rightB 0 0 <;> cases o.side == 1 <;> cases o.side == 2 <;> cases chB o.ch <;> rfl
  · have e := ownO_3 hk
    rw [e] at r1 r2 u1 u2 f1 f2 t1 t2
    simp only [baseO, zeroO] at f1 f2 t1 t2
    rw [fieldsB_3 hk, ← f1, ← f2, ← t1, ← t2, hz]
    unfold refK placeB namesB
    rw [if_neg (by omega), if_neg (by omega), if_pos hk]
    cases hz' : zeroS o.un o.ur
    · cases rightB o.rn o.rr <;> cases hasB o.deps o.rn o.rr <;> cases rightB o.un o.ur <;> cases hasB o.deps o.un o.ur <;> cases eqS o.un o.ur o.rn o.rr <;> cases keyB o.key <;> rfl
    · obtain ⟨z1, z2⟩ := zeroS_iff.1 hz'
      rw [z1, z2, hz]
      cases rightB o.rn o.rr <;> cases hasB o.deps o.rn o.rr <;> cases rightB 0 0 <;> cases eqS 0 0 o.rn o.rr <;> cases keyB o.key <;> rfl
  · have e := ownO_2 hk
    rw [e] at r1 r2 u1 u2 f1 f2 t1 t2
    simp only [baseO, zeroO] at u1 u2 f1 f2 t1 t2
    rw [fieldsB_2 hk, ← u1, ← u2, ← f1, ← f2, ← t1, ← t2, hz]
    unfold refK namesB
    rw [if_neg (by omega), if_pos hk]
    cases rightB o.rn o.rr <;> cases hasB o.deps o.rn o.rr <;> rfl
  · have e := ownO_4 hk
    rw [e] at r1 r2 u1 u2 f1 f2 t1 t2
    simp only [baseO, zeroO] at u1 u2 f1 f2 t1 t2
    rw [fieldsB_4 hk, ← u1, ← u2, ← f1, ← f2, ← t1, ← t2, hz]
    unfold refK attrB namesB
    rw [if_neg (by omega), if_neg (by omega), if_neg (by omega), if_pos hk]
    cases rightB o.rn o.rr <;> cases hasB o.deps o.rn o.rr <;> cases nameB o.name <;> cases valueB o.value <;> rfl
  · have e := ownO_5 hk
    rw [e] at r1 r2 u1 u2 f1 f2 t1 t2
    simp only [baseO, zeroO] at r1 r2 u1 u2
    rw [fieldsB_5 hk, ← r1, ← r2, ← u1, ← u2, hz]
    unfold refK attrB namesB
    rw [if_neg (by omega), if_neg (by omega), if_neg (by omega), if_neg (by omega), if_pos hk]
    cases rightB o.fn o.fr <;> cases hasB o.deps o.fn o.fr <;> cases rightB o.tn o.tr <;> cases hasB o.deps o.tn o.tr <;> cases nameB o.name <;> cases valueB o.value <;> rfl
  · rw [fieldsB_0 hk]
    unfold refK
    rw [if_neg hk.1, if_neg hk.2.2.1, if_neg hk.2.1, if_neg hk.2.2.2.1, if_neg hk.2.2.2.2]
    rfl
end Go.Proofs.Yteclkaecjogbjaa
