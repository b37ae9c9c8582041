/-
  The live question: one operation, encoded and decoded.
-/
import Derived.Test.YthpgfnhecfgiaaaGreatDoorBaDecode
namespace Go.Proofs.YthpgfnhecfgiaaaGreatDoor
open Go.RowKit Go.Sort
set_option maxRecDepth 20000

/-- The operation that the live question asks of. -/
def liveB : OpV := { zeroO with n := 1, kind := 1, side := 2, ch := 97 }
theorem liveB_right : opB liveB = true := by
  unfold opB
  have e : ownO liveB = liveB := by unfold ownO liveB zeroO; simp
  have e1 : eqOp liveB liveB = true := by simp [eqOp, eqS, eqA, eqV]
  rw [e, e1, show depsB liveB = true from by decide, show fieldsB liveB = true from by decide, show namedB liveB = true from by decide]
  decide
theorem liveB_fits : ∀ o ∈ [liveB], o.Fits := by
  intro o ho
  simp at ho
  subst ho
  exact ⟨by decide, by decide, by decide⟩
theorem liveB_enc : encP [liveB] = (batchB [liveB], 0) := by
  unfold encP
  rw [if_neg (by decide), if_pos (by unfold allB_; simp [liveB_right])]
theorem liveB_is : IsBatch (batchB [liveB]) [liveB] := ⟨by decide, by unfold allB_; simp [liveB_right], rfl⟩
theorem bytesR_two (x : Int) (t : List Int) : 2 ≤ (bytesR (x :: t)).length := by
  have h1 := flat_runs (x :: t)
  unfold bytesR
  cases h : runsL (x :: t) with
  | nil => rw [h] at h1; simp [flatL] at h1
  | cons p r =>
    rw [encR]
    have := putL_pos p.1
    have := putL_pos (zigN p.2)
    simp only [List.length_append]
    omega
theorem colB_two (o : OpV) (r : List OpV) (i : Nat) : 2 ≤ (colB (o :: r) i).length := by
  unfold colB colL
  split
  · rw [List.map_cons, deltaL]; exact bytesR_two _ _
  · rw [List.map_cons]; exact bytesR_two _ _
theorem numB_two (o : OpV) (r : List OpV) : ∀ k, 2 * k ≤ (numB (o :: r) k).length
  | 0 => by simp [numB]
  | k + 1 => by
    have h1 := numB_two o r k
    have h2 := colB_two o r k
    rw [numB, List.length_append]
    omega
theorem batchB_long (o : OpV) (r : List OpV) : 42 ≤ (batchB (o :: r)).length := by
  have h1 := numB_two o r 21
  unfold batchB
  simp only [List.length_append]
  omega
theorem live_long : (30 : Int) < ((batchB [liveB]).length : Int) := by have := batchB_long liveB []; omega
theorem live_first : (batchB [liveB]).getD 0 0 = 1 := by
  unfold batchB
  rw [show [liveB].length = 1 from rfl, putL_lt (by omega)]; rfl
/-- A batch tells its operations. -/
theorem IsBatch.same {b : List Nat} {l l' : List OpV} (h : IsBatch b l) (h' : IsBatch b l') (hb : (b.length : Int) ≤ 9223372036854775807) : l.map OpC = l'.map OpC := by
  have hp : putL l.length <+: b := by rw [h.2.2]; exact List.prefix_append _ _
  obtain ⟨_, e2⟩ := h.parts hp
  obtain ⟨e1, e3⟩ := h'.parts hp
  rw [e2] at e3
  have u1 := (NumOf.of h.nums rfl : NumOf (numB l 21 ++ (truB l 2 ++ texB l 3)) l.length (colL l)).unique (by rw [e1]; exact NumOf.of h'.nums e3.symm)
  have p1 : numB l 21 = numB l' 21 := by rw [← prefB_numB, ← prefB_numB]; exact prefB_congr u1
  rw [p1] at e3
  have e4 := List.append_cancel_left e3
  have u2 := (TruOf.of rfl : TruOf (truB l 2 ++ texB l 3) l.length (truL l)).unique (by rw [e1]; exact TruOf.of e4.symm)
  have p2 : truB l 2 = truB l' 2 := by rw [← truPre_truB, ← truPre_truB]; exact truPre_congr u2
  rw [p2] at e4
  have e5 := List.append_cancel_left e4
  have hlen : (texB l 3).length ≤ b.length := by
    rw [h.2.2]
    unfold batchB
    simp only [List.length_append]
    omega
  have u3 := (TexOf.of (r := []) (List.append_nil _) : TexOf (texB l 3) l.length (texL l)).unique (by rw [e1]; exact TexOf.of (r := []) (by rw [List.append_nil]; exact e5.symm)) (by omega)
  exact cols_same e1 u1 u2 u3

/-- A slice of operations, read by their cells. -/
theorem OpsAt.of {w : World} {v : Value} {l l' : List OpV} (h : OpsAt w v l) (he : l.map OpC = l'.map OpC) : OpsAt w v l' := by
  unfold OpsAt at h ⊢
  have : l.map opL = l'.map opL := by
    have h2 := congrArg (fun z => z.map Array.toList) he
    simp only [List.map_map] at h2
    exact h2
  rwa [← this]

set_option maxHeartbeats 4000000 in
theorem alive_any (w : World) (hE : ErrT w) : Calls Tryz.prog 4 #[] w (Ret (.bool true) w) := by
  have hO : OpsAt (w.alloc (.cells (OpC liveB) 42)) (.slice (some ⟨w.heap.size, 0, none⟩) 1 1) [liveB] := rows_box w _ (opL liveB) rfl _ rfl
  have hE := Lib.hid hE
  have HE : ∀ W v, OpsAt W v [liveB] → Calls Tryz.prog 9 #[v] W fun e w' => ∃ v', e = .returned (.tuple #[v', .int .i64 0]) ∧ Own w' W.heap.size v' (batchB [liveB]) ∧ Below W.heap.size W w' := fun W v h => by
    have := encode_any v [liveB] W h liveB_fits
    rwa [liveB_enc] at this
  go_enter Tryz.func4, Tryz.ntmps4
  go_wp2_with fail
  refine (HE _ _ hO).mono ?_
  rintro e w1 ⟨v1, rfl, ho1, hb1⟩
  have hbel1 := then_call (below_box1 w (.cells (OpC liveB) 42)) hb1
  have hby := ho1.bytes (batchB_byte _)
  have hle : ((batchB [liveB]).length : Int) ≤ 9223372036854775807 := by have := hby.row.le; rwa [bvals_length] at this
  have hlong := live_long
  have hfirst := live_first
  obtain ⟨L, hL⟩ : ∃ L, batchB [liveB] = L := ⟨_, rfl⟩
  have hnb : ∀ l', ¬ IsBatch L l' → IsBatch L l' → False := fun _ h h' => h h'
  have hlive : IsBatch L [liveB] := by rw [← hL]; exact liveB_is
  rw [hL] at hby hle hlong hfirst
  have HD := decode_any v1 L w1 hby (hE.out.below hbel1)
  obtain ⟨ad, h1, h2, h3⟩ := RowAt.index hby.row elemY.ht elemY.hs (k := 0) (by rw [bvals_length]; omega)
  replace h1 : ∀ W, (Instr.indexAt 22 v1 (.int .i64 0)).run Tryz.prog W = .ok (.pointer (some ad)) W := h1
  have h2 : w1.cell? ad = some (.int .u8 1) := by
    rw [h2]
    have hp : 0 < L.length := by omega
    simp only [bvals, List.getElem?_map, List.getElem?_eq_getElem hp, Option.map_some, bval]
    have : L[0] = 1 := by rw [← hfirst, List.getD, List.getElem?_eq_getElem hp]; rfl
    rw [this]; rfl
  have hlb := fun W => hby.len (ty := 3) W
  obtain ⟨N, hN⟩ : ∃ N, L.length = N := ⟨_, rfl⟩
  rw [hN] at hlb hlong
  have hg1 : decide ((30 : Int) < (N : Int)) = true := decide_eq_true hlong
  replace hL := Lib.hid hL
  replace hfirst := Lib.hid hfirst
  replace hN := Lib.hid hN
  have hby := Lib.hid hby
  have hlive := Lib.hid hlive
  clear HE hlong hO
  go_wp2_with fail
  refine HD.mono ?_
  rintro e w2 ⟨hb2, h⟩
  rcases h with ⟨l, v, hl, rfl, ho⟩ | ⟨hno, rfl⟩
  · have ho' := ho.of (hl.same hlive.out hle)
    have hll : ∀ W, (Builtin.len_ #[24] 3 #[v]).run Tryz.prog W = .ok (.int .i64 1) W := fun W => ho'.len 3 W
    obtain ⟨bk, off, hix, hel, hbk⟩ := ho'.index (i := 0) rfl
    replace hix : ∀ W, (Instr.indexAt 24 v (.int .i64 0)).run Tryz.prog W = .ok (.pointer (some ⟨bk, off, none⟩)) W := hix
    have e14 : w2.cell? ⟨bk, off + 14, none⟩ = some (.int .i64 97) := hel 14 _ rfl
    have h2' : w2.cell? ad = some (.int .u8 1) := (hb2.cell h3).trans h2
    have hx := Lib.hid (hbel1.trans (hb2.mono hbel1.size))
    clear hel ho ho' hl
    go_wp2
    go_ret
    exact ⟨rfl, hx.out⟩
  · exact absurd hlive.out (hno _)
end Go.Proofs.YthpgfnhecfgiaaaGreatDoor
