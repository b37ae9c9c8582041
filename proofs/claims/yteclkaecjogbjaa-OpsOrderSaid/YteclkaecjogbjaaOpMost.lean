/-
  Of each replica the greatest counter: the program.
-/
import Derived.Test.YteclkaecjogbjaaOpLaws
import Derived.Test.YteclkaecjogbjaaOpRows
namespace Go.Proofs.Yteclkaecjogbjaa
open Go.RowKit Go.Sort

def mostL (l : List OpV) : Nat → Int := l.foldl (fun f o => withF f o.n o.r) fun _ => 0
theorem mostL_snoc {l : List OpV} {i : Nat} {o : OpV} (h : l[i]? = some o) : mostL (l.take (i + 1)) = withF (mostL (l.take i)) o.n o.r := by
  have : l.take (i + 1) = l.take i ++ [o] := by rw [List.take_add_one, h]; rfl
  rw [this]
  unfold mostL
  rw [List.foldl_append]
  rfl

/-- A whole vector is read; stored. -/
theorem load_vec {ops : Array Oper} {Q : Exit → Act → World → Prop} {rest : List Oper} {a : Act} {w : World} {d : Option Tmp} {t : Tmp} {ty : TypeId} {pos : String} {after : Array Edge} {g : Option (Nat × Bool)} {b : Nat} {f : Nat → Int}
    (hA : VAt w b f) (hw : Region.wanted { dst := d, op := .load 25 (.tmp t), type := ty, pos := pos, after := after, guard := g } (yielded ops a.tmps) = true) (hx : a.tmps.getD t undef = .pointer (some ⟨b, 0, none⟩))
    (h : wpList Try.prog ops Q rest (a.put d (.agg (V f))) w) : wpList Try.prog ops Q ({ dst := d, op := .load 25 (.tmp t), type := ty, pos := pos, after := after, guard := g } :: rest) a w :=
  BigFrame.wpList_want hw fun K hK => by
    unfold Oper.wp execOp
    have hx' : a.eval (.tmp t) = .pointer (some ⟨b, 0, none⟩) := hx
    simp only [hx', Instr.loadAt, Instr.sureAddr, Sem.run_bind, Sem.run_pure, Result.andThen_ok, run_loadVar_row _ b 25 25 _ _ _ hA Try.underlying25 rfl infoV]
    exact hK _ _ h
theorem store_vec {ops : Array Oper} {Q : Exit → Act → World → Prop} {rest : List Oper} {a : Act} {w : World} {t u : Tmp} {ty : TypeId} {pos : String} {after : Array Edge} {b : Nat} {f g : Nat → Int}
    (hA : VAt w b f) (hx : a.tmps.getD t undef = .pointer (some ⟨b, 0, none⟩)) (hy : a.tmps.getD u undef = .agg (V g))
    (h : wpList Try.prog ops Q rest a (w.setRow b (V g))) : wpList Try.prog ops Q ({ dst := none, op := .store 25 (.tmp t) (.tmp u), type := ty, pos := pos, after := after, guard := none } :: rest) a w :=
  wpList_store_row rfl 25 (.tmp t) (.tmp u) rfl b (V g) hx hy 25 (V f) hA infoV rfl (V_one _) h

theorem most_boxes (w : World) : ∃ W, (w.alloc (.cells #[.int .i64 0, .int .i64 0, .int .i64 0, .int .i64 0, .int .i64 0, .int .i64 0, .int .i64 0, .int .i64 0] 25)).alloc (.cells #[.int .i64 0, .int .i64 0, .int .i64 0, .int .i64 0, .int .i64 0, .int .i64 0, .int .i64 0, .int .i64 0] 25) = W ∧ Below w.heap.size w W ∧ VAt W w.heap.size (fun _ => 0) ∧ VAt W (w.heap.size + 1) (fun _ => 0) ∧ w.heap.size + 2 ≤ W.heap.size := by
  refine ⟨_, rfl, below_alloc2 _ _ _, (VAt.new w (fun _ => 0)).alloc _, ?_, by simp⟩
  have h := VAt.new (w.alloc (.cells #[.int .i64 0, .int .i64 0, .int .i64 0, .int .i64 0, .int .i64 0, .int .i64 0, .int .i64 0, .int .i64 0] 25)) (fun _ => 0)
  rw [show (w.alloc (.cells #[.int .i64 0, .int .i64 0, .int .i64 0, .int .i64 0, .int .i64 0, .int .i64 0, .int .i64 0, .int .i64 0] 25)).heap.size = w.heap.size + 1 from by simp] at h
  exact h

set_option maxRecDepth 20000 in
set_option maxHeartbeats 3200000 in
theorem opsMost_any (l : List OpV) (v : Value) (w : World) (hv : OpsAt w v l) : Calls Try.prog 17 #[v] w (Ret (.agg (V (mostL l))) w) := by
  have hll := fun W => hv.len 3 W
  have hle := hv.le
  obtain ⟨W, hW, hb, hR, hM, hsz⟩ := most_boxes w
  go_enter Try.func17, Try.ntmps17
  go_wp2
  clear hW
  have hv := Lib.hid hv
  go_loopw [8] (fun i wr => ∃ k : Nat, k ≤ l.length ∧ i = .int .i64 k ∧ VAt wr w.heap.size (fun _ => 0) ∧ VAt wr (w.heap.size + 1) (mostL (l.take k)) ∧ Below w.heap.size w wr) (fun i _ => l.length - (intOf i).toNat)
  case atStart => exact ⟨0, by omega, rfl, hR, hM, hb⟩
  case round =>
    clear hR hM hb hsz
    obtain ⟨k, hk, rfl, hR, hM, hb⟩ := hrel
    by_cases hlt : k < l.length
    · have hk4 : (k : Int) < (l.length : Int) := by omega
      obtain ⟨o, ho⟩ : ∃ o, l[k]? = some o := ⟨_, List.getElem?_eq_getElem hlt⟩
      obtain ⟨bk, off, hix, hc, hbk⟩ := hv.out.index ho
      have hc := range_after hc hb hbk
      obtain ⟨p, W2, hp, h0, hW2, hb2, hX⟩ := new_op_of hb o
      have hlR := hR.lt
      have hlM := hM.lt
      have hR2 := hR.after hb2
      have hM2 := hM.after hb2
      have hB2 := hb.trans (hb2.mono hb.size)
      have c0 := hX.c0
      have c1 := hX.c1
      have hsn := mostL_snoc ho
      have hsn := Lib.hid hsn
      obtain ⟨f, hf⟩ : ∃ f, mostL (l.take k) = f := ⟨_, rfl⟩
      rw [hf] at hM2
      go_wp2_with (first
        | ((with_reducible refine load_mid hc ?_ ?_ ?_); rfl; rfl)
        | ((with_reducible refine store_op (x := o) h0 ?_ ?_ ?_); rfl; rfl; rw [hW2])
        | ((with_reducible refine load_vec hM2 ?_ ?_ ?_); rfl; rfl)
        | (go_at_call 21; refine (with_any f o.n o.r _).mono ?_; rintro e w3 ⟨rfl, hb3⟩; have hM3 := hM2.after hb3; have hR3 := hR2.after hb3; have hB3 := then_call hB2 hb3)
        | ((with_reducible refine store_vec (g := withF f o.n o.r) hM3 ?_ ?_ ?_); rfl; rfl))
      exact ⟨⟨k + 1, by omega, by go_num, hR3.rowOther (by omega) _, by rw [hsn.out, hf]; exact hM3.row _, below_setRow hB3 (by omega) _⟩, by simp [intOf]; omega⟩
    · obtain rfl : k = l.length := by omega
      rw [List.take_length] at hM
      go_wp2_with (first
        | ((with_reducible refine load_vec hM ?_ ?_ ?_); rfl; rfl)
        | ((with_reducible refine store_vec (g := mostL l) hR ?_ ?_ ?_); rfl; rfl))
      refine bodyPost_ret (results_vec rfl _ _ _ _ rfl (hR.row _)) rfl ⟨rfl, below_setRow hb (Nat.le_refl _) _⟩
end Go.Proofs.Yteclkaecjogbjaa
