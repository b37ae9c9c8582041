/-
  Deltas, the code's own: the differences in a new slice, then its runs.
-/
import Derived.Test.YtdonbgejnllhlaaCcStore
import Derived.Test.YtdonbgejnllhlaaCoDeltas
namespace Go.Proofs.Ytdonbgejnllhlaa
open Go.RowKit Go.Sort

theorem wpList_make_run {P : Program} {w w' : World} {ops : Array Oper} {rest : List Oper} {o : Oper} {a : Act} {Q : Exit → Act → World → Prop} (hg : o.guard = none) (l c : Operand) (t : TypeId) (hop : o.op = .makeSlice t l c) {x y v : Value}
    (hl : a.eval l = x) (hc : a.eval c = y) (hrun : (Instr.makeSlice t x y).run P w = .ok v w') (h : wpList P ops Q rest (a.put o.dst v) w') : wpList P ops Q (o :: rest) a w := by
  refine wpList_plain hg fun K hK' => ?_
  unfold Oper.wp
  simp [execOp, hop, hl, hc, hrun, Result.andThen]
  exact hK' _ _ h

theorem set_mid {α : Type} (A : List α) (x y : α) (B : List α) : (A ++ x :: B).set A.length y = A ++ [y] ++ B := by
  simp

/-- i differences are put, p is ahead of the next one. -/
structure DeltaAt (l : List Int) (i : Nat) (p : Int) (d : List Int) : Prop where
  made : d = deltaL 0 (l.take i) ++ List.replicate (l.length - i) 0
  prev : p = (l.take i).getLast?.getD 0

theorem DeltaAt.start (l : List Int) : DeltaAt l 0 0 (List.replicate l.length 0) := ⟨by simp [deltaL], by simp⟩
theorem DeltaAt.next {l : List Int} {i : Nat} {p x : Int} {d : List Int} (h : DeltaAt l i p d) (hi : i < l.length) (hx : l.getD i 0 = x) : DeltaAt l (i + 1) x (d.set i (w64 (x - p))) := by
  have e : l.take (i + 1) = l.take i ++ [x] := by
    rw [List.take_add_one, List.getElem?_eq_getElem hi]
    simp only [List.getD, List.getElem?_eq_getElem hi, Option.getD_some] at hx
    simp [hx]
  have hlen : (deltaL 0 (l.take i)).length = i := by rw [delta_len, List.length_take]; omega
  refine ⟨?_, by rw [e]; simp⟩
  rw [h.made, e, delta_snoc, ← h.prev, show l.length - i = (l.length - (i + 1)) + 1 by omega, List.replicate_succ]
  have := set_mid (deltaL 0 (l.take i)) (0 : Int) (w64 (x - p)) (List.replicate (l.length - (i + 1)) 0)
  rw [hlen] at this
  exact this
theorem DeltaAt.len {l : List Int} {i : Nat} {p : Int} {d : List Int} (h : DeltaAt l i p d) (hi : i ≤ l.length) : d.length = l.length := by
  rw [h.made, List.length_append, delta_len, List.length_take, List.length_replicate]; omega
theorem DeltaAt.done {l : List Int} {i : Nat} {p : Int} {d : List Int} (h : DeltaAt l i p d) (hi : l.length ≤ i) : d = deltaL 0 l := by
  rw [h.made, List.take_of_length_le hi, show l.length - i = 0 by omega]; simp
theorem ints_set (d : List Int) (i : Nat) (x : Int) : (ints d).set i (.int .i64 x) = ints (d.set i x) := by simp [ints, List.map_set]

theorem sub_w64 (a b : Int) : IntKind.i64.wrap (a - b) = w64 (a - b) := by
  rw [IntKind.wrap_i64]; unfold w64; omega
theorem add_w64 (a b : Int) : IntKind.i64.wrap (a + b) = w64 (a + b) := by
  rw [IntKind.wrap_i64]; unfold w64; omega

set_option maxRecDepth 20000 in
set_option maxHeartbeats 2000000 in
theorem cDeltas_any (v : Value) (l : List Int) (w : World) (hv : IntsAt w v l) (hr : ∀ x ∈ l, InR x) (hl : l.length ≤ 65536) :
    Calls Try.prog 13 #[v] w fun e w' => ∃ v', e = .returned v' ∧ Own w' w.heap.size v' (bytesR (deltaL 0 l)) ∧ Below w.heap.size w w' := by
  have hlv := fun W => hv.len (ty := 3) W
  obtain ⟨wm, hmk, hownm, hbm⟩ := run_make_ints w l.length hl
  have hmk := Lib.hid hmk
  obtain ⟨sl, hsl⟩ : ∃ sl, Value.slice (some ⟨w.heap.size, 0, none⟩) l.length l.length = sl := ⟨_, rfl⟩
  rw [hsl] at hmk hownm
  clear hsl
  have hv := Lib.hid hv
  have hr := Lib.hid hr
  go_enter Try.func13, Try.ntmps13
  go_wp2_with (at_make; refine wpList_make_run rfl (.tmp 8) (.tmp 8) _ rfl rfl rfl hmk.out ?_)
  go_loopw [4, 12] (fun o t wr => ∃ (i : Nat) (p : Int) (d : List Int), t = .int .i64 i ∧ o = .int .i64 p ∧ i ≤ l.length ∧ OwnRow wr w.heap.size 3 sl (ints d) ∧ Hid (DeltaAt l i p d) ∧ Below w.heap.size w wr) (fun _ t _ => l.length - (intOf t).toNat)
  case atStart => exact ⟨0, 0, _, rfl, rfl, by omega, hownm, Lib.hid (DeltaAt.start l), hbm⟩
  case round =>
    obtain ⟨i, p, d, rfl, rfl, hi, hown, hso, hbel⟩ := hrel
    rcases Nat.lt_or_ge i l.length with hil | hil
    · obtain ⟨ad, ha, hac, hab⟩ := hv.out.index hil
      obtain ⟨x, hx⟩ : ∃ x, l.getD i 0 = x := ⟨_, rfl⟩
      rw [hx, ← hbel.cell (p := ad) hab] at hac
      obtain ⟨bd, hb, hbc, hbf, hb1, hb2, hset⟩ := hown.store elemI (k := i) (by rw [ints_len, hso.out.len (by omega)]; exact hil)
      have hbs : ∃ u, wr.cell? bd = some (.int .i64 u) := by
        rw [hbc]
        refine ⟨d.getD i 0, ?_⟩
        have := hso.out.len (by omega)
        simp [ints, List.getD, List.getElem?_eq_getElem (show i < d.length by omega)]
      obtain ⟨u, hbs⟩ := hbs
      obtain ⟨D, hD⟩ : ∃ D, w64 (x - p) = D := ⟨_, rfl⟩
      have hsw : IntKind.i64.wrap (x - p) = D := by rw [sub_w64, hD]
      have hnext := Lib.hid (hso.out.next hil hx)
      obtain ⟨hown2, hbel2⟩ := hset (.int .i64 D)
      rw [ints_set] at hown2
      rw [hD] at hnext
      have hbel3 := hbel.trans hbel2
      clear hx hD hbc hset
      go_wp2
      go_roundw
      case rel => exact ⟨i + 1, x, d.set i D, by go_num, rfl, by omega, hown2, hnext, hbel3⟩
      case measure => simp [intOf]; omega
    · have hd : Hid (d = deltaL 0 l) := Lib.hid (hso.out.done hil)
      have hdl : d.length ≤ 65536 := by rw [hso.out.len hi]; exact hl
      go_wp2_with (go_at_call 11; refine (cRuns_any _ d _ hown.row (by rw [hd.out]; exact delta_in 0 l) hdl).mono ?_; rintro e' w2 ⟨v2, rfl, ho2, hb2⟩)
      go_ret
      exact ⟨_, rfl, by rw [← hd.out]; exact ho2.lower hbel.size, then_call hbel hb2⟩
end Go.Proofs.Ytdonbgejnllhlaa
