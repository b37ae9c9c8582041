/-
  Files are apart: the law.
-/
import Derived.Test.YtpkiapjcilapoaaFaAct
import Derived.Test.YtpkiapjcilapoaaFaAlive
import Derived.Test.YtpkiapjcilapoaaFaOpen
namespace Go.Proofs.Ytpkiapjcilapoaa
open Go.RowKit Go.Sort Go.Maps

theorem htOp : Try.prog.underlying 22 = some (.slice 35) := Try.underlying22
theorem hsOp : ∀ W, (sizeOf 35).run Try.prog W = .ok 8 W := fun W => by kernel_rfl
theorem elemSure : ElemK Try.prog 46 51 (.agg #[.string ByteArray.empty, .slice none 0 0]) 2 40 := ⟨Try.underlying46, by kernel_rfl, rfl, by omega, by omega, fun W => by kernel_rfl⟩

theorem OpD.Ok.below {o : OpD} {w w' : World} (h : o.Ok w) (hb : Below w.heap.size w w') : o.Ok w' := ⟨h.kind, h.nm, h.s, h.b.below hb, h.at_, h.names, h.torn, h.kv.imp fun _ hk => RowAt.below hk hb⟩
theorem BytesAt.low {w : World} {v : Value} {l : List Nat} (h : BytesAt w v l) (hl : l ≠ []) : ∀ x, v.ownBlock = some x → x < w.heap.size := by
  obtain ⟨A, c, rfl, _, _, _, h5, _⟩ := h
  obtain ⟨b, off, rfl, hb, _⟩ := h5 (List.length_pos_iff.2 hl)
  intro x hx
  simp [Value.ownBlock] at hx
  subst hx; exact hb

/-- A document's disk without anything. -/
theorem newRef_at {n : Nat} (w : World) (hn : n ≤ w.heap.size) : DiskR n (w.alloc (.cells #[.slice none 0 0, .int .i64 0, .int .i64 0] 28)) w.heap.size (.slice none 0 0) [] 0 0 [w.heap.size] := by
  refine ⟨heap_alloc_new w _, OwnRows.none_ _ _ _ _, by simp, by intro s hs; simp at hs, by simp, by simp [Value.ownBlock], by simp, ?_, by simp⟩
  intro b hb
  simp at hb
  subst hb
  simp; omega
theorem two_new {n p : Nat} {w : World} {d : CDisk} (h : DiskK n w p d) : Two n (w.alloc (.cells #[.slice none 0 0, .int .i64 0, .int .i64 0] 28)) p d w.heap.size [] 0 0 :=
  ⟨_, _, h.below (below_box1 _ _), newRef_at w h.nle, fun b hb => by have := (h.low b hb).2; simp; omega⟩
theorem sizedR_new : SizedR 0 [] 0 := ⟨Nat.le_refl _, Nat.le_refl _, fun f => by simp [heldF]⟩

/-- Files at one place are one. -/
theorem file_one {n p : Nat} {w : World} {d : CDisk} (h : DiskK n w p d) {f g : CFile} (hf : f ∈ d.fs) (hg : g ∈ d.fs) (hq : f.q = g.q) : f = g := by
  have hnd := h.nodup
  rw [CDisk.wb_eq] at hnd
  have h1 := (List.nodup_append.1 hnd).2.1
  generalize d.fs = fs at h1 hf hg
  induction fs with
  | nil => simp at hf
  | cons a t ih =>
    rw [List.flatMap_cons, List.nodup_append] at h1
    have hin : ∀ x ∈ t, x.q ∈ t.flatMap CFile.wb := fun x hx => List.mem_flatMap.2 ⟨x, hx, by simp [CFile.wb]⟩
    rcases List.mem_cons.1 hf with e | hf1
    · rcases List.mem_cons.1 hg with e' | hg1
      · rw [e, e']
      · exact absurd hq (h1.2.2 f.q (by rw [e]; simp [CFile.wb]) g.q (hin g hg1))
    · rcases List.mem_cons.1 hg with e' | hg1
      · exact absurd hq.symm (h1.2.2 g.q (by rw [e']; simp [CFile.wb]) f.q (hin f hf1))
      · exact ih h1.2.1 hf1 hg1
theorem holds_one {n p : Nat} {w : World} {d : CDisk} (h : DiskK n w p d) {nm : ByteArray} {b c : List Nat} (hb : Holds_ d nm b) (hc : Holds_ d nm c) : b = c := by
  obtain ⟨f, hf, h1, rfl⟩ := hb
  obtain ⟨g, hg, h2, rfl⟩ := hc
  rw [h1] at h2
  injection h2 with h2
  rw [file_one h hf hg h2]

/-- What a file that is there is read as. -/
theorem read_held {n p : Nat} {w : World} {d : CDisk} (h : DiskK n w p d) (hs : Small d) (hR : Righted d) {nm : ByteArray} {b : List Nat} (hb : Holds_ d nm b) :
    Calls Try.prog 16 #[.pointer (some ⟨p, 0, none⟩), .string nm] w fun e w' => ∃ v', e = .returned (.tuple #[v', .int .i64 0]) ∧ Own w' w.heap.size v' b ∧ BytesAt w' v' b ∧ Below w.heap.size w w' := by
  have hb' := hb
  obtain ⟨f, hf, hq, _⟩ := hb'
  refine (read_any h hs nm (right_size (hR nm _ hq))).mono ?_
  rintro e w' ⟨v', b', e0, rfl, ho, hby, hbel, hw⟩
  rcases hw with ⟨hn, _⟩ | ⟨g, hg, hgq, rfl, rfl⟩
  · rw [hq] at hn; cases hn
  · obtain rfl : g.all = b := holds_one h ⟨g, hg, hgq, rfl⟩ hb
    exact ⟨v', rfl, ho, ho.bytes hby, hbel⟩

theorem names_holds {n p : Nat} {w : World} {d : CDisk} (h : DiskK n w p d) {x : List UInt8} (hx : x ∈ namesL (namesOf d.nam)) : ∃ b, Holds_ d ⟨x.toArray⟩ b := by
  obtain ⟨q, hq⟩ := (names_mem h x).1 hx
  obtain ⟨f, hf, rfl⟩ := h.named.file _ q hq
  exact ⟨f.all, f, hf, hq, rfl⟩

def sureCells (x : ByteArray × Value × List Nat) : List Value := [.string x.1, x.2.1]
theorem sure_one (nm : ByteArray) (A : Option Addr) (m c : Nat) : ∀ y ∈ [[Value.string nm, .slice A m c]], ∀ u ∈ y, u.oneCell' = true := by
  intro y hy u hu
  simp at hy; subst hy
  simp at hu
  rcases hu with rfl | rfl <;> rfl
/-- What is held of some files. -/
structure HeldAt (w : World) (n : Nat) (v : Value) (hs : List (ByteArray × Value × List Nat)) : Prop where
  row : OwnRows w n 51 2 v (hs.map sureCells)
  bytes : ∀ x ∈ hs, BytesAt w x.2.1 x.2.2
  apart : ∀ x ∈ hs, ∀ b, x.2.1.ownBlock = some b → v.ownBlock ≠ some b ∧ b < w.heap.size ∧ n ≤ b

theorem HeldAt.nil (w : World) (n : Nat) : HeldAt w n (.slice none 0 0) [] := ⟨OwnRows.none_ _ _ _ _, by simp, by simp⟩
theorem HeldAt.below {w w' : World} {n : Nat} {v : Value} {hs : List (ByteArray × Value × List Nat)} (h : HeldAt w n v hs) (hb : Below w.heap.size w w') : HeldAt w' n v hs :=
  ⟨h.row.below hb, fun x hx => (h.bytes x hx).below hb, fun x hx b hbb => ⟨(h.apart x hx b hbb).1, Nat.lt_of_lt_of_le (h.apart x hx b hbb).2.1 hb.size, (h.apart x hx b hbb).2.2⟩⟩
theorem HeldAt.turns {F : List Nat} {w w' : World} {n : Nat} {v : Value} {hs : List (ByteArray × Value × List Nat)} (h : HeldAt w n v hs) (ht : Turns F w w') (hF : ∀ b ∈ F, b < n) : HeldAt w' n v hs := by
  refine ⟨h.row.turns ht (fun b hb hh => ?_), fun x hx => (h.bytes x hx).turns ht (fun b hb hh => ?_), fun x hx b hbb => ⟨(h.apart x hx b hbb).1, Nat.lt_of_lt_of_le (h.apart x hx b hbb).2.1 ht.size, (h.apart x hx b hbb).2.2⟩⟩
  · have := (h.row.block b hb).1; have := hF b hh; omega
  · have := (h.apart x hx b hb).2.2; have := hF b hh; omega
theorem HeldAt.put {w w1 w2 : World} {n : Nat} {v v1 v2 : Value} {nm : ByteArray} {b : List Nat} {hs : List (ByteArray × Value × List Nat)} (h : HeldAt w n v hs) (hn : n ≤ w.heap.size) (hb1 : Below w.heap.size w w1) (ho : Own w1 w.heap.size v1 b) (hby : BytesAt w1 v1 b) (o : Obj)
    (hr : OwnRows w2 n 51 2 v2 (hs.map sureCells ++ [[.string nm, v1]])) (ht : Turns v.ownBlock.toList (w1.alloc o) w2) (hl : ∀ b, v2.ownBlock = some b → v.ownBlock = some b ∨ (w1.alloc o).heap.size ≤ b) :
    HeldAt w2 n v2 (hs ++ [(nm, v1, b)]) ∧ Below n w w2 := by
  have hs1 := hb1.size
  have hs2 : w1.heap.size < (w1.alloc o).heap.size := by simp
  have hs3 := ht.size
  have hvl : ∀ b, v.ownBlock = some b → n ≤ b ∧ b < w.heap.size := fun b hb => h.row.block b hb
  have hnew : ∀ b, v1.ownBlock = some b → w.heap.size ≤ b ∧ b < w1.heap.size := fun b hb => World.ownsRow.lt ho b hb
  refine ⟨⟨by simpa [sureCells] using hr, fun x hx => ?_, fun x hx b' hb' => ?_⟩, ?_⟩
  · rcases List.mem_append.1 hx with hx | hx
    · refine (((h.bytes x hx).below hb1).below (below_box1 _ o)).turns ht (fun k hk => ?_)
      have := (h.apart x hx k hk).1
      simpa using this
    · simp at hx
      subst hx
      refine (hby.below (below_box1 _ o)).turns ht (fun k hk => ?_)
      have := (hnew k hk).1
      intro hh
      have := (hvl k (by simpa using hh)).2
      omega
  · rcases List.mem_append.1 hx with hx | hx
    · have := h.apart x hx b' hb'
      refine ⟨fun hh => ?_, by omega, this.2.2⟩
      rcases hl b' hh with e | e
      · exact this.1 e
      · omega
    · simp at hx
      subst hx
      have k := hnew b' hb'
      refine ⟨fun hh => ?_, by omega, by omega⟩
      rcases hl b' hh with e | e
      · have := (hvl b' e).2; omega
      · omega
  · exact ((hb1.mono hn).trans ((below_box1 w1 o).mono (by omega))).trans (ht.below (by omega) (fun b hb => (hvl b (by simpa using hb)).1))

theorem names_again {n p : Nat} {w : World} {d : CDisk} (h : DiskK n w p d) (hs : d.nam.length ≤ 8000) {names : List (List UInt8)} (hn : namesL (namesOf d.nam) = names) :
    Calls Try.prog 14 #[.pointer (some ⟨p, 0, none⟩)] w fun e w' => ∃ v9, e = .returned v9 ∧ (∀ W, (Builtin.len_ #[44] 3 #[v9]).run Try.prog W = .ok (.int .i64 (names.length : Nat)) W) ∧ Below w.heap.size w w' := by
  refine (names_any h hs).mono ?_
  rintro e w' ⟨v, rfl, hr, hb⟩
  refine ⟨v, rfl, fun W => ?_, hb⟩
  have := hr.row.len (ty := 3) Try.underlying44 W
  rwa [List.length_map, hn] at this

/-- What stands behind so many acts. -/
def Played (n p pr : Nat) (w : World) (k : Nat) (d : CDisk) (wr : World) : Prop := ∃ L born, Two n wr p d pr L born 0 ∧ Below n w wr ∧ Sized k d ∧ SizedR k L born ∧ Righted d

set_option maxRecDepth 20000 in
set_option maxHeartbeats 8000000 in
theorem filesApart_walk (w : World) (v : Value) (l : List OpD) (o : OpD) (hv : ScriptAt w v l) (ho : o.Ok w) :
    Calls Try.prog 7 #[v, .agg #[.int .i64 o.kind, .string o.nm, .string o.s, o.bv, .int .i64 o.at_, .int .i64 o.names, o.kv, .int .i64 o.torn]] w (Ret (.bool true) w) := by
  obtain ⟨hrow, hops⟩ := hv
  obtain ⟨W1, hW1⟩ : ∃ W1, w.alloc (.cells #[.int .i64 o.kind, .string o.nm, .string o.s, o.bv, .int .i64 o.at_, .int .i64 o.names, o.kv, .int .i64 o.torn] 35) = W1 := ⟨_, rfl⟩
  have hbx : W1.heap[w.heap.size]? = some (.cells #[.int .i64 o.kind, .string o.nm, .string o.s, o.bv, .int .i64 o.at_, .int .i64 o.names, o.kv, .int .i64 o.torn] 35 (0, 0)) := by rw [← hW1]; exact heap_alloc_new w _
  have hb1 : Below w.heap.size w W1 := by rw [← hW1]; exact below_box1 _ _
  have hxl : w.heap.size < W1.heap.size := (Array.getElem?_eq_some_iff.1 hbx).1
  have hlv : ∀ W, (Builtin.len_ #[22] 3 #[v]).run Try.prog W = .ok (.int .i64 (l.length : Nat)) W := fun W => by
    have := hrow.len htOp (ty := 3) W; rwa [List.length_map] at this
  have hle := hrow.le
  rw [List.length_map] at hle
  have hrow := Lib.hid (hrow.below hb1)
  have hops := Lib.hid (fun x hx => (hops x hx).below hb1)
  have ho := Lib.hid (ho.below hb1)
  have cN := Lib.hid (new_any W1 (Nat.le_refl _))
  have hbx := Lib.hid hbx
  have hb1 := Lib.hid hb1
  go_enter Try.func7, Try.ntmps7
  go_wp2_with (first
    | (go_at_call 8; refine cN.out.mono ?_; rintro e' w2 ⟨rfl, hd2, hb2⟩; have hd2 := Lib.hid hd2; have hb2 := Lib.hid hb2)
    | (go_at_call 9; refine (alive_any w2).mono ?_; rintro e' w3 ⟨rfl, hb3⟩; have hd3 := Lib.hid (hd2.out.below hb3); have hb3 := Lib.hid (then_call hb2.out hb3)))
  have hT0 : Two W1.heap.size (w3.alloc (.cells #[.slice none 0 0, .int .i64 0, .int .i64 0] 28)) W1.heap.size newDisk w3.heap.size [] 0 0 := two_new hd3.out
  have hB0 : Below W1.heap.size W1 (w3.alloc (.cells #[.slice none 0 0, .int .i64 0, .int .i64 0] 28)) := then_box hb3.out _
  obtain ⟨pr, hpr⟩ : ∃ pr, w3.heap.size = pr := ⟨_, rfl⟩
  rw [hpr] at hT0
  rw [hpr]
  go_loopw [7] (fun t wr => ∃ (i : Nat) (d : CDisk), t = .int .i64 (i : Nat) ∧ i ≤ l.length ∧ i ≤ 60 ∧ Hid (Played W1.heap.size W1.heap.size pr W1 i d wr)) (fun t _ => l.length - (intOf t).toNat)
  case atStart => exact ⟨0, newDisk, rfl, by omega, by omega, Lib.hid ⟨[], 0, hT0, hB0, sized_new, sizedR_new, righted_new⟩⟩
  case round =>
    clear hT0 hB0
    obtain ⟨i, d, rfl, hi, hi60, hpl⟩ := hrel
    by_cases hgo : i < l.length ∧ i < 60
    · obtain ⟨hil, hi6⟩ := hgo
      have q1 : decide ((i : Int) < (l.length : Int)) = true := decide_eq_true (by omega)
      have q2 : decide ((i : Int) < 60) = true := decide_eq_true (by omega)
      obtain ⟨x, hx⟩ : ∃ x, l[i]? = some x := ⟨_, List.getElem?_eq_getElem hil⟩
      obtain ⟨L, born, hT, hB, hS, hSR, hR⟩ := hpl.out
      have hxo := (hops.out x (List.mem_of_getElem? hx))
      obtain ⟨b, off, hix, hc, hbl, _⟩ := (hrow.out.below hB).index htOp hsOp (i := i) (x := x.cells) (by rw [List.getElem?_map, hx]; rfl)
      have k0 : wr.cell? ⟨b, off, none⟩ = some (.int .i64 x.kind) := hc 0 _ rfl
      have k1 : wr.cell? ⟨b, off + 1, none⟩ = some (.string x.nm) := hc 1 _ rfl
      have k2 : wr.cell? ⟨b, off + 2, none⟩ = some (.string x.s) := hc 2 _ rfl
      have k3 : wr.cell? ⟨b, off + 3, none⟩ = some x.bv := hc 3 _ rfl
      have k4 : wr.cell? ⟨b, off + 4, none⟩ = some (.int .i64 x.at_) := hc 4 _ rfl
      have k5 : wr.cell? ⟨b, off + 5, none⟩ = some (.int .i64 x.names) := hc 5 _ rfl
      have k6 : wr.cell? ⟨b, off + 6, none⟩ = some x.kv := hc 6 _ rfl
      have k7 : wr.cell? ⟨b, off + 7, none⟩ = some (.int .i64 x.torn) := hc 7 _ rfl
      have hbv := hxo.b.below hB
      have hlx := fun W => hbv.len (ty := 3) W
      rcases Nat.lt_or_ge 1000 x.b.length with hbig | hsm
      · have hq : decide ((x.b.length : Int) ≤ 1000) = false := decide_eq_false (by omega)
        have hp' : Hid (Played W1.heap.size W1.heap.size pr W1 (i + 1) d wr) := Lib.hid ⟨L, born, hT, hB, hS.mono (by omega), ⟨by have := hSR.len; omega, by have := hSR.born; omega, fun f => by have := hSR.held f; omega⟩, hR⟩
        clear hc hx hxo hbv hT hB hS hSR hR hpl hbig
        go_wp2
        go_roundw
        case rel => exact ⟨i + 1, d, by go_num, by omega, by omega, hp'⟩
        case measure => simp [intOf]; omega
      · have hq : decide ((x.b.length : Int) ≤ 1000) = true := decide_eq_true (by omega)
        obtain ⟨lvr, Br, kk1, kk2, kk3⟩ := id hT
        have cA := Lib.hid (act_any kk1 kk2 kk3 (hS.small (by omega)) (by have := hSR.len; omega) (by have := hSR.born; omega) (fun f => by have := hSR.held f; omega) x.kind x.nm x.s x.bv x.kv x.b x.at_ x.names x.torn hxo.nm hxo.s hbv (fun hne => hxo.b.low hne) hsm)
        unfold opV at cA
        clear hc hx kk1 kk2 kk3
        have hT := Lib.hid hT
        have hB := Lib.hid hB
        have hS := Lib.hid hS
        have hSR := Lib.hid hSR
        have hR := Lib.hid hR
        clear hxo hbv hpl
        have hsm := Lib.hid hsm
        go_wp2_with (go_at_call 12; refine cA.out.mono ?_; rintro e' w4 ⟨e1, e2, d', L', born', rfl, t1, t2, _, t3, t4⟩; have hp' : Hid (Played W1.heap.size W1.heap.size pr W1 (i + 1) d' w4) := Lib.hid ⟨L', born', t1, hB.out.trans t2, t3.sized hS.out, t4.sized hsm.out hSR.out, t3.righted hR.out⟩; clear t1 t2 t3 t4)
        go_roundw
        case rel => exact ⟨i + 1, d', by go_num, by omega, by omega, hp'⟩
        case measure => simp [intOf]; omega
    · obtain ⟨L, born, hT, hB, hS, hSR, hR⟩ := hpl.out
      have hbxr := cells_kept hbx.out (Turns.of_below (F := []) hB) (by simp)
      have x3 := cell_at (i := 3) hbxr rfl
      have hbv := ho.out.b.below hB
      have hlx := fun W => hbv.len (ty := 3) W
      have hqq : decide (i < l.length) = false ∨ (decide (i < l.length) = true ∧ decide ((i : Int) < 60) = false) := by
        by_cases hh : i < l.length
        · exact .inr ⟨decide_eq_true (by omega), decide_eq_false (by omega)⟩
        · exact .inl (decide_eq_false (by omega))
      have hBw : Below w.heap.size w wr := hb1.out.trans (hB.mono hb1.out.size)
      have hbxr := Lib.hid hbxr
      have hbv := Lib.hid hbv
      have hT := Lib.hid hT
      have hB := Lib.hid hB
      have hS := Lib.hid hS
      have hSR := Lib.hid hSR
      have hR := Lib.hid hR
      have hBw := Lib.hid hBw
      clear hpl hgo
      rcases Nat.lt_or_ge 1000 o.b.length with hbig | hsm
      · have hq : decide (1000 < (o.b.length : Int)) = true := decide_eq_true (by omega)
        clear hbig
        rcases hqq with q1 | ⟨q1, q2⟩
        all_goals
          go_wp2
          go_ret
          exact ⟨rfl, hBw.out⟩
      · have hq : decide (1000 < (o.b.length : Int)) = false := decide_eq_false (by omega)
        have cNm := Lib.hid (names_any hT.out.k (by have := hS.out.nam; omega))
        have hsm := Lib.hid hsm
        rcases hqq with q1 | ⟨q1, q2⟩
        all_goals
          go_wp2_with (go_at_call 14; refine cNm.out.mono ?_; rintro e' w5 ⟨vn, rfl, hnr, hb5⟩)
          have hT5 := Lib.hid (hT.out.below hb5)
          have hBw5 := Lib.hid (hBw.out.trans (hb5.mono hBw.out.size))
          have hB5 := Lib.hid (hB.out.trans (hb5.mono hB.out.size))
          have hbx5 := Lib.hid (cells_kept hbxr.out (Turns.of_below (F := []) hb5) (by simp))
          have hnrow := Lib.hid hnr.row
          obtain ⟨names, hnm⟩ : ∃ names, namesL (namesOf d.nam) = names := ⟨_, rfl⟩
          rw [hnm] at hnrow
          have hln : ∀ W, (Builtin.len_ #[44] 3 #[vn]).run Try.prog W = .ok (.int .i64 (names.length : Nat)) W := fun W => by
            have := hnrow.out.len (ty := 3) Try.underlying44 W; rwa [List.length_map] at this
          have hnle : (names.length : Int) ≤ 9223372036854775807 := by have := hnrow.out.le; rwa [List.length_map] at this
          have hnH := Lib.hid (fun x (hx : x ∈ names) => names_holds hT.out.k (by rw [hnm]; exact hx))
          have hnlen := Lib.hid ((names_len hT.out.k).symm.trans (by rw [hnm]))
          have hnmH := Lib.hid hnm
          clear hnr hb5 hnm cNm
          go_loopw [9, 10] (fun h' t wr2 => ∃ (hv : Value) (hs : List (ByteArray × Value × List Nat)) (i : Nat), hv = h' ∧ t = .int .i64 (i : Nat) ∧ i ≤ names.length ∧ Hid (HeldAt wr2 w5.heap.size hv hs ∧ hs.length = i ∧ (∀ x ∈ hs, Holds_ d x.1 x.2.2) ∧ Below w5.heap.size w5 wr2)) (fun _ t _ => names.length - (intOf t).toNat)
          case atStart => exact ⟨_, [], 0, rfl, rfl, by omega, Lib.hid ⟨HeldAt.nil _ _, rfl, by simp, Below.refl _ _⟩⟩
          case round =>
            obtain ⟨hv, hs, i2, rfl, rfl, hi2, hh⟩ := hrel
            rcases Nat.lt_or_ge i2 names.length with hil | hil
            · obtain ⟨x, hx⟩ : ∃ x, names[i2]? = some x := ⟨_, List.getElem?_eq_getElem hil⟩
              obtain ⟨c, hc⟩ := hnH.out x (List.mem_of_getElem? hx)
              obtain ⟨hh1, hh2, hh3, hh4⟩ := hh.out
              obtain ⟨ad, hix, hcell, hadl⟩ := (hnrow.out.below hh4).index Try.underlying44 (fun W => by kernel_rfl) (k := i2) (by rw [List.length_map]; exact hil)
              rw [List.getElem?_map, hx] at hcell
              have hcell : wr.cell? ad = some (.string ⟨x.toArray⟩) := hcell
              have hN0 := hh1.row.1
              have hn0 : w5.heap.size ≤ wr.heap.size := hh4.size
              have cRd := Lib.hid (read_held (hT5.out.below hh4).k (hS.out.small (by omega)) hR.out hc)
              have hlen2 : hs.length ≤ 10000 := by have := hnlen.out; have := hS.out.nam; have := (hT.out.k.map.size); omega
              have hlen3 : (hs.map sureCells).length ≤ 10000 := by rw [List.length_map]; exact hlen2
              have hHe := Lib.hid hh1
              have hH3 := Lib.hid hh3
              have hB4 := Lib.hid hh4
              clear hh hx hN0 hh1 hh3 hh4 hlen2
              go_wp2_with (first
                | (go_at_call 16; refine cRd.out.mono ?_; rintro e' w6 ⟨v6, rfl, ho6, hby6, hb6⟩; obtain ⟨A6, c6, rfl, _⟩ := id hby6; have hcell6 : w6.cell? ad = some (.string ⟨x.toArray⟩) := (hb6.cell (p := ad) hadl).trans hcell; have hro6 := hHe.out.row.below hb6)
                | (at_builtin; refine append_rows (v := hv) elemSure rfl (.tmp 74) (.tmp 81) rfl w5.heap.size rfl (hro6.alloc _) rfl (rows_box w6 _ [.string ⟨x.toArray⟩, .slice A6 c.length c6] rfl #[.string ⟨x.toArray⟩, .slice A6 c.length c6] rfl) (by simp) (sure_one _ _ _ _) (fits_one hlen3 (by simp)) (le_alloc (Nat.le_trans hn0 hb6.size) _) ?_; intro v7 w7 hown7 ht7 hl7))
              go_roundw
              case rel =>
                obtain ⟨j1, j2⟩ := hHe.out.put hn0 hb6 ho6 hby6 _ hown7 ht7 hl7
                refine ⟨v7, hs ++ [(⟨x.toArray⟩, .slice A6 c.length c6, c)], i2 + 1, rfl, by go_num, by omega, Lib.hid ⟨j1, by simp [hh2], fun y hy => ?_, hB4.out.trans j2⟩⟩
                rcases List.mem_append.1 hy with hy | hy
                · exact hH3.out y hy
                · simp at hy; subst hy; exact hc
              case measure => simp [intOf]; omega
            · obtain ⟨hh1, hh2, hh3, hh4⟩ := hh.out
              have hil' : ¬ ((i2 : Int) < (names.length : Int)) := by omega
              have hbx6 := cells_kept hbx5.out (Turns.of_below (F := []) hh4) (by simp)
              have x0 := cell_at (i := 0) hbx6 rfl
              have x1 := cell_at (i := 1) hbx6 rfl
              have x2 := cell_at (i := 2) hbx6 rfl
              have x3 := cell_at (i := 3) hbx6 rfl
              have x4 := cell_at (i := 4) hbx6 rfl
              have x5 := cell_at (i := 5) hbx6 rfl
              have x6 := cell_at (i := 6) hbx6 rfl
              have x7 := cell_at (i := 7) hbx6 rfl
              obtain ⟨lvr, Br, kk1, kk2, kk3⟩ := hT5.out
              have hld : Hid ((∀ b ∈ d.bs W1.heap.size, b < w5.heap.size) ∧ ∀ b ∈ Br, b < w5.heap.size) := Lib.hid ⟨fun b hb => (kk1.low b hb).2, fun b hb => (kk2.low b hb).2⟩
              have hk6 := kk1.below hh4
              have cC := Lib.hid (changes_any hk6)
              have hB6 : Below W1.heap.size W1 wr := hB5.out.trans (hh4.mono hB5.out.size)
              have cA := Lib.hid (act_any hk6 (kk2.below hh4) kk3 (hS.out.small (by omega)) (by have := hSR.out.len; omega) (by have := hSR.out.born; omega) (fun f => by have := hSR.out.held f; omega) o.kind o.nm o.s o.bv o.kv o.b o.at_ o.names o.torn ho.out.nm ho.out.s (ho.out.b.below hB6) (fun hne => ho.out.b.low hne) hsm.out)
              unfold opV at cA
              have hbx6H := Lib.hid hbx6
              have hlb : Hid (∀ b ∈ Br, W1.heap.size ≤ b) := Lib.hid (fun b hb => (kk2.low b hb).1)
              have hBw6 : Hid (Below w.heap.size w wr) := Lib.hid (hb1.out.trans (hB6.mono hb1.out.size))
              have hk6 := Lib.hid hk6
              have hH1 := Lib.hid hh1
              have hH3 := Lib.hid hh3
              have hH4 := Lib.hid hh4
              clear hh hbx6 kk1 kk2 kk3 hB6 hh1 hh3 hh4
              have hlh : ∀ W, (Builtin.len_ #[46] 3 #[hv]).run Try.prog W = .ok (.int .i64 (hs.length : Nat)) W := fun W => by
                have := hH1.out.row.rows.len elemSure.ht (ty := 3) W; rwa [List.length_map] at this
              go_wp2_with (first
                | (go_at_call 18; refine cC.out.mono ?_; rintro e' w8 ⟨rfl, rfl⟩)
                | (go_at_call 12; refine cA.out.mono ?_; rintro e' w8 ⟨e1, e2, d', L', born', rfl, t1, t2, t0, t3, t4⟩; have hK : Hid (∀ x ∈ hs, (e1 ≠ 0 ∨ (x.1 ≠ o.nm ∧ (o.kind = 4 → x.1 ≠ o.s))) → Holds_ d' x.1 x.2.2) := Lib.hid (fun x hx hne => t3.apart hk6.out.named (hH3.out x hx) hne hR.out); have hS8 := Lib.hid (t3.sized hS.out); have hR8 := Lib.hid (t3.righted hR.out); have hH8 := Lib.hid (hH1.out.turns t0.1 (fun b hb => by (rcases List.mem_append.1 hb with hb | hb; exact hld.out.1 b hb; exact hld.out.2 b hb))); have hbx8 := Lib.hid (cells_kept hbx6H.out t0.1 (fun hb => by (rcases List.mem_append.1 hb with hb | hb; exact absurd (hk6.out.low _ hb).1 (by omega); exact absurd (hlb.out _ hb) (by omega)))); have hB8 := Lib.hid (hBw6.out.trans (t2.mono (Nat.le_of_lt hxl))); have t1 := Lib.hid t1; have cC8 : Hid (0 < e1 → Calls Try.prog 18 #[.pointer (some ⟨W1.heap.size, 0, none⟩)] w8 fun e w' => w' = w8 ∧ e = .returned (.int .i64 (d.calls : Nat))) := Lib.hid (fun h0 => by (have := t3.error (by omega); subst this; exact changes_any t1.out.k)); have cN8 : Hid (0 < e1 → Calls Try.prog 14 #[.pointer (some ⟨W1.heap.size, 0, none⟩)] w8 fun e w' => ∃ v9, e = .returned v9 ∧ (∀ W, (Builtin.len_ #[44] 3 #[v9]).run Try.prog W = .ok (.int .i64 (names.length : Nat)) W) ∧ Below w8.heap.size w8 w') := Lib.hid (fun h0 => by (have := t3.error (by omega); subst this; exact names_again t1.out.k (by have := hS.out.nam; omega) hnmH.out)); rcases Nat.eq_zero_or_pos e1 with he | he)
                | (go_at_call 18; refine (cC8.out he).mono ?_; rintro e' w9 ⟨rfl, rfl⟩)
                | (go_at_call 14; refine (cN8.out he).mono ?_; rintro e' w9 ⟨v9, rfl, hl9, hb9⟩))
              · subst he
                clear cC cA
                go_loopw [16] (fun t wr3 => ∃ (j : Nat), t = .int .i64 (j : Nat) ∧ j ≤ hs.length ∧ Hid (Below w8.heap.size w8 wr3)) (fun t _ => hs.length - (intOf t).toNat)
                case atStart => exact ⟨0, rfl, by omega, Lib.hid (Below.refl _ _)⟩
                case round =>
                  obtain ⟨j, rfl, hj, hbz⟩ := hrel
                  rcases Nat.lt_or_ge j hs.length with hjl | hjl
                  · obtain ⟨x, hx⟩ : ∃ x, hs[j]? = some x := ⟨_, List.getElem?_eq_getElem hjl⟩
                    have hxm := List.mem_of_getElem? hx
                    obtain ⟨b, off, hix, hc, hbl, _⟩ := (hH8.out.row.rows.below hbz.out).index elemSure.ht elemSure.hs (i := j) (x := sureCells x) (by rw [List.getElem?_map, hx]; rfl)
                    have k0 : wr.cell? ⟨b, off, none⟩ = some (.string x.1) := hc 0 _ rfl
                    have k1 : wr.cell? ⟨b, off + 1, none⟩ = some x.2.1 := hc 1 _ rfl
                    have hbxz := cells_kept hbx8.out (Turns.of_below (F := []) hbz.out) (by simp)
                    have x0 := cell_at (i := 0) hbxz rfl
                    have x1 := cell_at (i := 1) hbxz rfl
                    have x2 := cell_at (i := 2) hbxz rfl
                    have hby := Lib.hid ((hH8.out.bytes x hxm).below hbz.out)
                    have hKx := Lib.hid (hK.out x hxm)
                    have hT9 := Lib.hid (t1.out.below hbz.out)
                    obtain ⟨xn, xv, xb⟩ := x
                    dsimp only at k0 k1 hby hKx
                    clear hc hx hxm hbxz
                    by_cases hn : xn = o.nm
                    · subst hn
                      clear hKx hT9 hby
                      go_wp2
                      go_quiet (fail)
                      go_wp2
                      go_roundw
                      case rel => exact ⟨j + 1, by go_num, by omega, Lib.hid (below_drewN hbz.out _)⟩
                      case measure => simp [intOf]; omega
                    · have hq1 := (Lib.bytes_beq_false_iff xn o.nm).2 hn
                      by_cases hk4 : o.kind = 4
                      · have hq2 : (o.kind == 4) = true := beq_iff_eq.2 hk4
                        clear hk4
                        by_cases hs4 : xn = o.s
                        · have hq3 : (xn.toList == o.s.toList) = true := by rw [hs4]; simp
                          clear hs4
                          clear hKx hT9 hby
                          go_wp2
                          go_quiet (fail)
                          go_wp2
                          go_roundw
                          case rel => exact ⟨j + 1, by go_num, by omega, Lib.hid (below_drewN hbz.out _)⟩
                          case measure => simp [intOf]; omega
                        · have hq3 := (Lib.bytes_beq_false_iff xn o.s).2 hs4
                          have cR := Lib.hid (fun nq => read_held (t1.out.below (below_drewN hbz.out nq)).k (hS8.out.small (by omega)) hR8.out (hKx.out (.inr ⟨hn, fun _ => hs4⟩)))
                          clear hKx
                          go_wp2
                          go_quiet (fail)
                          go_wp2_with (first
                            | (go_at_call 16; refine (cR.out _).mono ?_; rintro e' w10 ⟨v10, rfl, ho10, hby10, hb10⟩; have k1' : w10.cell? ⟨b, off + 1, none⟩ = some xv := (hb10.cell (p := ⟨b, off + 1, none⟩) hbl).trans k1; have k0' : w10.cell? ⟨b, off, none⟩ = some (.string xn) := (hb10.cell (p := ⟨b, off, none⟩) hbl).trans k0; have hbz' := Lib.hid ((below_drewN hbz.out _).trans (hb10.mono hbz.out.size)); have hby' := Lib.hid (BytesAt.below (w := wr.drewN _) hby.out hb10); have hby10 := Lib.hid hby10)
                            | (go_at_call 19; refine (same_true hby10.out hby'.out).mono ?_; rintro e' w11 ⟨rfl, rfl⟩))
                          go_roundw
                          case rel => exact ⟨j + 1, by go_num, by omega, hbz'⟩
                          case measure => simp [intOf]; omega
                      · have hq2 : (o.kind == 4) = false := beq_eq_false_iff_ne.2 hk4
                        have cR := Lib.hid (fun nq => read_held (t1.out.below (below_drewN hbz.out nq)).k (hS8.out.small (by omega)) hR8.out (hKx.out (.inr ⟨hn, fun h => absurd h hk4⟩)))
                        clear hKx
                        go_wp2
                        go_quiet (fail)
                        go_wp2_with (first
                          | (go_at_call 16; refine (cR.out _).mono ?_; rintro e' w10 ⟨v10, rfl, ho10, hby10, hb10⟩; have k1' : w10.cell? ⟨b, off + 1, none⟩ = some xv := (hb10.cell (p := ⟨b, off + 1, none⟩) hbl).trans k1; have k0' : w10.cell? ⟨b, off, none⟩ = some (.string xn) := (hb10.cell (p := ⟨b, off, none⟩) hbl).trans k0; have hbz' := Lib.hid ((below_drewN hbz.out _).trans (hb10.mono hbz.out.size)); have hby' := Lib.hid (BytesAt.below (w := wr.drewN _) hby.out hb10); have hby10 := Lib.hid hby10)
                          | (go_at_call 19; refine (same_true hby10.out hby'.out).mono ?_; rintro e' w11 ⟨rfl, rfl⟩))
                        go_roundw
                        case rel => exact ⟨j + 1, by go_num, by omega, hbz'⟩
                        case measure => simp [intOf]; omega
                  · have hjl' : ¬ ((j : Int) < (hs.length : Int)) := by omega
                    have hBf := Lib.hid (hB8.out.trans (hbz.out.mono (by have := hB8.out.size; omega)))
                    clear hjl
                    go_wp2
                    go_ret
                    exact ⟨rfl, hBf.out⟩
              · have hq0 : ((e1 : Int) == 0) = false := beq_eq_false_iff_ne.2 (by omega)
                have hH8 := Lib.hid (hH8.out.below hb9)
                have hbx8 := Lib.hid (cells_kept hbx8.out (Turns.of_below (F := []) hb9) (by simp))
                have hB8 := Lib.hid (hB8.out.trans (hb9.mono hB8.out.size))
                have t1 := Lib.hid (t1.out.below hb9)
                clear cC cA
                go_loopw [16] (fun t wr3 => ∃ (j : Nat), t = .int .i64 (j : Nat) ∧ j ≤ hs.length ∧ Hid (Below w9.heap.size w9 wr3)) (fun t _ => hs.length - (intOf t).toNat)
                case atStart => exact ⟨0, rfl, by omega, Lib.hid (Below.refl _ _)⟩
                case round =>
                  obtain ⟨j, rfl, hj, hbz⟩ := hrel
                  rcases Nat.lt_or_ge j hs.length with hjl | hjl
                  · obtain ⟨x, hx⟩ : ∃ x, hs[j]? = some x := ⟨_, List.getElem?_eq_getElem hjl⟩
                    have hxm := List.mem_of_getElem? hx
                    obtain ⟨b, off, hix, hc, hbl, _⟩ := (hH8.out.row.rows.below hbz.out).index elemSure.ht elemSure.hs (i := j) (x := sureCells x) (by rw [List.getElem?_map, hx]; rfl)
                    have k0 : wr.cell? ⟨b, off, none⟩ = some (.string x.1) := hc 0 _ rfl
                    have k1 : wr.cell? ⟨b, off + 1, none⟩ = some x.2.1 := hc 1 _ rfl
                    have hbxz := cells_kept hbx8.out (Turns.of_below (F := []) hbz.out) (by simp)
                    have x0 := cell_at (i := 0) hbxz rfl
                    have x1 := cell_at (i := 1) hbxz rfl
                    have x2 := cell_at (i := 2) hbxz rfl
                    have hby := Lib.hid ((hH8.out.bytes x hxm).below hbz.out)
                    have hKx := Lib.hid (hK.out x hxm)
                    have hT9 := Lib.hid (t1.out.below hbz.out)
                    obtain ⟨xn, xv, xb⟩ := x
                    dsimp only at k0 k1 hby hKx
                    clear hc hx hxm hbxz
                    have cR := Lib.hid (fun nq => read_held (t1.out.below (below_drewN hbz.out nq)).k (hS8.out.small (by omega)) hR8.out (hKx.out (.inl (by omega))))
                    clear hKx
                    go_wp2
                    go_quiet (fail)
                    go_wp2_with (first
                      | (go_at_call 16; refine (cR.out _).mono ?_; rintro e' w10 ⟨v10, rfl, ho10, hby10, hb10⟩; have k1' : w10.cell? ⟨b, off + 1, none⟩ = some xv := (hb10.cell (p := ⟨b, off + 1, none⟩) hbl).trans k1; have k0' : w10.cell? ⟨b, off, none⟩ = some (.string xn) := (hb10.cell (p := ⟨b, off, none⟩) hbl).trans k0; have hbz' := Lib.hid ((below_drewN hbz.out _).trans (hb10.mono hbz.out.size)); have hby' := Lib.hid (BytesAt.below (w := wr.drewN _) hby.out hb10); have hby10 := Lib.hid hby10)
                      | (go_at_call 19; refine (same_true hby10.out hby'.out).mono ?_; rintro e' w11 ⟨rfl, rfl⟩))
                    go_roundw
                    case rel => exact ⟨j + 1, by go_num, by omega, hbz'⟩
                    case measure => simp [intOf]; omega
                  · have hjl' : ¬ ((j : Int) < (hs.length : Int)) := by omega
                    have hBf := Lib.hid (hB8.out.trans (hbz.out.mono (by have := hB8.out.size; omega)))
                    clear hjl
                    go_wp2
                    go_ret
                    exact ⟨rfl, hBf.out⟩
end Go.Proofs.Ytpkiapjcilapoaa
