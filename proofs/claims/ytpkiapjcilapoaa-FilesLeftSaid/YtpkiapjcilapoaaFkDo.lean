/-
  A change of names, done on the map.
-/
import Derived.Test.YtpkiapjcilapoaaFkMore
import Derived.Lib.SlicesS
import Derived.Deep.RegionWith
namespace Go.Proofs.Ytpkiapjcilapoaa
open Go.RowKit Go.Sort Go.Maps

theorem str_empty {s : ByteArray} (h : s ≠ ByteArray.empty) : s.toList.isEmpty = false := by
  have := (Lib.bytes_beq_false_iff _ _).2 h
  cases hs : s.toList with
  | nil => rw [hs] at this; simp [ByteArray.toList, ByteArray.toList.loop] at this
  | cons => rfl

set_option maxRecDepth 20000 in
set_option maxHeartbeats 4000000 in
theorem do_any {w : World} {b m : Nat} {D : DW} (h : NamesM w (some b) m D) (hm : m ≤ 10000) (a : Nam) (h1 : a.from_.size ≤ maxLen) (h2 : a.to.size ≤ maxLen) :
    Calls Try.prog 54 #[.agg #[.pointer (some ⟨a.q, 0, none⟩), .string a.from_, .string a.to], .map (some b)] w fun e w' => e = .returned (.tuple #[]) ∧ NamesM w' (some b) (m + 1) (doN D a) ∧ Turns [b] w w' := by
  have hown : w.ownsMap Try.prog 9 fileR b m D := h
  have hm' : m < maxLen := by unfold maxLen; omega
  have hblt := hown.lt
  have hbne : w.heap.size ∉ [b] := by simp; omega
  by_cases ht : a.to = ByteArray.empty
  · have e : doN D a = D.del (keyL a.from_) := by unfold doN; rw [if_pos ht]
    rw [e, ht]
    clear e ht
    go_enter Try.func54, Try.ntmps54
    go_wp2_with (at_delete; refine wpList_delete_own _ rfl _ _ 58 9 rfl 72 strLaw Try.underlying58 _ b m D rfl (hown.alloc _) _ _ rfl (strKey h1) ?_; intro w1 hown1 hturn1; have hg1 := Turns.of_grown (F := [b]) hturn1.grown (fun k hk => .inl (by simpa using hk.symm)); have hbx := cells_kept (heap_alloc_new w _) hg1 hbne; have k2 := cell_at (i := 2) hbx rfl)
    go_end0
    exact ⟨rfl, World.ownsMap.mono hown1 (by omega), ((Turns.of_below (F := []) (below_box1 w _)).mono (by simp)).trans' hg1⟩
  · have e : doN D a = (D.del (keyL a.from_)).put (keyL a.to) (.lit (.int .i64 (a.q : Nat))) := by unfold doN; rw [if_neg ht]
    have hse := str_empty ht
    rw [e]
    clear e ht
    go_enter Try.func54, Try.ntmps54
    go_wp2_with (first
      | (at_delete; refine wpList_delete_own _ rfl _ _ 58 9 rfl 72 strLaw Try.underlying58 _ b m D rfl (hown.alloc _) _ _ rfl (strKey h1) ?_; intro w1 hown1 hturn1; have hg1 := Turns.of_grown (F := [b]) hturn1.grown (fun k hk => .inl (by simpa using hk.symm)); have hbx := cells_kept (heap_alloc_new w _) hg1 hbne; have k0 := cell_at (i := 0) hbx rfl; have k2 := cell_at (i := 2) hbx rfl)
      | (at_mapUpdate; refine wpList_mapUpdate_in _ rfl _ _ _ 58 rfl 9 72 strLaw Try.underlying58 fileR b m (D.del (keyL a.from_)) rfl hown1 hm' _ _ (keyL a.to) rfl rfl (strKey h2) (.lit (.int .i64 (a.q : Nat))) [] (fileR_mk a.q) ?_; intro w2 hown2 hturn2; have hg2 := Turns.of_grown (F := [b]) hturn2.grown (fun k hk => .inl (by simpa using hk.symm))))
    go_end0
    exact ⟨rfl, hown2, (((Turns.of_below (F := []) (below_box1 w _)).mono (by simp)).trans' hg1).trans' hg2⟩

theorem eql_map (x : Option Nat) (W : World) : (binOp .eql 58 (.map x) (.map none)).run Try.prog W = .ok (.bool x.isNone) W := by
  cases x <;> kernel_rfl
theorem NamesM.made (w : World) : NamesM (w.alloc (.map #[] 0)) (some w.heap.size) 0 (.map []) := World.ownsMap_made w _ _ _

/-- What a call that changes a disk leaves: the disk d', no block but its own turned. -/
def DidK (n p : Nat) (d d' : CDisk) (w w' : World) : Prop := DiskK n w' p d' ∧ Turns (d.bs p) w w' ∧ (∀ b ∈ d'.bs p, b ∈ d.bs p ∨ w.heap.size ≤ b)

/-- The disk behind a change of names. -/
def changed (d : CDisk) (mb : Option Nat) (cv kv : Value) (a : Nam) : CDisk := { d with mb := mb, cv := cv, kv := kv, nam := d.nam ++ [a], ks := d.ks ++ [d.calls] }

theorem own_in_bs {d : CDisk} {p b : Nat} (h : b ∈ d.own p) : b ∈ d.bs p := by
  unfold CDisk.bs; rw [CDisk.wb_eq]; exact List.mem_append_left _ (List.mem_append_left _ h)

theorem own_parts {n p : Nat} {w : World} {d : CDisk} (h : DiskK n w p d) : d.cv.ownBlock ≠ some p ∧ d.kv.ownBlock ≠ some p ∧ d.sv.ownBlock ≠ some p ∧ d.mb ≠ some p ∧ (∀ b, d.cv.ownBlock = some b → d.kv.ownBlock ≠ some b) ∧ (∀ b, d.mb = some b → d.cv.ownBlock ≠ some b) ∧ (∀ b, d.mb = some b → d.kv.ownBlock ≠ some b) ∧ (∀ b, d.mb = some b → d.sv.ownBlock ≠ some b) ∧ (∀ b, d.cv.ownBlock = some b → d.sv.ownBlock ≠ some b) ∧ (∀ b, d.kv.ownBlock = some b → d.sv.ownBlock ≠ some b) := by
  have hnd := h.nodup
  simp only [CDisk.wb, List.nodup_cons, List.nodup_append, List.mem_append, Option.mem_toList, not_or, ne_eq] at hnd
  obtain ⟨⟨pm, pc, pk, ps, pF⟩, _, ⟨_, ⟨_, ⟨_, _, sF⟩, kF⟩, cF⟩, mF⟩ := hnd
  exact ⟨pc, pk, ps, pm, fun b h1 h2 => cF b h1 b (.inl h2) rfl, fun b h1 h2 => mF b h1 b (.inl h2) rfl, fun b h1 h2 => mF b h1 b (.inr (.inl h2)) rfl, fun b h1 h2 => mF b h1 b (.inr (.inr (.inl h2))) rfl, fun b h1 h2 => cF b h1 b (.inr (.inl h2)) rfl, fun b h1 h2 => kF b h1 b (.inl h2) rfl⟩

theorem changed_done {n p b : Nat} {w W1 w2 w3 : World} {cv kv sv cv' kv' : Value} {nam : List Nam} {ks ss : List Nat} {calls : Nat} {fs : List CFile} {a : Nam} (h : DiskK n w p ⟨some b, cv, kv, sv, nam, ks, ss, calls, fs⟩) (hb1 : Below w.heap.size w W1)
    (q1 : w2.heap[p]? = some (.cells #[.map (some b), cv', kv', sv, .int .i64 (calls : Nat)] 64 (0, 0)))
    (q2 : OwnRows w2 n 83 3 cv' (nam.map namCells ++ [namCells a])) (q3 : OwnRows w2 n 3 1 kv' ((ks ++ [calls]).map intCell)) (q4 : Turns (p :: (cv.ownBlock.toList ++ kv.ownBlock.toList)) W1 w2)
    (q5 : ∀ b, cv'.ownBlock = some b → cv.ownBlock = some b ∨ W1.heap.size ≤ b) (q6 : ∀ b, kv'.ownBlock = some b → kv.ownBlock = some b ∨ W1.heap.size ≤ b) (q7 : ∀ b, cv'.ownBlock = some b → kv'.ownBlock ≠ some b)
    (r1 : NamesM w3 (some b) (nam.length + 1) (doN (namesOf nam) a)) (r2 : Turns [b] w2 w3) (hN : Named (namesOf (nam ++ [a])) fs) :
    ∃ mb' cv' kv', mb' ≠ none ∧ DidK n p ⟨some b, cv, kv, sv, nam, ks, ss, calls, fs⟩ (changed ⟨some b, cv, kv, sv, nam, ks, ss, calls, fs⟩ mb' cv' kv' a) w w3 := by
  obtain ⟨p1, p2, p3, p4, p5, p6, p7, p8, p9, p10⟩ := own_parts h
  simp only at p1 p2 p3 p4 p5 p6 p7 p8 p9 p10
  have hs1 := hb1.size
  have hlt := h.wlt
  have hbl : b < w.heap.size := hlt b (by simp [CDisk.wb])
  have hsl : ∀ x, sv.ownBlock = some x → x < w.heap.size := fun x hx => hlt x (by simp [CDisk.wb, hx])
  have hpl := h.plt
  have l5 : ∀ x, cv'.ownBlock = some x → cv.ownBlock = some x ∨ w.heap.size ≤ x := fun x hx => (q5 x hx).imp id (fun e => by omega)
  have l6 : ∀ x, kv'.ownBlock = some x → kv.ownBlock = some x ∨ w.heap.size ≤ x := fun x hx => (q6 x hx).imp id (fun e => by omega)
  have hbc : ∀ x, some b = some x → cv'.ownBlock ≠ some x := fun x hx hc => by
    rcases l5 x hc with e | e
    · exact p6 x hx e
    · injection hx with hx; omega
  have hbk : ∀ x, some b = some x → kv'.ownBlock ≠ some x := fun x hx hc => by
    rcases l6 x hc with e | e
    · exact p7 x hx e
    · injection hx with hx; omega
  have hcs : ∀ x, cv'.ownBlock = some x → sv.ownBlock ≠ some x := fun x hx hs => by
    rcases l5 x hx with e | e
    · exact p9 x e hs
    · have := hsl x hs; omega
  have hks : ∀ x, kv'.ownBlock = some x → sv.ownBlock ≠ some x := fun x hx hs => by
    rcases l6 x hx with e | e
    · exact p10 x e hs
    · have := hsl x hs; omega
  have ht : Turns (CDisk.own ⟨some b, cv, kv, sv, nam, ks, ss, calls, fs⟩ p) w w3 := by
    have k1 : Turns (CDisk.own ⟨some b, cv, kv, sv, nam, ks, ss, calls, fs⟩ p) w W1 := (Turns.of_below (F := []) hb1).mono (by simp)
    have k2 := k1.trans q4 (fun x hx => .inl (by simp [CDisk.own] at hx ⊢; rcases hx with rfl | hx | hx <;> simp_all))
    exact k2.trans r2 (fun x hx => .inl (by simp [CDisk.own] at hx ⊢; simp [hx]))
  have hbne : b ≠ p := fun e => p4 (by rw [e])
  obtain ⟨k1, k2⟩ := h.swap (w' := w3) (d' := changed ⟨some b, cv, kv, sv, nam, ks, ss, calls, fs⟩ (some b) cv' kv' a) rfl ht
    (cells_kept q1 r2 (by simp; exact fun e => hbne e.symm)) (by rw [changed]; simp only; rw [List.length_append, namesOf_snoc]; exact r1)
    (by rw [changed]; simp only; rw [List.map_append]; exact q2.turns r2 (fun x hx => by simp; rintro rfl; exact hbc x rfl hx)) (q3.turns r2 (fun x hx => by simp; rintro rfl; exact hbk x rfl hx))
    (((h.sy.turns (Turns.of_below (F := []) hb1) (by simp)).turns q4 (fun x hx => by
      simp only [List.mem_cons, List.mem_append, Option.mem_toList, not_or]
      exact ⟨fun e => p3 (by rw [← e]; exact hx), fun e => p9 x e hx, fun e => p10 x e hx⟩)).turns r2 (fun x hx => by simp; rintro rfl; exact p8 x rfl hx)) hN
    (fun x hx => .inl hx) l5 l6 (fun x hx => .inl hx) hbc hbk p8 q7 hcs hks
  exact ⟨some b, cv', kv', by simp, k1, ht.mono (fun x hx => .inl (own_in_bs hx)), k2⟩

set_option maxRecDepth 20000 in
set_option maxHeartbeats 4000000 in
/-- The map is there (what 'change' sees to first). -/
theorem change_some {n p : Nat} {w : World} {d : CDisk} {b : Nat} (h : DiskK n w p d) (hb : d.mb = some b) (hl : d.nam.length ≤ 9000) (hlk : d.ks.length ≤ 10000) (a : Nam) (h1 : a.from_.size ≤ maxLen) (h2 : a.to.size ≤ maxLen) (hN : Named (namesOf (d.nam ++ [a])) d.fs) :
    Calls Try.prog 30 #[.pointer (some ⟨p, 0, none⟩), .agg #[.pointer (some ⟨a.q, 0, none⟩), .string a.from_, .string a.to]] w fun e w' => e = .returned (.tuple #[]) ∧ ∃ mb' cv' kv', mb' ≠ none ∧ DidK n p d (changed d mb' cv' kv' a) w w' := by
  obtain ⟨mb, cv, kv, sv, nam, ks, ss, calls, fs⟩ := d
  obtain rfl : mb = some b := hb
  have c0 := h.c0
  have c4 := h.c4
  have hdk := h.disk
  have hch := h.ch
  have hca := h.ca
  obtain ⟨p1, p2, p3, p4, p5, p6, p7, p8, p9, p10⟩ := own_parts h
  have hn := h.nle
  have hmp := h.map
  simp only at hdk c0 c4 hch hca hmp p1 p2 p3 p4 p5 p6 p7 p8 p9 p10 hl hlk
  have hp := h.plt
  have hlx : (nam.map namCells).length ≤ 10000 := by simp; omega
  have hem := fun W => eql_map (some b) W
  simp only [Option.isNone] at hem
  obtain ⟨W1, hW1⟩ : ∃ W1, (w.alloc (.cells #[.pointer (some ⟨a.q, 0, none⟩), .string a.from_, .string a.to] 83)) = W1 := ⟨_, rfl⟩
  have hb1 : Below w.heap.size w W1 := by rw [← hW1]; exact below_box1 _ _
  have hbx : W1.heap[w.heap.size]? = some (.cells #[.pointer (some ⟨a.q, 0, none⟩), .string a.from_, .string a.to] 83 (0, 0)) := by rw [← hW1]; exact heap_alloc_new w _
  have hd1 := cells_kept hdk (Turns.of_below hb1) (List.not_mem_nil)
  have hs1 := hb1.size
  have cA := Lib.hid (fun W (hW : Below W1.heap.size W1 W) => histAddN_any (n := n) (cells_kept hd1 (Turns.of_below hW) (List.not_mem_nil)) ((hch.below hb1).below hW) ((hca.below hb1).below hW) p1 p2 p5 hlx hlk (by have := hW.size; omega) a calls)
  have cD := Lib.hid (fun W (hM : NamesM W (some b) nam.length (namesOf nam)) => do_any (w := W) hM (by omega) a h1 h2)
  have h := Lib.hid h
  have hbxH := Lib.hid hbx
  have hd1H := Lib.hid hd1
  have hMH := Lib.hid (fun W (hT : Turns (p :: (cv.ownBlock.toList ++ kv.ownBlock.toList)) W1 W) => (hmp.turns (Turns.of_below (F := []) hb1) (by simp)).turns hT (fun x hx => by
    obtain rfl : b = x := by simpa using hx
    simp only [List.mem_cons, List.mem_append, Option.mem_toList, not_or]
    exact ⟨fun e => p4 (by rw [e]), fun e => p6 b rfl e, fun e => p7 b rfl e⟩))
  have e0 := cell_at (i := 0) hbx rfl
  have e1 := cell_at (i := 1) hbx rfl
  have e2 := cell_at (i := 2) hbx rfl
  have g0 := cell_at (i := 0) hd1 rfl
  have g4 := cell_at (i := 4) hd1 rfl
  have hpW : p < W1.heap.size := by omega
  have hwW : w.heap.size < W1.heap.size := (Array.getElem?_eq_some_iff.1 hbx).1
  have hwF : w.heap.size ∉ p :: (cv.ownBlock.toList ++ kv.ownBlock.toList) := by
    simp only [List.mem_cons, List.mem_append, Option.mem_toList, not_or]
    exact ⟨by omega, fun e => by have := (hch.block _ e).2; omega, fun e => by have := (hca.block _ e).2; omega⟩
  clear hdk hch hca hmp hbx hd1
  go_enter Try.func30, Try.ntmps30
  go_wp2
  clear hW1 hem c0 c4
  go_region_with ((go_at_call 59; refine (cA.out _ (by first | exact Below.refl _ _ | exact Below.drew (Below.refl _ _))).mono ?_; rintro e' w2 ⟨rfl, cv', kv', q1, q2, q3, q4, q5, q6, q7⟩))
  all_goals
    have q4 : Turns (p :: (cv.ownBlock.toList ++ kv.ownBlock.toList)) W1 w2 := ⟨q4.os, q4.tape, q4.output, q4.size, q4.block⟩
    have hx2 := cells_kept hbxH.out q4 hwF
    have e0 := cell_at (i := 0) hx2 rfl
    have e1 := cell_at (i := 1) hx2 rfl
    have e2 := cell_at (i := 2) hx2 rfl
    have g0 := cell_at (i := 0) q1 rfl
    have hM2 := hMH.out _ q4
    have q4 := Lib.hid q4
    have q1 := Lib.hid q1
    clear hx2
    go_wp2
    go_region_with ((go_at_call 54; refine (cD.out _ (by first | exact hM2 | exact hM2.turns (Turns.of_below (F := []) (Below.drew (Below.refl _ _))) (by simp))).mono ?_; rintro e' w3 ⟨rfl, r1, r2⟩))
    all_goals
      go_end0
      exact ⟨rfl, changed_done h.out hb1 q1.out q2 q3 q4.out q5 q6 q7 r1 ⟨r2.os, r2.tape, r2.output, r2.size, r2.block⟩ hN⟩

/-- A disk without a map, behind the map's making. -/
theorem made_done {n p : Nat} {w : World} {cv kv sv : Value} {nam : List Nam} {ks ss : List Nat} {calls : Nat} {fs : List CFile} (h : DiskK n w p ⟨none, cv, kv, sv, nam, ks, ss, calls, fs⟩) (o : Obj) :
    DiskK n (((w.setCell ⟨p, 0, none⟩ (.map (some (w.heap.size + 1)))).alloc o).alloc (.map #[] 0)) p ⟨some (w.heap.size + 1), cv, kv, sv, nam, ks, ss, calls, fs⟩ ∧
    Turns (CDisk.bs ⟨none, cv, kv, sv, nam, ks, ss, calls, fs⟩ p) w (((w.setCell ⟨p, 0, none⟩ (.map (some (w.heap.size + 1)))).alloc o).alloc (.map #[] 0)) ∧
    (∀ b x, x ∈ CDisk.bs ⟨some b, cv, kv, sv, nam, ks, ss, calls, fs⟩ p → b = w.heap.size + 1 → x ∈ CDisk.bs ⟨none, cv, kv, sv, nam, ks, ss, calls, fs⟩ p ∨ w.heap.size ≤ x) ∧
    (((w.setCell ⟨p, 0, none⟩ (.map (some (w.heap.size + 1)))).alloc o).alloc (.map #[] 0)).heap[w.heap.size]? = some o ∧ w.heap.size < (((w.setCell ⟨p, 0, none⟩ (.map (some (w.heap.size + 1)))).alloc o).alloc (.map #[] 0)).heap.size := by
  obtain ⟨p1, p2, p3, p4, p5, p6, p7, p8, p9, p10⟩ := own_parts h
  simp only at p1 p2 p3 p4 p5 p6 p7 p8 p9 p10
  have hlt := h.wlt
  have hpl := h.plt
  have hsz : (w.setCell ⟨p, 0, none⟩ (.map (some (w.heap.size + 1)))).heap.size = w.heap.size := by simp [World.setCell]
  have hnm : namesOf nam = .map [] := h.map
  have hT1 : Turns [p] w (((w.setCell ⟨p, 0, none⟩ (.map (some (w.heap.size + 1)))).alloc o).alloc (.map #[] 0)) := ((Turns.set (F := [p]) w _ (a := ⟨p, 0, none⟩) (by simp)).box o).box _
  have hT : Turns (CDisk.own ⟨none, cv, kv, sv, nam, ks, ss, calls, fs⟩ p) w (((w.setCell ⟨p, 0, none⟩ (.map (some (w.heap.size + 1)))).alloc o).alloc (.map #[] 0)) := hT1.mono (by simp [CDisk.own])
  have hB : ∀ x, some (w.heap.size + 1) = some x → w.heap.size < x := fun x hx => by injection hx with hx; omega
  have hlow : ∀ v : Value, (∀ x, v.ownBlock = some x → x < w.heap.size) → ∀ x, some (w.heap.size + 1) = some x → v.ownBlock ≠ some x := fun v hv x hx hc => by have := hv x hc; have := hB x hx; omega
  obtain ⟨k1, k2⟩ := h.swap (w' := (((w.setCell ⟨p, 0, none⟩ (.map (some (w.heap.size + 1)))).alloc o).alloc (.map #[] 0))) (d' := ⟨some (w.heap.size + 1), cv, kv, sv, nam, ks, ss, calls, fs⟩) rfl hT
    (cells_kept (cells_kept (by have := heap_set_at h.disk 0 (.map (some (w.heap.size + 1))); simpa using this) (Turns.of_below (F := []) (below_box1 _ o)) (by simp)) (Turns.of_below (F := []) (below_box1 _ _)) (by simp))
    (by
      have := NamesM.made ((w.setCell ⟨p, 0, none⟩ (.map (some (w.heap.size + 1)))).alloc o)
      rw [show ((w.setCell ⟨p, 0, none⟩ (.map (some (w.heap.size + 1)))).alloc o).heap.size = w.heap.size + 1 by simp [hsz]] at this
      simp only [hnm]
      exact this.mono (Nat.zero_le _))
    (h.ch.turns hT1 (fun x hx => by simp; rintro rfl; exact p1 hx)) (h.ca.turns hT1 (fun x hx => by simp; rintro rfl; exact p2 hx)) (h.sy.turns hT1 (fun x hx => by simp; rintro rfl; exact p3 hx)) h.named
    (fun x hx => .inr (by have := hB x hx; omega)) (fun x hx => .inl hx) (fun x hx => .inl hx) (fun x hx => .inl hx)
    (hlow cv (fun x hx => hlt x (by simp [CDisk.wb, hx]))) (hlow kv (fun x hx => hlt x (by simp [CDisk.wb, hx]))) (hlow sv (fun x hx => hlt x (by simp [CDisk.wb, hx]))) p5 p9 p10
  refine ⟨k1, hT.mono (fun x hx => .inl (own_in_bs hx)), fun b x hx e => ?_, ?_, ?_⟩
  · subst e; exact k2 x hx
  · have h1 := heap_alloc_new (w.setCell ⟨p, 0, none⟩ (.map (some (w.heap.size + 1)))) o
    rw [hsz] at h1
    exact ((below_box1 _ _).block _ (by simp [hsz])).trans h1
  · have e1 := (below_box1 ((w.setCell ⟨p, 0, none⟩ (.map (some (w.heap.size + 1)))).alloc o) (.map #[] 0)).size
    have e2 : ((w.setCell ⟨p, 0, none⟩ (.map (some (w.heap.size + 1)))).alloc o).heap.size = w.heap.size + 1 := by simp [hsz]
    omega

set_option maxRecDepth 20000 in
set_option maxHeartbeats 4000000 in
/-- The map is made. -/
theorem change_none {n p : Nat} {w : World} {d : CDisk} (h : DiskK n w p d) (hb : d.mb = none) (hl : d.nam.length ≤ 9000) (hlk : d.ks.length ≤ 10000) (a : Nam) (h1 : a.from_.size ≤ maxLen) (h2 : a.to.size ≤ maxLen) (hN : Named (namesOf (d.nam ++ [a])) d.fs) :
    Calls Try.prog 30 #[.pointer (some ⟨p, 0, none⟩), .agg #[.pointer (some ⟨a.q, 0, none⟩), .string a.from_, .string a.to]] w fun e w' => e = .returned (.tuple #[]) ∧ ∃ mb' cv' kv', mb' ≠ none ∧ DidK n p d (changed d mb' cv' kv' a) w w' := by
  obtain ⟨mb, cv, kv, sv, nam, ks, ss, calls, fs⟩ := d
  obtain rfl : mb = none := hb
  have c0 := h.c0
  have f0 := h.fz 0
  have hp := h.plt
  have hmm := @run_makeMap Try.prog
  have hem := fun W => eql_map none W
  simp only [Option.isNone] at hem
  simp only at c0
  go_enter Try.func30, Try.ntmps30
  go_wp2
  obtain ⟨W1, hW1⟩ : ∃ W1, (((w.setCell ⟨p, 0, none⟩ (.map (some (w.heap.size + 1)))).alloc (.cells #[.pointer (some ⟨a.q, 0, none⟩), .string a.from_, .string a.to] 83)).alloc (.map #[] 0)) = W1 := ⟨_, rfl⟩
  obtain ⟨k1, k2, k3, hbx, hwW⟩ := made_done h (.cells #[.pointer (some ⟨a.q, 0, none⟩), .string a.from_, .string a.to] 83)
  rw [hW1]
  rw [hW1] at k1 k2 hbx hwW
  obtain ⟨b, hbb⟩ : ∃ b, w.heap.size + 1 = b := ⟨_, rfl⟩
  rw [hbb] at k1
  try rw [hbb]
  have hdk := k1.disk
  have hch := k1.ch
  have hca := k1.ca
  obtain ⟨p1, p2, p3, p4, p5, p6, p7, p8, p9, p10⟩ := own_parts k1
  have hn := k1.nle
  have hmp := k1.map
  simp only at hdk hch hca hmp p1 p2 p3 p4 p5 p6 p7 p8 p9 p10 hl hlk
  have hpW := k1.plt
  have hlx : (nam.map namCells).length ≤ 10000 := by simp; omega
  have cA := Lib.hid (fun W (hW : Below W1.heap.size W1 W) => histAddN_any (n := n) (cells_kept hdk (Turns.of_below hW) (List.not_mem_nil)) (hch.below hW) (hca.below hW) p1 p2 p5 hlx hlk (by have := hW.size; omega) a calls)
  have cD := Lib.hid (fun W (hM : NamesM W (some b) nam.length (namesOf nam)) => do_any (w := W) hM (by omega) a h1 h2)
  have h := Lib.hid h
  have hbxH := Lib.hid hbx
  have hMH := Lib.hid (fun W (hT : Turns (p :: (cv.ownBlock.toList ++ kv.ownBlock.toList)) W1 W) => hmp.turns hT (fun x hx => by
    obtain rfl : b = x := by simpa using hx
    simp only [List.mem_cons, List.mem_append, Option.mem_toList, not_or]
    exact ⟨fun e => p4 (by rw [e]), fun e => p6 b rfl e, fun e => p7 b rfl e⟩))
  have e0 := cell_at (i := 0) hbx rfl
  have e1 := cell_at (i := 1) hbx rfl
  have e2 := cell_at (i := 2) hbx rfl
  have g0 := cell_at (i := 0) hdk rfl
  have g4 := cell_at (i := 4) hdk rfl
  have hwF : w.heap.size ∉ p :: (cv.ownBlock.toList ++ kv.ownBlock.toList) := by
    simp only [List.mem_cons, List.mem_append, Option.mem_toList, not_or]
    exact ⟨by omega, fun e => by have := (h.out.ch.block _ e).2; omega, fun e => by have := (h.out.ca.block _ e).2; omega⟩
  have k1 := Lib.hid k1
  have k2 := Lib.hid k2
  clear hdk hch hca hmp hbx
  have hbb := Lib.hid hbb.symm
  clear hW1 hem c0 f0 hmm
  go_region_with ((go_at_call 59; refine (cA.out _ (by first | exact Below.refl _ _ | exact Below.drew (Below.refl _ _))).mono ?_; rintro e' w2 ⟨rfl, cv', kv', q1, q2, q3, q4, q5, q6, q7⟩))
  all_goals
    have q4 : Turns (p :: (cv.ownBlock.toList ++ kv.ownBlock.toList)) W1 w2 := ⟨q4.os, q4.tape, q4.output, q4.size, q4.block⟩
    have hx2 := cells_kept hbxH.out q4 hwF
    have e0 := cell_at (i := 0) hx2 rfl
    have e1 := cell_at (i := 1) hx2 rfl
    have e2 := cell_at (i := 2) hx2 rfl
    have g0 := cell_at (i := 0) q1 rfl
    have hM2 := hMH.out _ q4
    have q4 := Lib.hid q4
    have q1 := Lib.hid q1
    clear hx2
    go_wp2
    go_region_with ((go_at_call 54; refine (cD.out _ (by first | exact hM2 | exact hM2.turns (Turns.of_below (F := []) (Below.drew (Below.refl _ _))) (by simp))).mono ?_; rintro e' w3 ⟨rfl, r1, r2⟩))
    all_goals
      go_end0
      obtain ⟨mb', cv'', kv'', j1, j2, j3, j4⟩ := changed_done k1.out (Below.refl _ _) q1.out q2 q3 q4.out q5 q6 q7 r1 ⟨r2.os, r2.tape, r2.output, r2.size, r2.block⟩ hN
      exact ⟨rfl, mb', cv'', kv'', j1, j2, k2.out.trans j3 (fun x hx => k3 b x hx hbb.out), fun x hx => by
        rcases j4 x hx with e | e
        · exact k3 b x e hbb.out
        · have := k2.out.size; exact .inr (by omega)⟩

theorem change_any {n p : Nat} {w : World} {d : CDisk} (h : DiskK n w p d) (hl : d.nam.length ≤ 9000) (hlk : d.ks.length ≤ 10000) (a : Nam) (h1 : a.from_.size ≤ maxLen) (h2 : a.to.size ≤ maxLen) (hN : Named (namesOf (d.nam ++ [a])) d.fs) :
    Calls Try.prog 30 #[.pointer (some ⟨p, 0, none⟩), .agg #[.pointer (some ⟨a.q, 0, none⟩), .string a.from_, .string a.to]] w fun e w' => e = .returned (.tuple #[]) ∧ ∃ mb' cv' kv', mb' ≠ none ∧ DidK n p d (changed d mb' cv' kv' a) w w' := by
  cases hb : d.mb with
  | none => exact change_none h hb hl hlk a h1 h2 hN
  | some b => exact change_some h hb hl hlk a h1 h2 hN
end Go.Proofs.Ytpkiapjcilapoaa
