/-
  What the program's own disk answers and leaves: SyncNames, Sync, Append.
-/
import Derived.Test.YtpkiapjcilapoaaFkAct
import Derived.Deep.RegionHeld3
namespace Go.Proofs.Ytpkiapjcilapoaa
open Go.RowKit Go.Sort Go.Maps

section
variable {n p : Nat} {w w1 w2 : World} {d d1 d2 : CDisk}
theorem DidK.trans (h : DidK n p d d1 w w1) (k : DidK n p d1 d2 w1 w2) : DidK n p d d2 w w2 := by
  obtain ⟨h1, h2, h3⟩ := h
  obtain ⟨k1, k2, k3⟩ := k
  refine ⟨k1, h2.trans k2 h3, fun b hb => ?_⟩
  rcases k3 b hb with e | e
  · exact h3 b e
  · have := h2.size; exact .inr (by omega)
theorem DidK.refl (h : DiskK n w p d) : DidK n p d d w w := ⟨h, Turns.refl _ _, fun _ hb => .inl hb⟩
theorem DidK.below (h : DiskK n w p d) (hb : Below w.heap.size w w1) : DidK n p d d w w1 := ⟨h.below hb, .of_below hb, fun _ hb => .inl hb⟩

/-- A call more is counted. -/
abbrev tick (d : CDisk) : CDisk := { d with calls := d.calls + 1 }
theorem DiskK.tick (h : DiskK n w p d) : DidK n p d (tick d) w (w.setCell ⟨p, 4, none⟩ (.int .i64 ((d.calls : Int) + 1))) := by
  obtain ⟨p1, p2, p3, p4, p5, p6, p7, p8, p9, p10⟩ := own_parts h
  have ht1 : Turns [p] w (w.setCell ⟨p, 4, none⟩ (.int .i64 ((d.calls : Int) + 1))) := Turns.set _ _ (by simp)
  have ht : Turns (d.own p) w (w.setCell ⟨p, 4, none⟩ (.int .i64 ((d.calls : Int) + 1))) := ht1.mono (by simp [CDisk.own])
  obtain ⟨k1, k2⟩ := h.swap (d' := Go.Proofs.Ytpkiapjcilapoaa.tick d) rfl ht (by have := heap_set_at h.disk 4 (.int .i64 ((d.calls : Int) + 1)); simpa using this)
    (h.map.turns ht1 (fun b hb => by simp; rintro rfl; exact p4 hb)) (h.ch.turns ht1 (fun b hb => by simp; rintro rfl; exact p1 hb)) (h.ca.turns ht1 (fun b hb => by simp; rintro rfl; exact p2 hb)) (h.sy.turns ht1 (fun b hb => by simp; rintro rfl; exact p3 hb)) h.named
    (fun _ hb => .inl hb) (fun _ hb => .inl hb) (fun _ hb => .inl hb) (fun _ hb => .inl hb) p6 p7 p8 p5 p9 p10
  exact ⟨k1, ht.mono (fun x hx => .inl (own_in_bs hx)), k2⟩

/-- Names synced. -/
abbrev syncedN (d : CDisk) (sv : Value) : CDisk := { d with sv := sv, ss := d.ss ++ [d.calls] }
theorem DiskK.syncN {sv' : Value} (h : DiskK n w p d) (hq : w2.heap[p]? = some (.cells #[.map d.mb, d.cv, d.kv, sv', .int .i64 (d.calls : Nat)] 64 (0, 0))) (ho : OwnRows w2 n 3 1 sv' ((d.ss ++ [d.calls]).map intCell))
    (ht1 : Turns (p :: d.sv.ownBlock.toList) w w2) (hl : ∀ b, sv'.ownBlock = some b → d.sv.ownBlock = some b ∨ w.heap.size ≤ b) : DidK n p d (syncedN d sv') w w2 := by
  obtain ⟨p1, p2, p3, p4, p5, p6, p7, p8, p9, p10⟩ := own_parts h
  have hlt := h.wlt
  have hno : ∀ v : Value, v.ownBlock ≠ some p → (∀ b, v.ownBlock = some b → d.sv.ownBlock ≠ some b) → ∀ b, v.ownBlock = some b → b ∉ p :: d.sv.ownBlock.toList := fun v h1 h2 b hb => by
    simp only [List.mem_cons, Option.mem_toList, not_or]
    exact ⟨fun e => h1 (by rw [← e]; exact hb), h2 b hb⟩
  have ht : Turns (d.own p) w w2 := ht1.mono (fun b hb => .inl (by simp [CDisk.own] at hb ⊢; rcases hb with hb | hb <;> simp [hb]))
  have hx : ∀ (o : Option Nat), (∀ b, o = some b → d.sv.ownBlock ≠ some b) → (∀ b, o = some b → b < w.heap.size) → ∀ b, o = some b → sv'.ownBlock ≠ some b := fun o h1 h2 b hb hs => by
    rcases hl b hs with e | e
    · exact h1 b hb e
    · have := h2 b hb; omega
  obtain ⟨k1, k2⟩ := h.swap (d' := syncedN d sv') rfl ht hq
    (h.map.turns ht1 (fun b hb => by
      simp only [List.mem_cons, Option.mem_toList, not_or]
      exact ⟨fun e => p4 (by rw [← e]; exact hb), p8 b hb⟩)) (h.ch.turns ht1 (hno d.cv p1 p9)) (h.ca.turns ht1 (hno d.kv p2 p10)) ho h.named
    (fun _ hb => .inl hb) (fun _ hb => .inl hb) (fun _ hb => .inl hb) hl p6 p7 (hx d.mb p8 (fun b hb => hlt b (by simp [CDisk.wb, hb]))) p5 (hx _ p9 (fun b hb => hlt b (by simp [CDisk.wb, hb]))) (hx _ p10 (fun b hb => hlt b (by simp [CDisk.wb, hb])))
  exact ⟨k1, ht.mono (fun x hx => .inl (own_in_bs hx)), k2⟩
end

/-- The sizes within which all goes on. -/
structure Small (d : CDisk) : Prop where
  nam : d.nam.length ≤ 8000
  ks : d.ks.length ≤ 8000
  ss : d.ss.length ≤ 8000
  calls : d.calls ≤ 8000
  fs : ∀ f ∈ d.fs, f.parts.length ≤ 8000 ∧ f.ks.length ≤ 8000 ∧ f.ss.length ≤ 8000 ∧ f.all.length ≤ 1048576

set_option maxRecDepth 20000 in
set_option maxHeartbeats 4000000 in
theorem syncNames_any {n p : Nat} {w : World} {d : CDisk} (h : DiskK n w p d) (hs : Small d) :
    Calls Try.prog 17 #[.pointer (some ⟨p, 0, none⟩)] w fun e w' => e = .returned (.int .i64 0) ∧ ∃ sv', DidK n p d (syncedN (tick d) sv') w w' := by
  have c4 := h.c4
  have f4 := h.fz 4
  have hp := h.plt
  have hk := h.tick
  have hcl := hs.calls
  obtain ⟨W1, hW1⟩ : ∃ W1, (w.setCell ⟨p, 4, none⟩ (.int .i64 ((d.calls : Int) + 1))) = W1 := ⟨_, rfl⟩
  rw [hW1] at hk
  have g4 := hk.1.c4
  obtain ⟨p1, p2, p3, _⟩ := own_parts hk.1
  have cS := Lib.hid (fun (W : World) (hW : Below W1.heap.size W1 W) => histSyncN_any (cells_kept hk.1.disk (Turns.of_below hW) (List.not_mem_nil)) (hk.1.sy.below hW) p3 (by have := hs.ss; show d.ss.length ≤ _; omega) (Nat.le_trans hk.1.nle hW.size) (tick d).calls)
  have hpW := hk.1.plt
  have h := Lib.hid h
  have hk := Lib.hid hk
  have e : ((d.calls + 1 : Nat) : Int) = (d.calls : Int) + 1 := by omega
  simp only [e] at g4 cS
  clear e hs
  go_enter Try.func17, Try.ntmps17
  go_wp2
  go_region_with ((go_at_call 31; refine (cS.out _ (by first | exact Below.refl _ _ | exact Below.drew (Below.refl _ _))).mono ?_; rintro e' w2 ⟨rfl, sv', q1, q2, q3, q4⟩))
  all_goals
    go_wp2
    go_ret
    exact ⟨rfl, sv', hk.out.trans (hk.out.1.syncN q1 q2 ⟨q3.os, q3.tape, q3.output, q3.size, q3.block⟩ q4)⟩

/-- A file synced. -/
abbrev syncedF (f : CFile) (sv : Value) (c : Nat) : CFile := { f with sv := sv, ss := f.ss ++ [c] }
theorem DiskK.putF {n p : Nat} {w w2 : World} {d : CDisk} (h : DiskK n w p d) {A B : List CFile} {f f' : CFile} (hfs : d.fs = A ++ f :: B) (hq : f'.q = f.q) (ht : Turns f.wb w w2) (hf' : FileK n w2 f')
    (hc : ∀ b, f'.cv.ownBlock = some b → f.cv.ownBlock = some b ∨ w.heap.size ≤ b) (hk : ∀ b, f'.kv.ownBlock = some b → f.kv.ownBlock = some b ∨ w.heap.size ≤ b) (hs : ∀ b, f'.sv.ownBlock = some b → f.sv.ownBlock = some b ∨ w.heap.size ≤ b)
    (h4 : ∀ b, f'.cv.ownBlock = some b → f'.kv.ownBlock ≠ some b) (h5 : ∀ b, f'.cv.ownBlock = some b → f'.sv.ownBlock ≠ some b) (h6 : ∀ b, f'.kv.ownBlock = some b → f'.sv.ownBlock ≠ some b)
    (hr : ∀ b ∈ f'.rb, b ∈ f.rb ∨ (w.heap.size ≤ b ∧ b < w2.heap.size ∧ b ∉ f'.wb)) : DidK n p d { d with fs := A ++ f' :: B } w w2 := by
  obtain ⟨k1, k2⟩ := h.swapFile hfs rfl hq ht hf' hc hk hs h4 h5 h6 hr
  refine ⟨k1, ht.mono (fun b hb => .inl ?_), k2⟩
  exact List.mem_append_left _ (CDisk.wb_file (by rw [hfs]; simp) b hb)

theorem DiskK.syncF {n p c : Nat} {w w2 : World} {d : CDisk} (h : DiskK n w p d) {A B : List CFile} {f : CFile} {sv' : Value} (hfs : d.fs = A ++ f :: B)
    (hq : w2.heap[f.q]? = some (.cells #[f.cv, f.kv, sv', .int .i64 (f.all.length : Nat)] 77 (0, 0))) (ho : OwnRows w2 n 3 1 sv' ((f.ss ++ [c]).map intCell))
    (ht1 : Turns (f.q :: f.sv.ownBlock.toList) w w2) (hl : ∀ b, sv'.ownBlock = some b → f.sv.ownBlock = some b ∨ w.heap.size ≤ b) : DidK n p d { d with fs := A ++ syncedF f sv' c :: B } w w2 := by
  have hf : f ∈ d.fs := by rw [hfs]; simp
  have hF := h.files f hf
  have hsep := h.sep hf
  have hlt := hF.wlt
  have ht : Turns f.wb w w2 := ht1.mono (fun b hb => .inl (by simp [CFile.wb] at hb ⊢; rcases hb with hb | hb <;> simp [hb]))
  have hno : ∀ v : Value, v.ownBlock ≠ some f.q → (∀ b, v.ownBlock = some b → f.sv.ownBlock ≠ some b) → ∀ b, v.ownBlock = some b → b ∉ f.q :: f.sv.ownBlock.toList := fun v h1 h2 b hb => by
    simp only [List.mem_cons, Option.mem_toList, not_or]
    exact ⟨fun e => h1 (by rw [← e]; exact hb), h2 b hb⟩
  have hx : ∀ (o : Option Nat), (∀ b, o = some b → f.sv.ownBlock ≠ some b) → (∀ b, o = some b → b < w.heap.size) → ∀ b, o = some b → sv'.ownBlock ≠ some b := fun o h1 h2 b hb hs => by
    rcases hl b hs with e | e
    · exact h1 b hb e
    · have := h2 b hb; omega
  refine h.putF hfs rfl ht ⟨hq, hF.ch.turns ht1 (hno _ hsep.a1 hsep.a5), hF.ca.turns ht1 (hno _ hsep.a2 hsep.a6), ho, fun y hy => (hF.bytes y hy).turns ht (fun b hb => hsep.ro b (List.mem_flatMap.2 ⟨y, hy, by simp [hb]⟩))⟩
    (fun _ hb => .inl hb) (fun _ hb => .inl hb) hl hsep.a4 (hx _ hsep.a5 (fun b hb => hlt b (by simp [CFile.wb, hb]))) (hx _ hsep.a6 (fun b hb => hlt b (by simp [CFile.wb, hb]))) (fun b hb => .inl hb)

set_option maxRecDepth 20000 in
set_option maxHeartbeats 4000000 in
theorem sync_any {n p : Nat} {w : World} {d : CDisk} (h : DiskK n w p d) (hs : Small d) (nm : ByteArray) (hz : nm.size ≤ maxLen) :
    Calls Try.prog 15 #[.pointer (some ⟨p, 0, none⟩), .string nm] w fun e w' =>
      (findK d nm = none ∧ e = .returned (.int .i64 61) ∧ w' = w) ∨
      (∃ A f B sv', findK d nm = some f.q ∧ d.fs = A ++ f :: B ∧ e = .returned (.int .i64 0) ∧ DidK n p d { tick d with fs := A ++ syncedF f sv' (d.calls + 1) :: B } w w') := by
  have cF := Lib.hid (find_any h nm hz)
  cases hfk : findK d nm with
  | none =>
    rw [hfk] at cF
    simp only [ptrV, Option.isSome] at cF
    clear hs h
    go_enter Try.func15, Try.ntmps15
    go_wp2_with (go_at_call 47; refine cF.out.mono ?_; rintro e w2 ⟨rfl, rfl⟩)
    go_ret
    exact .inl ⟨by trivial, rfl, rfl⟩
  | some q =>
    rw [hfk] at cF
    simp only [ptrV, Option.isSome] at cF
    obtain ⟨f, hf, rfl⟩ := h.named.file nm q hfk
    obtain ⟨A, B, hAB⟩ := List.append_of_mem hf
    have c4 := h.c4
    have f4 := h.fz 4
    have hp := h.plt
    have hk := h.tick
    have hcl := hs.calls
    obtain ⟨W1, hW1⟩ : ∃ W1, (w.setCell ⟨p, 4, none⟩ (.int .i64 ((d.calls : Int) + 1))) = W1 := ⟨_, rfl⟩
    rw [hW1] at hk
    have g4 := hk.1.c4
    have hsep := hk.1.sep (f := f) hf
    have hF1 := hk.1.files f hf
    have hsz := hs.fs f hf
    have cS := Lib.hid (fun (W : World) (hW : Below W1.heap.size W1 W) => histSyncB_any (cells_kept hF1.file (Turns.of_below hW) (List.not_mem_nil)) (hF1.sy.below hW) hsep.a3 (by omega) (Nat.le_trans hk.1.nle hW.size) (tick d).calls)
    have hpW := hk.1.plt
    have h := Lib.hid h
    have hk := Lib.hid hk
    have e : ((d.calls + 1 : Nat) : Int) = (d.calls : Int) + 1 := by omega
    simp only [e] at g4 cS
    clear e hs hsz
    go_enter Try.func15, Try.ntmps15
    go_wp2_with (go_at_call 47; refine cF.out.mono ?_; rintro e w2 ⟨rfl, rfl⟩)
    go_region_with ((go_at_call 29; refine (cS.out _ (by first | exact Below.refl _ _ | exact Below.drew (Below.refl _ _))).mono ?_; rintro e' w2 ⟨rfl, sv', q1, q2, q3, q4⟩))
    all_goals
      go_wp2
      go_ret
      exact .inr ⟨A, f, B, sv', rfl, hAB, rfl, hk.out.trans (hk.out.1.syncF hAB q1 q2 ⟨q3.os, q3.tape, q3.output, q3.size, q3.block⟩ q4)⟩

theorem p_out {n p : Nat} {w : World} {d : CDisk} (h : DiskK n w p d) {f : CFile} (hf : f ∈ d.fs) : p ∉ f.wb := fun hh => by
  have hnd := h.nodup
  rw [CDisk.wb_eq] at hnd
  exact (List.nodup_append.1 hnd).2.2 p (by simp [CDisk.own]) p (List.mem_flatMap.2 ⟨f, hf, hh⟩) rfl
theorem DiskK.partF {n p c : Nat} {w w2 : World} {d : CDisk} (h : DiskK n w p d) {A B : List CFile} {f : CFile} {cv' kv' v : Value} {b : List Nat} (hfs : d.fs = A ++ f :: B) (hf' : FileK n w2 (partMore f cv' kv' v b c)) (ht : Turns f.wb w w2)
    (hc : ∀ b, cv'.ownBlock = some b → f.cv.ownBlock = some b ∨ w.heap.size ≤ b) (hk : ∀ b, kv'.ownBlock = some b → f.kv.ownBlock = some b ∨ w.heap.size ≤ b) (h4 : ∀ b, cv'.ownBlock = some b → kv'.ownBlock ≠ some b)
    (hv : ∀ x, v.ownBlock = some x → w.heap.size ≤ x ∧ x < w2.heap.size ∧ cv'.ownBlock ≠ some x ∧ kv'.ownBlock ≠ some x) : DidK n p d { d with fs := A ++ partMore f cv' kv' v b c :: B } w w2 := by
  have hf : f ∈ d.fs := by rw [hfs]; simp
  have hF := h.files f hf
  have hsep := h.sep hf
  have hlt := hF.wlt
  have hs : ∀ o : Option Nat, (∀ b, o = some b → f.sv.ownBlock ≠ some b) → ∀ x, (o = some x ∨ w.heap.size ≤ x) → f.sv.ownBlock ≠ some x := fun o h1 x hx hsx => by
    rcases hx with e | e
    · exact h1 x e hsx
    · have := hlt x (by simp [CFile.wb, hsx]); omega
  refine h.putF hfs rfl ht hf' hc hk (fun _ hb => .inl hb) h4 (fun x hx => hs _ hsep.a5 x (hc x hx)) (fun x hx => hs _ hsep.a6 x (hk x hx)) ?_
  intro x hx
  rw [rb_more] at hx
  rcases List.mem_append.1 hx with hx | hx
  · exact .inl hx
  · obtain ⟨k1, k2, k3, k4⟩ := hv x (by simpa using hx)
    refine .inr ⟨k1, k2, ?_⟩
    have hqs := hlt f.q (by simp [CFile.wb])
    simp only [CFile.wb, List.mem_cons, List.mem_append, Option.mem_toList, not_or]
    exact ⟨by omega, k3, k4, fun e => by have := hlt x (by simp [CFile.wb, e]); omega⟩

theorem BytesAt.turns0 {F : List Nat} {w w' : World} {v : Value} {l : List Nat} (h : BytesAt w v l) (ht : Turns F w w') (hF : l ≠ [] → ∀ k, v.ownBlock = some k → k ∉ F) : BytesAt w' v l := by
  cases l with
  | nil =>
    obtain ⟨A, c, h1, h2, h3, h4, _, h6⟩ := h
    exact ⟨A, c, h1, h2, h3, h4, fun h => absurd h (by simp), h6⟩
  | cons x t => exact h.turns ht (hF (by simp))

set_option maxRecDepth 20000 in
set_option maxHeartbeats 4000000 in
theorem append_ok {n p : Nat} {w : World} {d : CDisk} (h : DiskK n w p d) (hs : Small d) (nm : ByteArray) (hz : nm.size ≤ maxLen) (v : Value) (b : List Nat) (hv : BytesAt w v b) (hvp : b ≠ [] → v.ownBlock ≠ some p) {A B : List CFile} {f : CFile} (hfk : findK d nm = some f.q) (hAB : d.fs = A ++ f :: B) (hroom : f.all.length + b.length ≤ 1048576) :
    Calls Try.prog 22 #[.pointer (some ⟨p, 0, none⟩), .string nm, v] w fun e w' =>
      e = .returned (.int .i64 0) ∧ ∃ cv' kv' v', DidK n p d { tick d with fs := A ++ partMore f cv' kv' v' b (d.calls + 1) :: B } w w' := by
  have cF := Lib.hid (find_any h nm hz)
  rw [hfk] at cF
  simp only [ptrV, Option.isSome] at cF
  have hf : f ∈ d.fs := by rw [hAB]; simp
  have hlen := fun W => hv.len (ty := 3) W
  have c4 := h.c4
  have f4 := h.fz 4
  have hF0 := h.files f hf
  have c3 := hF0.c3
  have hp := h.plt
  have hqp : f.q < w.heap.size := hF0.wlt f.q (by simp [CFile.wb])
  have hk := h.tick
  have hcl := hs.calls
  have hv1 : BytesAt (w.setCell ⟨p, 4, none⟩ (.int .i64 ((d.calls : Int) + 1))) v b := hv.turns0 (Turns.set (F := [p]) w (.int .i64 ((d.calls : Int) + 1)) (a := ⟨p, 4, none⟩) (by simp)) (fun hb x hx => by simp; rintro rfl; exact hvp hb hx)
  obtain ⟨W1, hW1⟩ : ∃ W1, (w.setCell ⟨p, 4, none⟩ (.int .i64 ((d.calls : Int) + 1))) = W1 := ⟨_, rfl⟩
  rw [hW1] at hk hv1
  have g4 := hk.1.c4
  have hsep := hk.1.sep (f := f) hf
  have hF1 := hk.1.files f hf
  have hsz := hs.fs f hf
  have hlt1 := hF1.wlt
  have hpf : p ∉ f.wb := p_out hk.1 hf
  have cC := Lib.hid (fun (W : World) (hW : Below W1.heap.size W1 W) => clone_any v b W (hv1.below hW) (by omega))
  have cA := Lib.hid (fun (W : World) (v' : Value) (hW : Below W1.heap.size W1 W) (ho : Own W W1.heap.size v' b) => fileAdd_any (hF1.below hW) hsep (Nat.le_trans hk.1.nle hW.size) (by omega) (by omega) v' b (ho.bytes hv1.byte) (fun x hx hxw => by have := World.ownsRow.lt ho x hx; have := hlt1 x hxw; omega) (by omega) (tick d).calls)
  have hpW := hk.1.plt
  have h := Lib.hid h
  have hk := Lib.hid hk
  have e : ((d.calls + 1 : Nat) : Int) = (d.calls : Int) + 1 := by omega
  simp only [e] at g4 cA
  have hroom' : ¬ (1048576 : Int) < (f.all.length : Int) + (b.length : Int) := by omega
  clear e hs hsz hv1
  go_enter Try.func22, Try.ntmps22
  go_wp2_with (go_at_call 47; refine cF.out.mono ?_; rintro e w2 ⟨rfl, rfl⟩)
  go_region_held3 (fun w' => w'.cell? ⟨p, 4, none⟩ = some (.int .i64 ((d.calls : Int) + 1))) (first | go_keep | assumption) (first
    | (go_at_call 51; refine (cC.out _ (by first | exact Below.refl _ _ | exact Below.drew (Below.refl _ _))).mono ?_; rintro e' w3 ⟨v3, rfl, o3, b3⟩; have hk3 : w3.cell? ⟨p, 4, none⟩ = some (.int .i64 ((d.calls : Int) + 1)) := (b3.cell (p := ⟨p, 4, none⟩) hpW).trans g4)
    | (go_at_call 27; refine (cA.out _ _ (by first | exact b3 | exact (Below.drew (Below.refl _ _)).trans b3) o3).mono ?_; rintro e' w2 ⟨rfl, cv', kv', q1, q2, q3, q4, q5⟩; have hk2 : w2.cell? ⟨p, 4, none⟩ = some (.int .i64 ((d.calls : Int) + 1)) := (q2.cell (a := ⟨p, 4, none⟩) (Nat.lt_of_lt_of_le hpW b3.size) hpf).trans hk3))
  all_goals
    go_wp2
    go_ret
    have b3' : Below W1.heap.size W1 w3 := by first | exact b3 | exact (Below.drew (Below.refl _ _)).trans b3
    have hlt : ∀ x, v3.ownBlock = some x → W1.heap.size ≤ x ∧ x < w3.heap.size := fun x hx => World.ownsRow.lt o3 x hx
    have hls := b3'.size
    have hq2s := q2.size
    have hno : ∀ (u u' : Value), (∀ x, u.ownBlock = some x → u'.ownBlock = some x ∨ w3.heap.size ≤ x) → (∀ x, u'.ownBlock = some x → x < W1.heap.size) → ∀ x, v3.ownBlock = some x → u.ownBlock ≠ some x := fun u u' h1 h2 x hx hu => by
      have k := hlt x hx
      rcases h1 x hu with e | e
      · have := h2 x e; omega
      · omega
    exact ⟨rfl, cv', kv', v3, hk.out.trans (hk.out.1.partF hAB q1 ((Turns.of_below (F := f.wb) b3').trans' q2) (fun x hx => (q3 x hx).imp id (fun e => by omega)) (fun x hx => (q4 x hx).imp id (fun e => by omega)) q5
      (fun x hx => ⟨(hlt x hx).1, by have := (hlt x hx).2; omega, hno cv' f.cv q3 (fun y hy => hlt1 y (by simp [CFile.wb, hy])) x hx, hno kv' f.kv q4 (fun y hy => hlt1 y (by simp [CFile.wb, hy])) x hx⟩))⟩

set_option maxRecDepth 20000 in
set_option maxHeartbeats 4000000 in
theorem append_no {n p : Nat} {w : World} {d : CDisk} (h : DiskK n w p d) (hs : Small d) (nm : ByteArray) (hz : nm.size ≤ maxLen) (v : Value) (b : List Nat) (hv : BytesAt w v b) (hbl : b.length ≤ 1000000)
    (hno : findK d nm = none ∨ ∃ f ∈ d.fs, findK d nm = some f.q ∧ 1048576 < f.all.length + b.length) :
    Calls Try.prog 22 #[.pointer (some ⟨p, 0, none⟩), .string nm, v] w fun e w' =>
      e = .returned (.int .i64 ((if findK d nm = none then 61 else 62 : Nat) : Nat)) ∧ w' = w := by
  have cF := Lib.hid (find_any h nm hz)
  have hlen := fun W => hv.len (ty := 3) W
  rcases hno with hfk | ⟨f, hf, hfk, hbig⟩
  · rw [hfk] at cF ⊢
    simp only [ptrV, Option.isSome] at cF
    clear hs h hv
    go_enter Try.func22, Try.ntmps22
    go_wp2_with (go_at_call 47; refine cF.out.mono ?_; rintro e w2 ⟨rfl, rfl⟩)
    go_ret
    exact ⟨rfl, rfl⟩
  · rw [hfk] at cF ⊢
    simp only [ptrV, Option.isSome] at cF
    have c3 := (h.files f hf).c3
    have hsz := (hs.fs f hf).2.2.2
    have hbig' : (1048576 : Int) < (f.all.length : Int) + (b.length : Int) := by omega
    clear hs h hv
    go_enter Try.func22, Try.ntmps22
    go_wp2_with (go_at_call 47; refine cF.out.mono ?_; rintro e w2 ⟨rfl, rfl⟩)
    go_ret
    exact ⟨rfl, rfl⟩
end Go.Proofs.Ytpkiapjcilapoaa
