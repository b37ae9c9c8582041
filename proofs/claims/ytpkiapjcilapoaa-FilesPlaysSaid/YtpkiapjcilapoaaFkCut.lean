/-
  What a loss of power leaves: the program.
-/
import Derived.Test.YtpkiapjcilapoaaFkGone
namespace Go.Proofs.Ytpkiapjcilapoaa
open Go.RowKit Go.Sort Go.Maps Go.Shelf

/-- A disk as a loss of power leaves it: so many files, each with its bytes. -/
inductive CutR : CDisk → List (ByteArray × List Nat) → Prop
  | nil : CutR newDisk []
  | snoc {d : CDisk} {l : List (ByteArray × List Nat)} (h : CutR d l) (q : Nat) (cv kv sv v : Value) (b : List Nat) (nm : ByteArray) (mb : Option Nat) (cv' kv' : Value) (hq : ∀ f ∈ d.fs, f.q ≠ q) :
      CutR (changed { d with fs := d.fs ++ [⟨q, cv, kv, sv, [(v, b)], [0], [0]⟩] } mb cv' kv' ⟨q, ByteArray.empty, nm⟩) (l ++ [(nm, b)])

theorem CutR.calls {d : CDisk} {l : List (ByteArray × List Nat)} (h : CutR d l) : d.calls = 0 ∧ d.ss = [] ∧ d.nam.length = l.length ∧ d.ks.length = l.length ∧ d.fs.length = l.length := by
  induction h with
  | nil => simp
  | snoc h q cv kv sv v b nm mb cv' kv' hq ih =>
    obtain ⟨h1, h2, h3, h4, h5⟩ := ih
    exact ⟨h1, h2, by simp [changed, h3], by simp [changed, h4], by simp [changed, h5]⟩
theorem fileAt_mem : ∀ (l : List Nam) (x : ByteArray) (q : Nat), fileAt (namesOf l) x = some q → ∃ a ∈ l, a.q = q ∧ a.to = x ∧ a.to ≠ ByteArray.empty := by
  suffices hh : ∀ (l : List Nam) (D : DW), IsMap D → ∀ x q, fileAt (l.foldl doN D) x = some q → (∃ a ∈ l, a.q = q ∧ a.to = x ∧ a.to ≠ ByteArray.empty) ∨ fileAt D x = some q by
    intro l x q h
    rcases hh l _ isMap_empty x q h with k | k
    · exact k
    · exact absurd (k.symm.trans (fileAt_nil x)) (by simp)
  intro l
  induction l with
  | nil => exact fun D _ x q h => .inr h
  | cons a t ih =>
    intro D hD x q h
    rcases ih _ (isMap_doN hD a) x q h with ⟨a', h1, h2⟩ | k
    · exact .inl ⟨a', by simp [h1], h2⟩
    · rw [fileAt_doN hD] at k
      split at k
      · rename_i k2
        injection k with k
        exact .inl ⟨a, by simp, k, k2.1.symm, k2.2⟩
      · split at k
        · cases k
        · exact .inr k

/-- Files at one place are one. -/
theorem file_oneK {n p : Nat} {w : World} {d : CDisk} (h : DiskK n w p d) {f g : CFile} (hf : f ∈ d.fs) (hg : g ∈ d.fs) (hq : f.q = g.q) : f = g := by
  have hnd := h.nodup
  rw [CDisk.wb_eq] at hnd
  have h1 := (List.nodup_append.1 hnd).2.1
  generalize d.fs = fs at h1 hf hg
  induction fs with
  | nil => simp at hf
  | cons a t ih =>
    rw [List.flatMap_cons, List.nodup_append] at h1
    have hin : ∀ x ∈ t, x.q ∈ t.flatMap CFile.wb := fun x hx => List.mem_flatMap.2 ⟨x, hx, by simp [CFile.wb]⟩
    rcases List.mem_cons.1 hf with e | hf1
    · rcases List.mem_cons.1 hg with e' | hg1
      · rw [e, e']
      · exact absurd hq (h1.2.2 f.q (by rw [e]; simp [CFile.wb]) g.q (hin g hg1))
    · rcases List.mem_cons.1 hg with e' | hg1
      · exact absurd hq.symm (h1.2.2 g.q (by rw [e']; simp [CFile.wb]) f.q (hin f hf1))
      · exact ih h1.2.1 hf1 hg1

theorem DiskK.lower {n m p : Nat} {w : World} {d : CDisk} (h : DiskK n w p d) (hm : m ≤ n) : DiskK m w p d :=
  ⟨h.disk, h.map, h.ch.lower hm, h.ca.lower hm, h.sy.lower hm, fun f hf => ⟨(h.files f hf).file, (h.files f hf).ch.lower hm, (h.files f hf).ca.lower hm, (h.files f hf).sy.lower hm, (h.files f hf).bytes⟩, h.named, h.nodup, h.ro, fun b hb => ⟨Nat.le_trans hm (h.low b hb).1, (h.low b hb).2⟩⟩

/-- Bytes put into a file that was just made. -/
theorem addNew_any {n p q : Nat} {W1 W : World} {dl : CDisk} (hk : DiskK n W1 p { dl with fs := dl.fs ++ [newFile q] }) (hW : Below W1.heap.size W1 W) (v : Value) (b : List Nat) (hv : BytesAt W v b) (hvo : ∀ x, v.ownBlock = some x → W1.heap.size ≤ x ∧ x < W.heap.size) (hb : b.length ≤ 1048576) :
    Calls Try.prog 27 #[.pointer (some ⟨q, 0, none⟩), .int .i64 0, v] W fun e w' => e = .returned (.tuple #[]) ∧ ∃ cv kv, DidK n p { dl with fs := dl.fs ++ [newFile q] } { dl with fs := dl.fs ++ partMore (newFile q) cv kv v b 0 :: [] } W1 w' ∧ Turns (newFile q).wb W w' := by
  have hf : newFile q ∈ (dl.fs ++ [newFile q]) := by simp
  have hF := hk.files (newFile q) hf
  have hsep := hk.sep (f := newFile q) hf
  have hlt := hF.wlt
  refine (fileAdd_any (hF.below hW) hsep (Nat.le_trans hk.nle hW.size) (by simp) (by simp) v b hv (fun x hx hxw => by have := (hvo x hx).1; have := hlt x hxw; omega) (by simp [CFile.all]; omega) 0).mono ?_
  rintro e w' ⟨rfl, cv, kv, q1, q2, q3, q4, q5⟩
  have hs := hW.size
  have hs2 := q2.size
  have hno : ∀ (u u' : Value), (∀ x, u.ownBlock = some x → u'.ownBlock = some x ∨ W.heap.size ≤ x) → (∀ x, u'.ownBlock = some x → x < W1.heap.size) → ∀ x, v.ownBlock = some x → u.ownBlock ≠ some x := fun u u' h1 h2 x hx hu => by
    have k := hvo x hx
    rcases h1 x hu with e | e
    · have := h2 x e; omega
    · omega
  refine ⟨rfl, cv, kv, ?_, q2⟩
  exact hk.partF (A := dl.fs) (B := []) (f := newFile q) rfl q1 ((Turns.of_below (F := (newFile q).wb) hW).trans' q2) (fun x hx => (q3 x hx).imp id (fun e => by omega)) (fun x hx => (q4 x hx).imp id (fun e => by omega)) q5
    (fun x hx => ⟨(hvo x hx).1, by have := (hvo x hx).2; omega, hno cv (newFile q).cv q3 (fun y hy => hlt y (by simp [CFile.wb, hy])) x hx, hno kv (newFile q).kv q4 (fun y hy => hlt y (by simp [CFile.wb, hy])) x hx⟩)

theorem NamesM.strs {w : World} {mb : Option Nat} {m : Nat} {l : List Nam} (hmp : NamesM w mb m (namesOf l)) : ∃ es, namesOf l = .map es ∧ ∀ q ∈ es, ∃ x, q.1 = .string x := by
  cases mb with
  | none => exact ⟨[], hmp, by simp⟩
  | some b =>
    have hown : w.ownsMap Try.prog 9 fileR b m (namesOf l) := hmp
    obtain ⟨es, he, hk⟩ := hown.keysOf
    refine ⟨es, he, fun q hq => ?_⟩
    obtain ⟨v, hv⟩ := hk q hq
    obtain ⟨x, _, hx, _⟩ := Maps.keyOf_str Try.underlying9 hv
    exact ⟨x, hx⟩
theorem NamesM.mem {w : World} {mb : Option Nat} {m : Nat} {l : List Nam} (h : NamesM w mb m (namesOf l)) (x : List UInt8) : x ∈ namesL (namesOf l) ↔ ∃ q, fileAt (namesOf l) ⟨x.toArray⟩ = some q := by
  have hh := has_names ⟨x.toArray⟩ l
  obtain ⟨es, he, hs⟩ := h.strs
  unfold namesL
  rw [(List.mergeSort_perm _ _).mem_iff]
  rw [← Option.isSome_iff_exists, ← hh, he]
  simp only [keyL, has_eq, strKeys, List.mem_map, List.any_eq_true]
  refine exists_congr fun q => and_congr_right fun hq => ?_
  obtain ⟨y, hy⟩ := hs q hq
  rw [hy]
  simp [strOf, Lit.sameKey]
theorem NamesM.names_len {w : World} {mb : Option Nat} {m : Nat} {l : List Nam} (h : NamesM w mb m (namesOf l)) : (namesL (namesOf l)).length = Maps.size (namesOf l) := by
  obtain ⟨es, he, hs⟩ := h.strs
  rw [he]
  simp [namesL, strKeys, size_eq]

/-- What is left of the file at a place. -/
def leftAt (d : CDisk) (c : Nat) (keep : List Bool) (torn : Int) : Option Nat → List Nat
  | none => []
  | some q => match d.fs.find? (fun f => decide (f.q = q)) with
    | some f => leftK f c keep torn
    | none => []
/-- What a loss of power leaves: names, rising, and bytes. -/
def cutL (d : CDisk) (c : Nat) (names : Int) (keep : List Bool) (torn : Int) : List (ByteArray × List Nat) :=
  (namesL (namesOf (thereD d c names))).map (fun x => (⟨x.toArray⟩, leftAt d c keep torn (fileAt (namesOf (thereD d c names)) ⟨x.toArray⟩)))
theorem leftAt_file {n p : Nat} {w : World} {d : CDisk} (h : DiskK n w p d) {f : CFile} (hf : f ∈ d.fs) (c : Nat) (keep : List Bool) (torn : Int) : leftAt d c keep torn (some f.q) = leftK f c keep torn := by
  show (match d.fs.find? (fun g => decide (g.q = f.q)) with | some f => leftK f c keep torn | none => []) = _
  cases hfd : d.fs.find? (fun g => decide (g.q = f.q)) with
  | none =>
    have := List.find?_eq_none.1 hfd f hf
    simp at this
  | some g =>
    have h1 := List.find?_some hfd
    have h2 := List.mem_of_find?_eq_some hfd
    simp at h1
    obtain rfl := file_oneK h h2 hf h1
    rfl

theorem keys_call (mb : Option Nat) (W : World) : Calls Try.prog 26 #[.map mb] W fun e w' => e = .returned (.func (.func 57) #[] #[.pointer (some ⟨W.heap.size, 0, none⟩)]) ∧ w' = W.alloc (.cells #[.map mb] 58) :=
  (callsIn_wide (n := 5)).1 (AnyZ.keys_in Try.keysA Fence.wide 5 trivial rfl mb W)
theorem sorted_call {w : World} {b m : Nat} {l : List Nam} (hmp : NamesM w (some b) m (namesOf l)) (hm : m ≤ 8000) :
    Calls Try.prog 25 #[.func (.func 57) #[] #[.pointer (some ⟨w.heap.size, 0, none⟩)]] (w.alloc (.cells #[.map (some b)] 58)) fun e w' => ∃ v, e = .returned v ∧ NamesRow w' w.heap.size v (namesOf l) ∧ Below w.heap.size w w' := by
  have hown : w.ownsMap Try.prog 9 fileR b m (namesOf l) := hmp
  have hsz := hown.size_le
  have hmax : Maps.size (namesOf l) ≤ maxLen := by unfold maxLen; omega
  have hbytes : Maps.size (namesOf l) * 16 ≤ 140737488355328 := by omega
  have hbl := hown.lt
  have hseq : SeqGives Fence.wide 2 Try.prog 57 #[.pointer (some ⟨w.heap.size, 0, none⟩)] encStr (fun ss => ss.Perm (strKeys (namesOf l))) (Maps.size (namesOf l)) (w.alloc (.cells #[.map (some b)] 58)) :=
    AnyZ.keys_gives (ρ := Try.keysA_ren) { Try.keysA with } Fence.wide _ trivial rfl (by omega) w.heap.size b m (namesOf l) _ (by simp) (by simp) (by
      obtain ⟨es, clock, hb, Ft, hs, hD⟩ := hown
      exact ⟨es, clock, (Below.heap_alloc _ _ b hbl).trans hb, Ft, hs, hD⟩)
  have cS := AnyZ.sorted_in Try.sortedA Fence.wide 5 trivial trivial trivial trivial rfl (by omega) (sortsA _) (enters_of Try.func56 (by kernel_rfl) rfl) 57 #[.pointer (some ⟨w.heap.size, 0, none⟩)] trivial (enters_of Try.func57 (by kernel_rfl) rfl) _ _ hmax hbytes _ hseq
  change CallsIn _ _ Try.prog 25 _ _ _ at cS
  refine ((callsIn_wide (n := 5)).1 cS).mono ?_
  rintro e w' ⟨v, ss, rfl, hS, hrow, hnil, hb⟩
  refine ⟨v, rfl, ?_, ((Below.refl _ w).alloc (Nat.le_refl _) _).trans (hb.mono (by simp))⟩
  have hrow' := ownsRow_base_a hrow (base' := w.heap.size) (by simp)
  unfold NamesRow OwnRow namesL
  rw [← mergeSort_of_perm hS, List.length_map, List.length_mergeSort]
  exact hrow'

theorem leftK_len {f : CFile} (hO : FileOrd f) (c : Nat) (keep : List Bool) (torn : Int) : (leftK f c keep torn).length ≤ f.all.length := by
  have h1 := (leftN_len ((openP f c).map (·.2)) keep torn (allParts (f.parts.take (durN f.ks f.ss c))) (openP f c).length).1
  have h2 := allParts_sub f.parts (durN f.ks f.ss c) (tillN f.ks c) (durN_le _ _ _ hO.ss)
  have e1 : ((openP f c).map (·.2)).take (openP f c).length = (openP f c).map (·.2) := List.take_of_length_le (by rw [List.length_map]; exact Nat.le_refl _)
  rw [e1] at h1
  have h3 : ((openP f c).map (·.2)).flatten = allParts ((f.parts.take (tillN f.ks c)).drop (durN f.ks f.ss c)) := by simp [allParts, openP, List.flatMap_def]
  rw [h3] at h1
  unfold leftK
  simp only [List.length_take]
  show _ ≤ (allParts f.parts).length
  omega

theorem cut_step {n pl : Nat} {w5 wr W1 w8 w9 w10 : World} {dl dlA dlB dlC dlD : CDisk} (j0 : DidK n pl dl dlA wr W1) (j1 : DidK n pl dlA dlB W1 w8) (j2 : DidK n pl dlB dlC w8 w9) (j3 : DidK n pl dlC dlD w9 w10) (htr : Turns [pl] w5 wr) (hbs : ∀ x ∈ dl.bs pl, x = pl ∨ w5.heap.size ≤ x) :
    DiskK n w10 pl dlD ∧ Turns [pl] w5 w10 ∧ ∀ x ∈ dlD.bs pl, x = pl ∨ w5.heap.size ≤ x := by
  obtain ⟨k1, k2, k3⟩ := j0.trans (j1.trans (j2.trans j3))
  have hs := htr.size
  refine ⟨k1, htr.trans k2 (fun x hx => (hbs x hx).imp (fun e => by simp [e]) id), fun x hx => ?_⟩
  rcases k3 x hx with e | e
  · exact hbs x e
  · exact .inr (by omega)

set_option maxRecDepth 20000 in
set_option maxHeartbeats 8000000 in
theorem cut_any {n p : Nat} {w : World} {d : CDisk} (h : DiskK n w p d) (hO : DiskOrd d) (hs : Small d) (at_ names : Int) (ha1 : -9223372036854775808 ≤ at_) (ha2 : at_ ≤ 9223372036854775807) (h1 : -9223372036854775808 ≤ names) (h2 : names ≤ 9223372036854775807)
    {kv : Value} {keep : List Bool} (hk : KeepAt w kv keep) (torn : Int) (ht1 : -9223372036854775808 ≤ torn) (ht2 : torn ≤ 9223372036854775807) :
    Calls Try.prog 10 #[.pointer (some ⟨p, 0, none⟩), .int .i64 at_, .int .i64 names, kv, .int .i64 torn] w fun e w' => ∃ pl dl sv, e = .returned (.pointer (some ⟨pl, 0, none⟩)) ∧ DiskK w.heap.size w' pl (syncedN dl sv) ∧ CutR dl (cutL d (pickF at_ (d.calls + 1)) names keep torn) ∧ Below w.heap.size w w' := by
  have c4 := h.c4
  have hp := h.plt
  have hcl := hs.calls
  have cN := Lib.hid (fun W => counted_any at_ d.calls W ha1 ha2 (by omega))
  have hpk := pickF_lt at_ (show 0 < d.calls + 1 by omega)
  obtain ⟨C, hC⟩ : ∃ C, pickF at_ (d.calls + 1) = C := ⟨_, rfl⟩
  rw [hC] at cN hpk ⊢
  have cL := Lib.hid (namesLeft_any h hO hs C (by omega) names h1 h2)
  have hXl : (thereD d C names).length ≤ 8000 := by
    have e1 := durN_le d.ks d.ss C hO.ss
    have e2 := tillN_le d.ks C
    have e3 := hO.len
    have e4 := hs.nam
    rw [thereD, List.length_append, List.length_take, List.length_take]
    have : (openD d C).length ≤ d.nam.length - durN d.ks d.ss C := by unfold openD; rw [List.length_drop, List.length_take]; omega
    omega
  have hh := Lib.hid h
  have hOH := Lib.hid hO
  have hsH := Lib.hid hs
  have hk := Lib.hid hk
  clear h hO hs hC
  go_enter Try.func10, Try.ntmps10
  go_wp2_with (first
    | (go_at_call 23; refine (cN.out _).mono ?_; rintro e w1 ⟨rfl, rfl⟩)
    | (go_at_call 24; refine cL.out.mono ?_; rintro e w2 ⟨b, rfl, hm2, hbw, hb2⟩)
    | (go_at_call 8; refine (new_any (n := w.heap.size) w2 hb2.size).mono ?_; rintro e w3 ⟨rfl, hd3, hb3⟩; have hm3 := hm2.turns (Turns.of_below (F := []) hb3) (by simp))
    | (go_at_call 26; refine (keys_call _ _).mono ?_; rintro e w4 ⟨rfl, rfl⟩)
    | (go_at_call 25; refine (sorted_call hm3 hXl).mono ?_; rintro e w5 ⟨vn, rfl, hn5, hb5⟩; have hl5 : ∀ W, (Builtin.len_ #[44] 3 #[vn]).run Try.prog W = .ok (.int .i64 ((cutL d C names keep torn).length : Nat)) W := (fun W => by (have := hn5.row.len (ty := 3) Try.underlying44 W; rw [List.length_map] at this; rw [cutL, List.length_map]; exact this))))
  have hbl2 : b < w2.heap.size := hm2.block b rfl
  have hpl3 : w2.heap.size < w3.heap.size := hd3.plt
  obtain ⟨CL, hCL⟩ : ∃ CL, cutL d C names keep torn = CL := ⟨_, rfl⟩
  rw [hCL] at hl5 ⊢
  have hCLl : CL.length ≤ 8000 := by
    rw [← hCL, cutL, List.length_map, hm3.names_len]
    have := hm3.size; omega
  have hm5 := Lib.hid (hm3.turns (Turns.of_below (F := []) hb5) (by simp))
  have hd5 := hd3.below hb5
  have hn5 := Lib.hid hn5
  have hw5 : Below w.heap.size w w5 := (hb2.trans (hb3.mono hb2.size)).trans (hb5.mono (Nat.le_trans hb2.size hb3.size))
  have hs5 := hb5.size
  have hCLH := Lib.hid hCL
  obtain ⟨pl, hpl⟩ : ∃ pl, w2.heap.size = pl := ⟨_, rfl⟩
  rw [hpl] at hbl2 hpl3 hd5 ⊢
  have hplw : w.heap.size ≤ pl := by have := hb2.size; omega
  have hw5 := Lib.hid hw5
  clear hm2 hm3 hd3 hb2 hb3 hb5 cL cN hCL
  go_loopw [33] (fun t wr => ∃ (i : Nat) (dl : CDisk), t = .int .i64 (i : Nat) ∧ i ≤ CL.length ∧ Hid (DiskK w.heap.size wr pl dl ∧ CutR dl (CL.take i) ∧ Turns [pl] w5 wr ∧ ∀ x ∈ dl.bs pl, x = pl ∨ w5.heap.size ≤ x)) (fun t _ => CL.length - (intOf t).toNat)
  case atStart => exact ⟨0, newDisk, rfl, by omega, Lib.hid ⟨hd5, .nil, Turns.refl _ _, fun x hx => .inl (by simpa [CDisk.bs, CDisk.wb, CDisk.rb, Value.ownBlock] using hx)⟩⟩
  case round =>
    clear hd5
    obtain ⟨i, dl, rfl, hi, hrel⟩ := hrel
    rcases Nat.lt_or_ge i CL.length with hil | hil
    · obtain ⟨hdl, hcr, htr, hbs⟩ := hrel.out
      obtain ⟨y, hy⟩ : ∃ y, CL[i]? = some y := ⟨_, List.getElem?_eq_getElem hil⟩
      have hy2 := hy
      rw [← hCLH.out, cutL, List.getElem?_map] at hy2
      obtain ⟨x, hx, hxy⟩ := Option.map_eq_some_iff.1 hy2
      obtain ⟨q0, hq0⟩ := (hm5.out.mem x).1 (List.mem_of_getElem? hx)
      obtain ⟨a, ha, hqa, hto, hne⟩ := fileAt_mem _ _ _ hq0
      have hain : a ∈ d.nam := by
        rcases List.mem_append.1 ha with ha | ha
        · exact List.mem_of_mem_take ha
        · exact List.mem_of_mem_take (List.mem_of_mem_drop (List.mem_of_mem_take ha))
      obtain ⟨f0, hf0, hfq⟩ := hOH.out.fq a hain hne
      have hq0f : q0 = f0.q := by rw [← hqa, hfq]
      subst hq0f
      have hyb : y = (⟨x.toArray⟩, leftK f0 C keep torn) := by rw [← hxy, hq0, leftAt_file hh.out hf0]
      have hbw : Below w.heap.size w wr := hw5.out.trans (htr.below hw5.out.size (by simp; omega))
      obtain ⟨ad, hix, hcell, hadl⟩ := (hn5.out.row.turns htr (fun k hk => by have := (World.ownsRow.lt hn5.out k hk).1; simp; omega)).index (P := Try.prog) Try.underlying44 (fun W => by kernel_rfl) (k := i) (by rw [List.length_map]; exact (List.getElem?_eq_some_iff.1 hx).1)
      rw [List.getElem?_map, hx] at hcell
      replace hcell : wr.cell? ad = some (.string ⟨x.toArray⟩) := hcell
      have hsw := htr.size
      have hplr : pl < wr.heap.size := hdl.plt
      obtain ⟨z1, z2, z3, z4, z5⟩ := hcr.calls
      have hlt8 : (CL.take i).length ≤ 8000 := by rw [List.length_take]; omega
      obtain ⟨W1, hW1⟩ : ∃ W1, wr.alloc (.cells #[.slice none 0 0, .slice none 0 0, .slice none 0 0, .int .i64 0] 77) = W1 := ⟨_, rfl⟩
      obtain ⟨hk1, hk1b⟩ := hdl.addFile (d' := { dl with fs := dl.fs ++ [newFile wr.heap.size] }) rfl
      rw [hW1] at hk1
      have hbW1 : Below wr.heap.size wr W1 := by rw [← hW1]; exact below_box1 _ _
      have j0 : DidK w.heap.size pl dl { dl with fs := dl.fs ++ [newFile wr.heap.size] } wr W1 := ⟨hk1, .of_below hbW1, hk1b⟩
      have c4' := hk1.c4
      have e4 : ((dl.calls : Nat) : Int) = 0 := by rw [z1]; rfl
      simp only [e4] at c4'
      have hmW : NamesM W1 (some b) (thereD d C names).length (namesOf (thereD d C names)) := (hm5.out.turns htr (fun k hk => by injection hk with hk; simp; omega)).turns (Turns.of_below (F := []) hbW1) (by simp)
      have hnz : (⟨x.toArray⟩ : ByteArray).size ≤ maxLen := by rw [← hto]; exact (hOH.out.nam a hain).2
      have hlk1 := hmW.look hnz
      have hlk2 := NamesM.look (w := W1.drew) (mb := some b) (m := (thereD d C names).length) (D := namesOf (thereD d C names)) hmW hnz
      rw [hq0] at hlk1 hlk2
      simp only [ptrV] at hlk1 hlk2
      have hbw1 : Below w.heap.size w W1 := hbw.trans (hbW1.mono hbw.size)
      have hfs0 := hsH.out.fs f0 hf0
      have cB := Lib.hid (fun (W : World) (hW : Below W1.heap.size W1 W) => bytesLeft_any (((hh.out.files f0 hf0).below hbw1).below hW) (hOH.out.fs f0 hf0) (by omega) (by omega) hfs0.2.2.2 C (by omega) (keep := keep) (kv := kv) (RowAt.below (RowAt.below hk.out hbw1) hW) torn ht1 ht2)
      have hlb := leftK_len (hOH.out.fs f0 hf0) C keep torn
      obtain ⟨bb, hbb⟩ : ∃ bb, leftK f0 C keep torn = bb := ⟨_, rfl⟩
      rw [hbb] at cB hlb hyb
      have hbbl : bb.length ≤ 1048576 := Nat.le_trans hlb hfs0.2.2.2
      have cA := Lib.hid (fun (W : World) (v : Value) (hW : Below W1.heap.size W1 W) (hv : BytesAt W v bb) (hvo : ∀ x, v.ownBlock = some x → W1.heap.size ≤ x ∧ x < W.heap.size) => addNew_any hk1 hW v bb hv hvo hbbl)
      have hplW : pl < W1.heap.size := hk1.plt
      have hplq : pl ∉ (newFile wr.heap.size).wb := by simp [CFile.wb, Value.ownBlock]; omega
      have hN0 : ∀ x, fileAt (namesOf dl.nam) x = some wr.heap.size → False := fun x hx => by have := named_lt hdl (nm := x) hx; omega
      have hqf : ∀ f ∈ dl.fs, f.q ≠ wr.heap.size := fun f hf => by have := hdl.wlt f.q (CDisk.wb_file hf f.q (by simp [CFile.wb])); omega
      have hty : CL.take (i + 1) = CL.take i ++ [(⟨x.toArray⟩, bb)] := by rw [take_snoc hy, hyb]
      have hty := Lib.hid hty
      have hcr := Lib.hid hcr
      have htr := Lib.hid htr
      have hbs := Lib.hid hbs
      have j0 := Lib.hid j0
      have hN0 := Lib.hid hN0
      have hqf := Lib.hid hqf
      have hzz := Lib.hid (And.intro z3 z4)
      have hnz := Lib.hid hnz
      clear hy hy2 hxy hx ha hqa hfq hto hne hain hyb hbb hk1 hk1b hmW hbw hbw1 hbW1 hdl z1 z2 z3 z4 z5 e4 hrel hfs0 hq0
      go_wp2
      go_region_held3 (fun w' => w'.cell? ⟨pl, 4, none⟩ = some (.int .i64 0)) (first | go_keep | assumption) (first
        | (go_at_call 28; refine (cB.out _ (by first | exact Below.refl _ _ | exact Below.drew (Below.refl _ _))).mono ?_; rintro e' w7 ⟨v7, rfl, hv7, hb7, ho7⟩; have k7 : w7.cell? ⟨pl, 4, none⟩ = some (.int .i64 0) := (hb7.cell (p := ⟨pl, 4, none⟩) hplW).trans c4')
        | (go_at_call 27; refine (cA.out _ _ (by first | exact hb7 | exact (Below.drew (Below.refl _ _)).trans hb7) hv7 ho7).mono ?_; rintro e' w8 ⟨rfl, cv, kv2, hd8, ht8⟩; have k8 : w8.cell? ⟨pl, 4, none⟩ = some (.int .i64 0) := (ht8.cell (a := ⟨pl, 4, none⟩) (Nat.lt_of_lt_of_le hplW hb7.size) hplq).trans k7))
      all_goals
        have hk8 := hd8.1
        have hF8 := hk8.files (partMore (newFile wr.heap.size) cv kv2 v7 bb 0) (by simp)
        have hsep8 := hk8.sep (f := partMore (newFile wr.heap.size) cv kv2 v7 bb 0) (by simp)
        have cS := Lib.hid (fun (W : World) (hW : Below w8.heap.size w8 W) => histSyncB_any (cells_kept hF8.file (Turns.of_below hW) (List.not_mem_nil)) (hF8.sy.below hW) hsep8.a3 (by simp) (Nat.le_trans hk8.nle hW.size) 0)
        have hY := Lib.hid (fun (W w9 : World) (hW : Below w8.heap.size w8 W) (sv' : Value) q1 q2 q3 q4 => (hk8.below hW).syncF (w2 := w9) (sv' := sv') (c := 0) (A := dl.fs) (B := []) (f := partMore (newFile wr.heap.size) cv kv2 v7 bb 0) rfl q1 q2 q3 q4 |> (DidK.below hk8 hW).trans)
        have hZ := Lib.hid (fun (w9 : World) (sv' : Value) (h9 : DiskK w.heap.size w9 pl { dl with fs := dl.fs ++ syncedF (partMore (newFile wr.heap.size) cv kv2 v7 bb 0) sv' 0 :: [] }) => change_any h9 (by (have := hzz.out.1; show dl.nam.length ≤ _; omega)) (by (have := hzz.out.2; show dl.ks.length ≤ _; omega)) ⟨wr.heap.size, ByteArray.empty, ⟨x.toArray⟩⟩ empty_size hnz.out (by
          show Named (namesOf (dl.nam ++ [_])) _
          rw [namesOf_snoc]
          exact h9.named.doN (isMap_names _) _ (fun _ => ⟨syncedF (partMore (newFile wr.heap.size) cv kv2 v7 bb 0) sv' 0, by simp, rfl⟩) (fun _ x hx => (hN0.out x hx).elim)))
        have hd8 := Lib.hid hd8
        have hpl8 : pl < w8.heap.size := hk8.plt
        clear hk8 hF8 hsep8 ht8 hv7 hb7 ho7 hlk1 hlk2 cB cA
        go_wp2
        go_region_with ((go_at_call 29; refine (cS.out _ (by first | exact Below.refl _ _ | exact Below.drew (Below.refl _ _))).mono ?_; rintro e' w9 ⟨rfl, sv', q1, q2, q3, q4⟩; have h9 := hY.out _ w9 (by first | exact Below.refl _ _ | exact Below.drew (Below.refl _ _)) sv' q1 q2 q3 q4))
        all_goals
          have h9 := Lib.hid h9
          clear q1 q2 q3 q4
          go_wp2_with (go_at_call 30; refine (hZ.out w9 sv' h9.out.1).mono ?_; rintro e' w10 ⟨rfl, mb', cv', kv', j1, j2⟩; have hnew : Hid (∃ dl', DiskK w.heap.size w10 pl dl' ∧ CutR dl' (CL.take (i + 1)) ∧ Turns [pl] w5 w10 ∧ ∀ x ∈ dl'.bs pl, x = pl ∨ w5.heap.size ≤ x) := (by (obtain ⟨m1, m2, m3⟩ := cut_step j0.out hd8.out h9.out j2 htr.out hbs.out; exact Lib.hid ⟨_, m1, by rw [hty.out]; exact CutR.snoc hcr.out _ _ _ _ _ _ _ _ _ _ hqf.out, m2, m3⟩)))
          go_roundw
          case rel =>
            obtain ⟨dl', hdl'⟩ := hnew.out
            exact ⟨i + 1, dl', by go_num, by omega, Lib.hid hdl'⟩
          case measure => simp [intOf]; omega
    · obtain ⟨hdl, hcr, htr, hbs⟩ := hrel.out
      have hd : CL.take i = CL := List.take_of_length_le hil
      rw [hd] at hcr
      obtain ⟨z1, z2, z3, z4, z5⟩ := hcr.calls
      have c4' := hdl.c4
      have e4 : ((dl.calls : Nat) : Int) = 0 := by rw [z1]; rfl
      simp only [e4] at c4'
      have hil' : ¬ ((i : Int) < (CL.length : Int)) := by omega
      obtain ⟨p1, p2, p3, _⟩ := own_parts hdl
      have cS := Lib.hid (fun (W : World) (hW : Below wr.heap.size wr W) => histSyncN_any (cells_kept hdl.disk (Turns.of_below hW) (List.not_mem_nil)) (hdl.sy.below hW) p3 (by rw [z2]; simp) (Nat.le_trans hdl.nle hW.size) 0)
      have hplr : pl < wr.heap.size := hdl.plt
      have hbw : Below w.heap.size w wr := hw5.out.trans (htr.below hw5.out.size (by simp; omega))
      have hfin := Lib.hid (fun (W w9 : World) (hW : Below wr.heap.size wr W) (sv' : Value) q1 q2 (q3 : Turns (pl :: dl.sv.ownBlock.toList) W w9) q4 => ((DidK.below hdl hW).trans ((hdl.below hW).syncN (w2 := w9) (sv' := sv') q1 q2 q3 q4)))
      have hlow := Lib.hid (fun x hx => (hdl.low x hx).1)
      have hcr := Lib.hid hcr
      have hbw := Lib.hid hbw
      have hz1 := Lib.hid z1
      clear hdl htr hbs hd z1 z2 z3 z4 z5 e4 hrel p1 p2 p3
      go_wp2
      go_region_with ((go_at_call 31; refine (cS.out _ (by first | exact Below.refl _ _ | exact Below.drew (Below.refl _ _))).mono ?_; rintro e' w9 ⟨rfl, sv', q1, q2, q3, q4⟩; have h9 := Lib.hid (hfin.out _ w9 (by first | exact Below.refl _ _ | exact Below.drew (Below.refl _ _)) sv' q1 (by rw [hz1.out]; exact q2) q3 q4)))
      all_goals
        clear q1 q2 q3 q4
        go_wp2
        go_ret
        exact ⟨pl, dl, sv', rfl, h9.out.1, by rw [hCLH.out]; exact hcr.out, hbw.out.trans (h9.out.2.1.below hbw.out.size hlow.out)⟩
end Go.Proofs.Ytpkiapjcilapoaa
