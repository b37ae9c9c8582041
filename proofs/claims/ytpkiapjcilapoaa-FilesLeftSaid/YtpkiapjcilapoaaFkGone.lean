/-
  The files that a loss of power leaves, by their names: the program.
-/
import Derived.Test.YtpkiapjcilapoaaFkCat
namespace Go.Proofs.Ytpkiapjcilapoaa
open Go.RowKit Go.Sort Go.Maps

/-- The calls stand in order; the names are no longer than a name may be. -/
structure DiskOrd (d : CDisk) : Prop where
  ks : d.ks.Pairwise (· ≤ ·)
  ss : d.ss.Pairwise (· ≤ ·)
  len : d.nam.length = d.ks.length
  sm : ∀ s ∈ d.ss, s ≤ 1000000
  nam : ∀ a ∈ d.nam, a.from_.size ≤ maxLen ∧ a.to.size ≤ maxLen
  fs : ∀ f ∈ d.fs, FileOrd f
  fq : ∀ a ∈ d.nam, a.to ≠ ByteArray.empty → ∃ f ∈ d.fs, f.q = a.q

def openD (d : CDisk) (c : Nat) : List Nam := (d.nam.take (tillN d.ks c)).drop (durN d.ks d.ss c)
/-- The changes of names that come through. -/
def thereD (d : CDisk) (c : Nat) (names : Int) : List Nam := d.nam.take (durN d.ks d.ss c) ++ (openD d c).take (pickF names ((openD d c).length + 1))

theorem two_box (w : World) (e : TypeId) (v1 v2 : Value) : RowsAt 1 (w.alloc (.cells #[v1, v2] e)) (.slice (some ⟨w.heap.size, 0, none⟩) 2 2) [[v1], [v2]] := by
  refine ⟨some ⟨w.heap.size, 0, none⟩, 2, rfl, Nat.le_refl _, by decide, by simp, fun _ => ⟨w.heap.size, 0, rfl, by simp, fun i y hy j u hu => ?_⟩, fun h => by cases h⟩
  have hb : (w.alloc (.cells #[v1, v2] e)).heap[w.heap.size]? = some (.cells #[v1, v2] e (0, 0)) := heap_alloc_new w _
  have hi : i = 0 ∨ i = 1 := by have := (List.getElem?_eq_some_iff.1 hy).1; simp at this; omega
  rw [cell_of_row _ w.heap.size _ _ e (0, 0) hb]
  rcases hi with rfl | rfl
  · simp at hy; subst hy
    have hj : j = 0 := by have := (List.getElem?_eq_some_iff.1 hu).1; simpa using this
    subst hj; simpa using hu
  · simp at hy; subst hy
    have hj : j = 0 := by have := (List.getElem?_eq_some_iff.1 hu).1; simpa using this
    subst hj; simpa using hu

theorem two_box_at (w : World) (b : Nat) (hb : b = w.heap.size) (e : TypeId) (v1 v2 : Value) : RowsAt 1 (w.alloc (.cells #[v1, v2] e)) (.slice (some ⟨b, 0, none⟩) 2 2) [[v1], [v2]] := by
  subst hb; exact two_box w e v1 v2
theorem nams_one (l : List Nam) : ∀ y ∈ l.map namCells, ∀ u ∈ y, u.oneCell' = true := by
  intro y hy u hu
  obtain ⟨a, _, rfl⟩ := List.mem_map.1 hy
  simp [namCells] at hu
  rcases hu with rfl | rfl | rfl <;> rfl

set_option maxRecDepth 20000 in
set_option maxHeartbeats 4000000 in
theorem namesLeft_any {n p : Nat} {w : World} {d : CDisk} (h : DiskK n w p d) (hO : DiskOrd d) (hs : Small d) (c : Nat) (hcc : c ≤ 1000000) (names : Int) (h1 : -9223372036854775808 ≤ names) (h2 : names ≤ 9223372036854775807) :
    Calls Try.prog 24 #[.pointer (some ⟨p, 0, none⟩), .int .i64 (c : Nat), .int .i64 names] w fun e w' => ∃ b, e = .returned (.map (some b)) ∧ NamesM w' (some b) (thereD d c names).length (namesOf (thereD d c names)) ∧ w.heap.size ≤ b ∧ Below w.heap.size w w' := by
  have cT := tillN_any h.disk h.ch.rows h.ca.rows h.sy.rows (by have := hs.ks; omega) (by have := hs.ss; omega) hO.ks hO.ss (by rw [List.length_map]; exact hO.len) hO.sm c hcc
  rw [← List.map_take, ← List.map_take, ← List.map_drop] at cT
  have hnl := hs.nam
  have hth : thereD d c names = d.nam.take (durN d.ks d.ss c) ++ (openD d c).take (pickF names ((openD d c).length + 1)) := rfl
  have hsz : ∀ a ∈ thereD d c names, a.from_.size ≤ maxLen ∧ a.to.size ≤ maxLen := fun a ha => by
    refine hO.nam a ?_
    rcases List.mem_append.1 ha with ha | ha
    · exact List.mem_of_mem_take ha
    · exact List.mem_of_mem_take (List.mem_of_mem_drop (List.mem_of_mem_take ha))
  have hlt : (thereD d c names).length ≤ 8000 := by
    have e1 := durN_le d.ks d.ss c hO.ss
    have e2 := tillN_le d.ks c
    have e3 := hO.len
    rw [hth, List.length_append, List.length_take, List.length_take]
    have : (openD d c).length ≤ d.nam.length - durN d.ks d.ss c := by unfold openD; rw [List.length_drop, List.length_take]; omega
    omega
  have hop : (d.nam.take (tillN d.ks c)).drop (durN d.ks d.ss c) = openD d c := rfl
  rw [hop] at cT
  have hol : (openD d c).length ≤ 8000 := by unfold openD; rw [List.length_drop, List.length_take]; omega
  obtain ⟨X, hX⟩ : ∃ X, thereD d c names = X := ⟨_, rfl⟩
  rw [hX] at hth hsz hlt ⊢
  obtain ⟨P1, hP1⟩ : ∃ P1, d.nam.take (durN d.ks d.ss c) = P1 := ⟨_, rfl⟩
  obtain ⟨P2, hP2⟩ : ∃ P2, openD d c = P2 := ⟨_, rfl⟩
  rw [hP1, hP2] at cT hth
  rw [hP2] at hol
  have hpk := pickF_lt names (show 0 < P2.length + 1 by omega)
  have cN := fun W => counted_any names P2.length W h1 h2 (by omega)
  obtain ⟨K, hK⟩ : ∃ K, pickF names (P2.length + 1) = K := ⟨_, rfl⟩
  rw [hK] at hpk cN hth
  have cT := Lib.hid cT
  have cN := Lib.hid cN
  replace hth := Lib.hid hth
  have hszH := Lib.hid hsz
  have hplt := h.plt
  have hmm := @run_makeMap Try.prog
  have hKl : (P2.take K).length = min K P2.length := List.length_take
  have cC : ∀ (q1 : Nat) (A1 : Option Addr) (c1 : Nat) (A3 : Option Addr) (c3 : Nat), RowsAt 3 (w.drewN q1) (.slice A1 P1.length c1) (P1.map namCells) → RowsAt 3 (w.drewN q1) (.slice A3 (min K P2.length) c3) ((P2.take K).map namCells) →
      Calls Try.prog 53 #[.slice (some ⟨w.heap.size + 1, 0, none⟩) 2 2] (((w.drewN q1).alloc (.map #[] 0)).alloc (.cells #[.slice A1 P1.length c1, .slice A3 (min K P2.length) c3] 59)) fun e w' =>
        ∃ v', e = .returned v' ∧ OwnRows w' (w.heap.size + 2) 83 3 v' (X.map namCells) ∧ NamesM w' (some w.heap.size) 0 (namesOf []) ∧ Below w.heap.size w w' := by
    intro q1 A1 c1 A3 c3 r1 r3
    have hb2 : Below (w.drewN q1).heap.size (w.drewN q1) (((w.drewN q1).alloc (.map #[] 0)).alloc (.cells #[.slice A1 P1.length c1, .slice A3 (min K P2.length) c3] 59)) := below_alloc2 _ _ _
    have hall : allRows [(Value.slice A1 P1.length c1, P1.map namCells), (.slice A3 (min K P2.length) c3, (P2.take K).map namCells)] = X.map namCells := by
      rw [hth.out]; simp [allRows]
    have := concatN_any (w := ((w.drewN q1).alloc (.map #[] 0)).alloc (.cells #[.slice A1 P1.length c1, .slice A3 (min K P2.length) c3] 59)) (l := [(Value.slice A1 P1.length c1, P1.map namCells), (.slice A3 (min K P2.length) c3, (P2.take K).map namCells)])
      (two_box_at ((w.drewN q1).alloc (.map #[] 0)) (w.heap.size + 1) (by simp [World.alloc, World.drewN]) _ _ _) (fun x hx => by
        simp only [List.mem_cons, List.not_mem_nil, or_false] at hx
        rcases hx with rfl | rfl
        · exact ⟨r1.below hb2, nams_one _⟩
        · exact ⟨r3.below hb2, nams_one _⟩) (by rw [hall, List.length_map]; omega)
    rw [hall] at this
    refine this.mono ?_
    rintro e w' ⟨v', rfl, ho, hb⟩
    have hsz2 : (((w.drewN q1).alloc (.map #[] 0)).alloc (.cells #[.slice A1 P1.length c1, .slice A3 (min K P2.length) c3] 59)).heap.size = w.heap.size + 2 := by simp [World.alloc, World.drewN]
    rw [hsz2] at ho hb
    have hm0 := NamesM.made (w.drewN q1)
    have hm1 : NamesM (((w.drewN q1).alloc (.map #[] 0)).alloc (.cells #[.slice A1 P1.length c1, .slice A3 (min K P2.length) c3] 59)) (some w.heap.size) 0 (.map []) := hm0.turns (Turns.of_below (F := []) (below_box1 _ _)) (by simp)
    refine ⟨v', rfl, ho, hm1.turns (F := []) ⟨hb.os, hb.tape, hb.output, hb.size, fun k hk _ => hb.block k (by rw [hsz2] at hk; exact hk)⟩ (by simp), ?_⟩
    exact ((below_drewN (Below.refl _ _) q1).trans (hb2.mono (show w.heap.size ≤ (w.drewN q1).heap.size from Nat.le_refl _))).trans (hb.mono (show w.heap.size ≤ w.heap.size + 2 by omega))
  have cC := Lib.hid cC
  clear h hO hs hX hop hP1 hP2 hK hsz hnl
  go_enter Try.func24, Try.ntmps24
  go_wp2_with (first
    | (go_at_call 52; refine cT.out.mono ?_; rintro e w1 ⟨v1, v2, rfl, r1, r2, q1, rfl⟩; have hl2 : ∀ W, (Builtin.len_ #[59] 3 #[v2]).run Try.prog W = .ok (.int .i64 (P2.length : Nat)) W := (fun W => by (have := r2.len elemNam.ht (ty := 3) W; rwa [List.length_map] at this)); obtain ⟨v3, hu, r3, _⟩ := r2.upto elemNam.ht elemNam.hs (m := K) (by rw [List.length_map]; omega); rw [← List.map_take] at r3; obtain ⟨A1, c1, rfl, _⟩ := id r1; obtain ⟨A3, c3, rfl, _⟩ := id r3; have r1 := Lib.hid r1; have r3 := Lib.hid r3)
    | (go_at_call 23; refine (cN.out _).mono ?_; rintro e w2 ⟨rfl, rfl⟩)
    | (go_at_call 53; refine (cC.out q1 A1 c1 A3 c3 (by simpa using r1.out) (by simpa using r3.out)).mono ?_; rintro e w4 ⟨v4, rfl, ho4, hm4, hb4⟩; have hl4 : ∀ W, (Builtin.len_ #[59] 3 #[v4]).run Try.prog W = .ok (.int .i64 (X.length : Nat)) W := (fun W => by (have := ho4.rows.len elemNam.ht (ty := 3) W; rwa [List.length_map] at this))))
  have ho4 := Lib.hid ho4
  have hb4 := Lib.hid hb4
  go_loopw [31] (fun t wr => ∃ (i : Nat), t = .int .i64 (i : Nat) ∧ i ≤ X.length ∧ Hid (NamesM wr (some w.heap.size) i (namesOf (X.take i)) ∧ Turns [w.heap.size] w4 wr)) (fun t _ => X.length - (intOf t).toNat)
  case atStart => exact ⟨0, rfl, by omega, Lib.hid ⟨hm4, Turns.refl _ _⟩⟩
  case round =>
    clear hm4
    obtain ⟨i, rfl, hi, hh⟩ := hrel
    rcases Nat.lt_or_ge i X.length with hil | hil
    · obtain ⟨a, ha⟩ : ∃ a, X[i]? = some a := ⟨_, List.getElem?_eq_getElem hil⟩
      obtain ⟨hm, ht⟩ := hh.out
      have hr := (ho4.out.turns ht (fun b hb => by have := (ho4.out.block b hb).1; simp; omega)).rows
      obtain ⟨b, off, hix, hc, hbk, _⟩ := hr.index elemNam.ht elemNam.hs (i := i) (x := namCells a) (by rw [List.getElem?_map, ha]; rfl)
      have k0 : wr.cell? ⟨b, off, none⟩ = some (.pointer (some ⟨a.q, 0, none⟩)) := hc 0 _ rfl
      have k1 : wr.cell? ⟨b, off + 1, none⟩ = some (.string a.from_) := hc 1 _ rfl
      have k2 : wr.cell? ⟨b, off + 2, none⟩ = some (.string a.to) := hc 2 _ rfl
      obtain ⟨z1, z2⟩ := hszH.out a (List.mem_of_getElem? ha)
      have htk : X.take (i + 1) = X.take i ++ [a] := take_snoc ha
      have hmH := Lib.hid hm
      have htH := Lib.hid ht
      have htk := Lib.hid htk
      have z1 := Lib.hid z1
      have z2 := Lib.hid z2
      have hwl : w.heap.size < wr.heap.size := by have := hm.block _ rfl; exact this
      have cD := Lib.hid (do_any (w := wr.alloc (.cells #[.pointer (some ⟨a.q, 0, none⟩), .string a.from_, .string a.to] 83)) (hm.turns (Turns.of_below (F := []) (below_box1 _ _)) (by simp)) (by omega) a z1.out z2.out)
      clear hc ha hr hm ht hh
      go_wp2_with (go_at_call 54; refine cD.out.mono ?_; rintro e w6 ⟨rfl, m1, m2⟩; have hn : Hid (NamesM w6 (some w.heap.size) (i + 1) (namesOf (X.take (i + 1))) ∧ Turns [w.heap.size] w4 w6) := Lib.hid ⟨by (rw [htk.out, namesOf_snoc]; exact m1), (htH.out.trans' ((Turns.of_below (F := []) (below_box1 _ _)).mono (by simp))).trans' m2⟩)
      go_roundw
      case rel => exact ⟨i + 1, by go_num, by omega, hn⟩
      case measure => simp [intOf]; omega
    · obtain ⟨hm, ht⟩ := hh.out
      have hd : X.take i = X := List.take_of_length_le hil
      rw [hd] at hm
      have hil' : ¬ ((i : Int) < (X.length : Int)) := by omega
      have hmf := Lib.hid (hm.mono hi)
      have hbf := Lib.hid (hb4.out.trans (ht.below hb4.out.size (by simp)))
      clear hm ht hh hd
      go_wp2
      go_ret
      exact ⟨_, rfl, hmf.out, Nat.le_refl _, hbf.out⟩
end Go.Proofs.Ytpkiapjcilapoaa
