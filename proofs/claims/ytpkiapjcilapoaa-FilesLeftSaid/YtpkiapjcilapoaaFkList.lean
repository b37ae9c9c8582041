/-
  The names of the program's own disk, rising.
-/
import Derived.Test.YtpkiapjcilapoaaFkRead
import Derived.Test.YtpkiapjcilapoaaShelf
namespace Go.Proofs.Ytpkiapjcilapoaa
open Go.RowKit Go.Sort Go.Maps Go.Shelf

/-- slices.Sort's two contracts at this program, at the fence that asks nothing. -/
theorem sortsA (m : Nat) : AnyZ.SortsIn Try.prog Try.sortedA_ren Fence.wide m :=
  ⟨fun blk off cap ss W hH hblk hsz => callsIn_wide.2 (AnyM.slices_Sort_string Try.laysSlM6_f56 blk off cap ss W hH hblk hsz),
   fun p cap W => callsIn_wide.2 (AnyM.slices_Sort_string_none Try.laysSlM6_f56 p cap W)⟩

/-- The names, rising. -/
def namesL (D : DW) : List (List UInt8) := (strKeys D).mergeSort leB
/-- The row of names that is handed back. -/
def NamesRow (w' : World) (n : Nat) (v : Value) (D : DW) : Prop := OwnRow w' n 9 v ((namesL D).map encStr)

set_option maxHeartbeats 4000000 in
theorem names_some {n p : Nat} {w : World} {d : CDisk} {b : Nat} (h : DiskK n w p d) (hb : d.mb = some b) (hs : d.nam.length ≤ 8000) :
    Calls Try.prog 14 #[.pointer (some ⟨p, 0, none⟩)] w fun e w' => ∃ v, e = .returned v ∧ NamesRow w' w.heap.size v (namesOf d.nam) ∧ Below w.heap.size w w' := by
  have c0 := h.c0
  have hmp := h.map
  rw [hb] at hmp c0
  have hown : w.ownsMap Try.prog 9 fileR b d.nam.length (namesOf d.nam) := hmp
  have hsz := hown.size_le
  have hmax : Maps.size (namesOf d.nam) ≤ maxLen := by unfold maxLen; omega
  have hbytes : Maps.size (namesOf d.nam) * 16 ≤ 140737488355328 := by omega
  have hbl := hown.lt
  refine (callsIn_wide (n := 6)).1 ?_
  have hseq : SeqGives Fence.wide 2 Try.prog 57 #[.pointer (some ⟨w.heap.size, 0, none⟩)] encStr (fun ss => ss.Perm (strKeys (namesOf d.nam))) (Maps.size (namesOf d.nam)) (w.alloc (.cells #[.map (some b)] 58)) :=
    AnyZ.keys_gives (ρ := Try.keysA_ren) { Try.keysA with } Fence.wide _ trivial rfl (by omega) w.heap.size b d.nam.length (namesOf d.nam) _ (by simp) (by simp) (by
      obtain ⟨es, clock, hb, Ft, hs, hD⟩ := hown
      exact ⟨es, clock, (Below.heap_alloc _ _ b hbl).trans hb, Ft, hs, hD⟩)
  have cK : ∀ mb W, CallsIn Fence.wide 5 Try.prog 26 #[.map mb] W fun e w' => e = .returned (.func (.func 57) #[] #[.pointer (some ⟨W.heap.size, 0, none⟩)]) ∧ w' = W.alloc (.cells #[.map mb] 58) := fun mb W => AnyZ.keys_in Try.keysA Fence.wide 5 trivial rfl mb W
  have cS := AnyZ.sorted_in Try.sortedA Fence.wide 5 trivial trivial trivial trivial rfl (by omega) (sortsA _) (enters_of Try.func56 (by kernel_rfl) rfl) 57 #[.pointer (some ⟨w.heap.size, 0, none⟩)] trivial (enters_of Try.func57 (by kernel_rfl) rfl) _ _ hmax hbytes _ hseq
  change CallsIn _ _ Try.prog 25 _ _ _ at cS
  have hfK : Fence.wide.fn 26 := trivial
  have hfS : Fence.wide.fn 25 := trivial
  clear hseq hown hmp h
  refine callsIn_of_wp Try.func14 rfl trivial ?_ rfl
  simp only [Try.ntmps14, List.size_toArray, List.length_cons, List.length_nil, Nat.reduceAdd, Nat.reduceSub, Array.replicate_succ, Array.replicate_zero, List.push_toArray, List.append_toArray, List.nil_append, List.cons_append]
  gi_wp2_with (first
    | (gi_at_call 26; refine (cK _ _).mono ?_; rintro e w' ⟨rfl, rfl⟩)
    | (gi_at_call 25; refine cS.mono ?_; rintro e w' ⟨v, ss, rfl, hS, hrow, hnil, hb⟩))
  go_ret
  refine ⟨v, rfl, ?_, ((Below.refl _ w).alloc (Nat.le_refl _) _).trans (hb.mono (by simp))⟩
  have hrow' := ownsRow_base_a hrow (base' := w.heap.size) (by simp)
  unfold NamesRow OwnRow namesL
  rw [← mergeSort_of_perm hS, List.length_map, List.length_mergeSort]
  exact hrow'

set_option maxHeartbeats 4000000 in
theorem names_none {n p : Nat} {w : World} {d : CDisk} (h : DiskK n w p d) (hb : d.mb = none) :
    Calls Try.prog 14 #[.pointer (some ⟨p, 0, none⟩)] w fun e w' => ∃ v, e = .returned v ∧ NamesRow w' w.heap.size v (namesOf d.nam) ∧ Below w.heap.size w w' := by
  have c0 := h.c0
  have hmp := h.map
  rw [hb] at hmp c0
  have hD : namesOf d.nam = .map [] := hmp
  have hN : namesL (namesOf d.nam) = [] := by rw [hD]; simp [namesL, strKeys]
  refine (callsIn_wide (n := 6)).1 ?_
  have hseq : SeqGives Fence.wide 2 Try.prog 57 #[.pointer (some ⟨w.heap.size, 0, none⟩)] encStr (fun ss : List (List UInt8) => ss = []) 0 (w.alloc (.cells #[.map none] 58)) :=
    AnyZ.keys_gives_nil (ρ := Try.keysA_ren) { Try.keysA with } Fence.wide _ trivial rfl w.heap.size _ (by simp) (by simp)
  have cK : ∀ mb W, CallsIn Fence.wide 5 Try.prog 26 #[.map mb] W fun e w' => e = .returned (.func (.func 57) #[] #[.pointer (some ⟨W.heap.size, 0, none⟩)]) ∧ w' = W.alloc (.cells #[.map mb] 58) := fun mb W => AnyZ.keys_in Try.keysA Fence.wide 5 trivial rfl mb W
  have cS := AnyZ.sorted_in Try.sortedA Fence.wide 5 trivial trivial trivial trivial rfl (by omega) (sortsA _) (enters_of Try.func56 (by kernel_rfl) rfl) 57 #[.pointer (some ⟨w.heap.size, 0, none⟩)] trivial (enters_of Try.func57 (by kernel_rfl) rfl) _ 0 (Nat.zero_le _) (by omega) _ hseq
  change CallsIn _ _ Try.prog 25 _ _ _ at cS
  have hfK : Fence.wide.fn 26 := trivial
  have hfS : Fence.wide.fn 25 := trivial
  clear hseq hmp h hD
  refine callsIn_of_wp Try.func14 rfl trivial ?_ rfl
  simp only [Try.ntmps14, List.size_toArray, List.length_cons, List.length_nil, Nat.reduceAdd, Nat.reduceSub, Array.replicate_succ, Array.replicate_zero, List.push_toArray, List.append_toArray, List.nil_append, List.cons_append]
  gi_wp2_with (first
    | (gi_at_call 26; refine (cK _ _).mono ?_; rintro e w' ⟨rfl, rfl⟩)
    | (gi_at_call 25; refine cS.mono ?_; rintro e w' ⟨v, ss, rfl, rfl, hrow, hnil, hb⟩; obtain rfl : v = .slice none 0 0 := hnil.2 rfl))
  go_ret
  refine ⟨_, rfl, ?_, ((Below.refl _ w).alloc (Nat.le_refl _) _).trans (hb.mono (by simp))⟩
  unfold NamesRow
  rw [hN]
  exact OwnRow.none_ _ _ _

theorem names_any {n p : Nat} {w : World} {d : CDisk} (h : DiskK n w p d) (hs : d.nam.length ≤ 8000) :
    Calls Try.prog 14 #[.pointer (some ⟨p, 0, none⟩)] w fun e w' => ∃ v, e = .returned v ∧ NamesRow w' w.heap.size v (namesOf d.nam) ∧ Below w.heap.size w w' := by
  cases hb : d.mb with
  | none => exact names_none h hb
  | some b => exact names_some h hb hs

theorem has_doN {D : DW} (h : IsMap D) (a : Nam) (nm : ByteArray) :
    has (doN D a) (keyL nm) = if nm = a.to ∧ a.to ≠ ByteArray.empty then true else if nm = a.from_ then false else has D (keyL nm) := by
  have hd : ∀ x, has (D.del (keyL a.from_)) (keyL x) = if x = a.from_ then false else has D (keyL x) := by
    intro x
    by_cases hx : x = a.from_
    · rw [if_pos hx, hx, has_del_same]
    · rw [if_neg hx, has_del_other (fun e => hx (keyL_inj e))]
  unfold doN
  by_cases ht : a.to = ByteArray.empty
  · rw [if_pos ht, if_neg (fun hh => hh.2 ht), hd]
  · rw [if_neg ht]
    by_cases hn : nm = a.to
    · rw [if_pos ⟨hn, ht⟩, hn, has_put_same (h.del _) (keyL_key _)]
    · rw [if_neg (fun hh => hn hh.1), ← hd, has_put_other (fun e => hn (keyL_inj e))]

theorem has_names (nm : ByteArray) : ∀ (l : List Nam), has (namesOf l) (keyL nm) = (fileAt (namesOf l) nm).isSome := by
  suffices hh : ∀ (l : List Nam) (D : DW), IsMap D → has D (keyL nm) = (fileAt D nm).isSome → has (l.foldl doN D) (keyL nm) = (fileAt (l.foldl doN D) nm).isSome from fun l => hh l _ isMap_empty (by rw [fileAt_nil]; rfl)
  intro l
  induction l with
  | nil => exact fun D _ h => h
  | cons a t ih =>
    intro D hD h
    refine ih _ (isMap_doN hD a) ?_
    rw [has_doN hD, fileAt_doN hD]
    split
    · rfl
    · split
      · rfl
      · exact h

theorem DiskK.strs {n p : Nat} {w : World} {d : CDisk} (h : DiskK n w p d) : ∃ es, namesOf d.nam = .map es ∧ ∀ q ∈ es, ∃ x, q.1 = .string x := by
  have hmp := h.map
  cases hb : d.mb with
  | none => rw [hb] at hmp; exact ⟨[], hmp, by simp⟩
  | some b =>
    rw [hb] at hmp
    have hown : w.ownsMap Try.prog 9 fileR b d.nam.length (namesOf d.nam) := hmp
    obtain ⟨es, he, hk⟩ := hown.keysOf
    refine ⟨es, he, fun q hq => ?_⟩
    obtain ⟨v, hv⟩ := hk q hq
    obtain ⟨x, _, hx, _⟩ := Maps.keyOf_str Try.underlying9 hv
    exact ⟨x, hx⟩

/-- Which names stand there; how many. -/
theorem names_mem {n p : Nat} {w : World} {d : CDisk} (h : DiskK n w p d) (x : List UInt8) : x ∈ namesL (namesOf d.nam) ↔ ∃ q, findK d ⟨x.toArray⟩ = some q := by
  have hh := has_names ⟨x.toArray⟩ d.nam
  obtain ⟨es, he, hs⟩ := h.strs
  unfold namesL findK
  rw [(List.mergeSort_perm _ _).mem_iff]
  rw [← Option.isSome_iff_exists, ← hh, he]
  simp only [keyL, has_eq, strKeys, List.mem_map, List.any_eq_true]
  refine exists_congr fun q => and_congr_right fun hq => ?_
  obtain ⟨y, hy⟩ := hs q hq
  rw [hy]
  simp [strOf, Lit.sameKey]
theorem names_len {n p : Nat} {w : World} {d : CDisk} (h : DiskK n w p d) : (namesL (namesOf d.nam)).length = Maps.size (namesOf d.nam) := by
  obtain ⟨es, he, hs⟩ := h.strs
  rw [he]
  simp [namesL, strKeys, size_eq]
end Go.Proofs.Ytpkiapjcilapoaa
