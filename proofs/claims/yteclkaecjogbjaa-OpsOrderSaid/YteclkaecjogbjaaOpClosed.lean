/-
  Closed sets: the program.
-/
import Derived.Test.YteclkaecjogbjaaOpRight
import Derived.Test.YteclkaecjogbjaaOpSet
import Derived.Test.YteclkaecjogbjaaOpRows
namespace Go.Proofs.Yteclkaecjogbjaa
open Go.RowKit Go.Sort Go.Maps

/-- The first so many are right, and no two have one stamp. -/
def GoodTo (l : List OpV) (k : Nat) : Prop := ∀ i o, i < k → l[i]? = some o → opB o = true ∧ hasId (l.take i) o.n o.r = false
noncomputable def closedB (l : List OpV) : Bool := @decide (GoodTo l l.length ∧ ∀ o ∈ l, amongB l o = true) (Classical.propDecidable _)

theorem closedB_iff (l : List OpV) : closedB l = true ↔ GoodTo l l.length ∧ ∀ o ∈ l, amongB l o = true := by
  unfold closedB
  exact @decide_eq_true_iff _ (Classical.propDecidable _)
theorem closedB_no {l : List OpV} (h : ¬ (GoodTo l l.length ∧ ∀ o ∈ l, amongB l o = true)) : closedB l = false := by rw [Bool.eq_false_iff]; exact fun h' => h ((closedB_iff l).1 h')
theorem take_snoc {α : Type} {l : List α} {i : Nat} {x : α} (h : l[i]? = some x) : l.take (i + 1) = l.take i ++ [x] := by
  rw [List.take_add_one, h]; rfl
theorem ids_snoc {l : List OpV} {i : Nat} {o : OpV} (h : l[i]? = some o) : setOf (.agg [] : DW) (ids (l.take (i + 1))) = (setOf (.agg []) (ids (l.take i))).put (idL o.n o.r) (.agg []) := by
  rw [take_snoc h]
  unfold ids
  rw [List.map_append, List.map_singleton, setOf_snoc]

set_option maxRecDepth 20000 in
set_option maxHeartbeats 6400000 in
theorem closed_any (l : List OpV) (hl : ∀ o ∈ l, o.Fits ∧ o.Wf) (v : Value) (w : World) (hv : OpsAt w v l) (hlen : l.length ≤ 100) : Calls Try.prog 11 #[v] w (Ret (.bool (closedB l)) w) := by
  have hmm := @run_makeMap Try.prog
  have hll := fun W => hv.len 3 W
  have hwf : ∀ k, ∀ o ∈ l.take k, o.Wf := fun k o ho => (hl o (List.mem_of_mem_take ho)).2
  go_enter Try.func11, Try.ntmps11
  go_wp2
  clear hmm
  have hv := Lib.hid hv
  have hlen := Lib.hid hlen
  go_loopw [13] (fun i wr => ∃ k : Nat, k ≤ l.length ∧ i = .int .i64 k ∧ SetAt wr w.heap.size k (l.take k) ∧ Below w.heap.size w wr ∧ Hid (GoodTo l k)) (fun i _ => l.length - (intOf i).toNat)
  case atStart => exact ⟨0, by omega, rfl, World.ownsMap_made w _ _ _, below_box1 _ _, Lib.hid (fun i o hi => absurd hi (by omega))⟩
  case round =>
    rename_i wr _
    obtain ⟨k, hk, rfl, hS, hb, hgood⟩ := hrel
    by_cases hlt : k < l.length
    · have hk4 : (k : Int) < (l.length : Int) := by omega
      obtain ⟨o, ho⟩ : ∃ o, l[k]? = some o := ⟨_, List.getElem?_eq_getElem hlt⟩
      have hom := List.mem_of_getElem? ho
      obtain ⟨bk, off, hix, hc, hbk⟩ := hv.out.index ho
      have hc := range_after hc hb hbk
      obtain ⟨p, W2, hp, h0, hW2, hb2, hX⟩ := new_op wr o
      have hS2 := hS.below hb2
      have hB2 := hb.trans (hb2.mono hb.size)
      have c0 := hX.c0
      have c1 := hX.c1
      have hkey := stampKey (hl o hom).2.n (hl o hom).2.r
      have hh := has_ids (hwf k) (hl o hom).2.n (hl o hom).2.r
      have hX2 := hX.alloc (.cells #[] 55)
      have hR := fun W => opRight_any o (hl o hom).1 W
      cases hz : hasId (l.take k) o.n o.r with
      | true =>
        rw [hz] at hh
        have H : Hid (closedB l = false) := Lib.hid (closedB_no (fun h => by have := (h.1 k o hlt ho).2; rw [hz] at this; cases this))
        clear hgood hz
        go_wp2_with (first
          | ((with_reducible refine load_mid hc ?_ ?_ ?_); rfl; rfl)
          | ((with_reducible refine store_op (x := o) h0 ?_ ?_ ?_); rfl; rfl; rw [hW2])
          | (at_lookup; refine wpList_lookup_own_unit _ rfl _ _ 54 rfl 23 55 stampLaw Try.underlying54 (zeroUnit _) w.heap.size k _ rfl hS2 _ _ rfl hkey ?_; rw [hh]))
        go_ret
        exact ⟨ret_bool H.out.symm, then_box hB2 _⟩
      | false =>
        rw [hz] at hh
        cases hop : opB o with
        | false =>
          have H : Hid (closedB l = false) := Lib.hid (closedB_no (fun h => by have := (h.1 k o hlt ho).1; rw [hop] at this; cases this))
          rw [hop] at hR
          have hR := Lib.hid hR
          clear hgood hz hop
          go_wp2_with (first
            | ((with_reducible refine load_mid hc ?_ ?_ ?_); rfl; rfl)
            | ((with_reducible refine store_op (x := o) h0 ?_ ?_ ?_); rfl; rfl; rw [hW2])
            | ((with_reducible refine load_op hX2 ?_ ?_ ?_); rfl; rfl)
            | (go_at_call 9; refine (hR.out _).mono ?_; rintro e w3 ⟨rfl, hb3⟩)
            | (at_lookup; refine wpList_lookup_own_unit _ rfl _ _ 54 rfl 23 55 stampLaw Try.underlying54 (zeroUnit _) w.heap.size k _ rfl hS2 _ _ rfl hkey ?_; rw [hh]))
          go_ret
          exact ⟨ret_bool H.out.symm, then_call (then_box hB2 _) hb3⟩
        | true =>
          rw [hop] at hR
          have hR := Lib.hid hR
          have hnext : Hid (GoodTo l (k + 1)) := Lib.hid (fun i o' hi ho' => by
            rcases Nat.lt_or_ge i k with h' | h'
            · exact hgood.out i o' h' ho'
            · obtain rfl : i = k := by omega
              rw [ho] at ho'
              injection ho' with ho'
              subst ho'
              exact ⟨hop, hz⟩)
          have hsn := Lib.hid (ids_snoc ho)
          have hmx : k < maxLen := by have := hlen.out; unfold maxLen; omega
          clear hgood hz hop
          go_wp2_with (first
            | ((with_reducible refine load_mid hc ?_ ?_ ?_); rfl; rfl)
            | ((with_reducible refine store_op (x := o) h0 ?_ ?_ ?_); rfl; rfl; rw [hW2])
            | ((with_reducible refine load_op hX2 ?_ ?_ ?_); rfl; rfl)
            | (go_at_call 9; refine (hR.out _).mono ?_; rintro e w3 ⟨rfl, hb3⟩; have hS3 := (hS2.alloc (.cells #[] 55)).below hb3; have d0 := (hX2.after hb3).c0; have d1 := (hX2.after hb3).c1; have hB3 := then_call (then_box hB2 (.cells #[] 55)) hb3)
            | (at_lookup; refine wpList_lookup_own_unit _ rfl _ _ 54 rfl 23 55 stampLaw Try.underlying54 (zeroUnit _) w.heap.size k _ rfl hS2 _ _ rfl hkey ?_; rw [hh])
            | (at_mapUpdate; refine wpList_mapUpdate_in _ rfl _ _ _ 54 rfl 23 55 stampLaw Try.underlying54 unitElem w.heap.size k _ rfl hS3 hmx _ _ _ rfl rfl hkey (.agg []) [] unitElem_mk ?_; intro w4 hown4 hturn4; have hB4 := hB3.grown hturn4.grown hB3.size (fun j hj => by cases hj; exact Nat.le_refl _)))
          exact ⟨⟨k + 1, by omega, by go_num, by unfold SetAt; rw [hsn.out]; exact hown4, hB4, hnext⟩, by simp [intOf]; omega⟩
    · obtain rfl : k = l.length := by omega
      rw [List.take_length] at hS
      have hS := Lib.hid hS
      have hb := Lib.hid hb
      go_wp2
      go_loopw [37] (fun i wr' => ∃ k : Nat, k ≤ l.length ∧ i = .int .i64 k ∧ SetAt wr' w.heap.size l.length l ∧ Below w.heap.size w wr' ∧ Hid (∀ i o, i < k → l[i]? = some o → amongB l o = true)) (fun i _ => l.length - (intOf i).toNat)
      case atStart => exact ⟨0, by omega, rfl, hS.out, hb.out, Lib.hid (fun i o hi => absurd hi (by omega))⟩
      case round =>
        clear hS hb
        obtain ⟨k, hk, rfl, hS, hb, hall⟩ := hrel
        by_cases hlt' : k < l.length
        · have hk4 : (k : Int) < (l.length : Int) := by omega
          obtain ⟨o, ho⟩ : ∃ o, l[k]? = some o := ⟨_, List.getElem?_eq_getElem hlt'⟩
          have hom := List.mem_of_getElem? ho
          obtain ⟨bk, off, hix, hc, hbk⟩ := hv.out.index ho
          have hc := range_after hc hb hbk
          obtain ⟨p, W2, hp, h0, hW2, hb2, hX⟩ := new_op_of hb o
          have hS2 := hS.below hb2
          have hB2 := hb.trans (hb2.mono hb.size)
          have hR := fun W h => depsAmong_any l (fun o h => (hl o h).2) o (hl o hom).2 w.heap.size l.length W h
          cases hop : amongB l o with
          | false =>
            have H : Hid (closedB l = false) := Lib.hid (closedB_no (fun h => by have := h.2 o hom; rw [hop] at this; cases this))
            rw [hop] at hR
            have hR := Lib.hid hR
            clear hgood hall hop
            go_wp2_with (first
              | ((with_reducible refine load_mid hc ?_ ?_ ?_); rfl; rfl)
              | ((with_reducible refine store_op (x := o) h0 ?_ ?_ ?_); rfl; rfl; rw [hW2])
              | ((with_reducible refine load_op hX ?_ ?_ ?_); rfl; rfl)
              | (go_at_call 33; refine (hR.out _ hS2).mono ?_; rintro e w3 ⟨rfl, hb3⟩))
            go_ret
            exact ⟨ret_bool H.out.symm, then_call hB2 hb3⟩
          | true =>
            rw [hop] at hR
            have hR := Lib.hid hR
            have hnext : Hid (∀ i o, i < k + 1 → l[i]? = some o → amongB l o = true) := Lib.hid (fun i o' hi ho' => by
              rcases Nat.lt_or_ge i k with h' | h'
              · exact hall.out i o' h' ho'
              · obtain rfl : i = k := by omega
                rw [ho] at ho'
                injection ho' with ho'
                subst ho'
                exact hop)
            clear hall hop
            go_wp2_with (first
              | ((with_reducible refine load_mid hc ?_ ?_ ?_); rfl; rfl)
              | ((with_reducible refine store_op (x := o) h0 ?_ ?_ ?_); rfl; rfl; rw [hW2])
              | ((with_reducible refine load_op hX ?_ ?_ ?_); rfl; rfl)
              | (go_at_call 33; refine (hR.out _ hS2).mono ?_; rintro e w3 ⟨rfl, hb3⟩))
            exact ⟨⟨k + 1, by omega, by go_num, hS2.below hb3, then_call hB2 hb3, hnext⟩, by simp [intOf]; omega⟩
        · obtain rfl : k = l.length := by omega
          have H : Hid (closedB l = true) := Lib.hid ((closedB_iff l).2 ⟨hgood.out, fun o ho => by
            obtain ⟨i, hi, rfl⟩ := List.mem_iff_getElem.1 ho
            exact hall.out i _ hi (List.getElem?_eq_getElem hi)⟩)
          clear hgood hall
          go_wp2
          go_ret
          exact ⟨ret_bool H.out.symm, hb⟩
end Go.Proofs.Yteclkaecjogbjaa
