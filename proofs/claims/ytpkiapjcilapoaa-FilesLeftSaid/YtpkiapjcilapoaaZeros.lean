/-
  append(v, make([]byte, k)...), v the call's own: k noughts more.
-/
import Derived.Test.YtpkiapjcilapoaaBy
import Derived.Lib.AppendZerosOnto
namespace Go.Proofs.Ytpkiapjcilapoaa
open Go.RowKit Go.Sort

theorem zero_cells (k : Nat) : (Builtin.zeroCells (Value.int .u8 0).cells k).toList = bvals (List.replicate k 0) := by
  simp only [Builtin.zeroCells, bvals, Value.cells]
  apply List.ext_getElem
  · simp
  · intro i h1 h2
    simp [Nat.mod_one, bval]

theorem own_new (w : World) (base : Nat) (l : List Nat) (cap : Nat) (hb : base ≤ w.heap.size) (hl : l.length ≤ cap) (hm : cap ≤ maxLen) (cs : Array Value) (hcs : cs.toList = bvals l ++ (Builtin.zeroCells (Value.int .u8 0).cells (cap - l.length)).toList) :
    Own (w.drew.alloc (.cells cs 5)) base (.slice (some ⟨w.heap.size, 0, none⟩) l.length cap) l := by
  refine ⟨by simp [bvals], .inr ⟨w.heap.size, cap, cs, rfl, hb, heap_alloc_new w.drew _, hl, hm, ?_, ?_⟩⟩
  · have := congrArg List.length hcs
    rw [List.length_append, zero_cells, bvals_length, bvals_length, List.length_replicate, Array.length_toList] at this
    omega
  · rw [hcs, Nat.mul_one]
    have : (bvals l).length = l.length := bvals_length l
    rw [← this, List.take_left]

theorem run_append_zeros {w : World} {base : Nat} {v : Value} {L : List Nat} (hown : Own w base v L) (k : Nat) (hle : (L.length + k) * 8 ≤ 140737488355328) (hbase : base ≤ w.heap.size) (ty : TypeId) :
    ∃ A m c w', (Builtin.append_ #[30, 3] ty #[v, .int .i64 (k : Nat)]).run Try.prog w = .ok (.slice A m c) w' ∧ Own w' base (.slice A m c) (L ++ List.replicate k 0) ∧ Below base w w' := by
  obtain ⟨i0, hi0, hz0, hz1, hz2⟩ := info_parts info_u8
  have ht := Try.underlying30
  have htn := Try.underlying3
  have hw : IntKind.i64.wrap (k : Int) = k := by rw [IntKind.wrap_i64]; omega
  have hneg : ¬ ((k : Int) < 0) := by omega
  have h48i : ¬ (281474976710656 < (k : Int) * (i0.bytes : Int)) := by rw [hz2]; omega
  have hflat : ((L ++ List.replicate k 0).length) = L.length + k := by simp
  have hmax : L.length + k ≤ maxLen := by unfold maxLen; omega
  rcases hown.2 with ⟨rfl, h0⟩ | ⟨g, cap, cur, rfl, hbg, hg, hnc, hcm, hcs, htake⟩
  · have hL : L = [] := List.eq_nil_of_length_eq_zero h0
    subst hL
    rcases Nat.eq_zero_or_pos k with rfl | hk
    · refine ⟨none, 0, 0, w, ?_, by simpa using hown, Below.refl _ _⟩
      simp [Builtin.append_, run_underlying ht, run_underlying htn, sizeOf, typeInfo, zeroValue, hi0, hz0, asInt, asIntOf, IntKind.wrap_i64]
    · have hr := Lib.run_append_nil_zeros (P := Try.prog) w 30 3 ty 5 i0 (.int .u8 0) .i64 .i64 ht htn hi0 hz0 k hk (by rw [hz1]; omega) (by omega) (by rw [hz2]; omega)
      refine ⟨_, _, _, _, hr, ?_, ?_⟩
      · have hl : (List.replicate k 0 : List Nat).length = k := by simp
        have := own_new w base (List.replicate k 0) (grownCap w k 0 5) hbase (by rw [hl]; exact grownCap_ge w k 0 5) (grownCap_le_maxLen w k 0 5 (by simpa using hmax)) (Builtin.zeroCells (Value.int .u8 0).cells k ++ Builtin.zeroCells (Value.int .u8 0).cells (grownCap w k 0 5 - k)) (by rw [Array.toList_append, zero_cells k, hl])
        rw [hl] at this
        simpa using this
      · exact ((Below.refl _ w).drew).alloc hbase _
  · have hcs1 : cur.size = cap := by omega
    by_cases hroom : L.length + k ≤ cap
    · have hst := run_storeCells_at Try.prog g L.length 5 (bvals (List.replicate k 0)) 0 cur w hg (by rw [bvals_length, List.length_replicate]; omega) (bvals_one _)
      simp only [Nat.add_zero] at hst
      have happ : (if k = 0 then (#[] : Array Value) else Builtin.zeroCells (Value.int .u8 0).cells k).toList = bvals (List.replicate k 0) := by
        split
        · subst k; rfl
        · exact zero_cells k
      refine ⟨some ⟨g, 0, none⟩, L.length + k, cap, w.setRow g (cur.toList.take L.length ++ bvals (List.replicate k 0) ++ cur.toList.drop (L.length + (bvals (List.replicate k 0)).length)).toArray, ?_, ?_, ?_⟩
      · by_cases hk0 : k = 0
        · subst hk0
          have hst0 : (storeCells ⟨g, L.length, none⟩ []).run Try.prog w = .ok () (w.setRow g (cur.toList.take L.length ++ cur.toList.drop L.length).toArray) := by simpa [bvals] using hst
          simp only [List.take_append_drop] at hst0
          simp [Builtin.append_, run_underlying ht, run_underlying htn, sizeOf, typeInfo, hi0, hz1, asInt, asIntOf, IntKind.wrap_i64, hnc, Addr.add_lit, hst0, bvals]
        · rw [if_neg hk0] at happ
          simp [Builtin.append_, run_underlying ht, run_underlying htn, sizeOf, typeInfo, zeroValue, hi0, hz0, hz1, asInt, asIntOf, hw, hneg, h48i, hk0, hroom, Addr.add_lit, happ, hst]
      · refine ⟨by simp [bvals], .inr ⟨g, cap, _, by rw [hflat], hbg, setRow_heap w g cur _ 5 _ hg, by rw [hflat]; exact hroom, hcm, ?_, ?_⟩⟩
        · simp [bvals]
          omega
        · rw [hflat, Nat.mul_one, bvals_append]
          rw [Nat.mul_one] at htake
          rw [htake]
          have : L.length + k = (bvals L ++ bvals (List.replicate k 0)).length := by simp [bvals]
          rw [this, List.take_left]
      · exact (Below.refl _ _).grown ⟨rfl, rfl, rfl, by simp, fun q _ hq => setRow_other w g q _ (fun e => hq (by rw [e]))⟩ hbase (fun q hq => by injection hq with hq; omega)
    · have hcap := grownCap_ge w (L.length + k) cap 5
      have hcm2 := grownCap_le_maxLen w (L.length + k) cap 5 hmax
      have hcells : ∀ j u, (bvals L)[j]? = some u → w.cell? ((⟨g, 0, none⟩ : Addr).add j) = some u := World.ownsRow.cells hown (g := g) rfl
      have hold := run_firstCells_some (P := Try.prog) w.drew i0.size L.length ⟨g, 0, none⟩ L.length cap (bvals L) (by rw [bvals_length, hz1]; omega) (by simpa using hcells)
      have hr := Lib.run_append_grow_zeros (P := Try.prog) w 30 3 ty 5 i0 (.int .u8 0) .i64 .i64 ht htn hi0 hz0 (some ⟨g, 0, none⟩) L.length cap (bvals L) hold k (by omega) (by rw [hz1]; omega) (by omega) (by omega) (by rw [hz2]; omega)
        (growslice_fits (by omega) (by rw [hz2]; omega))
      refine ⟨_, _, _, _, hr, ?_, ?_⟩
      · have := own_new w base (L ++ List.replicate k 0) (grownCap w (L.length + k) cap 5) hbase (by rw [hflat]; exact hcap) hcm2 ((bvals L).toArray ++ Builtin.zeroCells (Value.int .u8 0).cells k ++ Builtin.zeroCells (Value.int .u8 0).cells (grownCap w (L.length + k) cap 5 - (L.length + k))) (by rw [Array.toList_append, Array.toList_append, zero_cells k, hflat, bvals_append])
        rw [hflat] at this
        exact this
      · exact ((Below.refl _ w).drew).alloc hbase _
end Go.Proofs.Ytpkiapjcilapoaa
