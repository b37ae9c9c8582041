/-
  The code's own putNumber: four bytes over a part of a slice of the call's own.
-/
import Derived.Test.YtmeofjoamcghhaaFcNum
namespace Go.Proofs.Ytmeofjoamcghhaa
open Go.RowKit Go.Sort

theorem own_set {w : World} {base g N c : Nat} {L : List Nat} (h : Own w base (.slice (some ⟨g, 0, none⟩) N c) L) {k : Nat} (hk : k < L.length) :
    w.cell? ⟨g, k, none⟩ = some (.int .u8 (L.getD k 0 : Nat)) ∧ w.frozen? ⟨g, k, none⟩ = false ∧ base ≤ g ∧
      ∀ u : Nat, Own (w.setCell ⟨g, k, none⟩ (.int .u8 (u : Nat))) base (.slice (some ⟨g, 0, none⟩) N c) (L.set k u) ∧ Below base w (w.setCell ⟨g, k, none⟩ (.int .u8 (u : Nat))) := by
  rcases h.2 with ⟨h', _⟩ | ⟨g', cap, cur, he, hb, hg, hnc, hcm, hsz, htk⟩
  · cases h'
  · injection he with he1 he2 he3
    injection he1 with he1
    injection he1 with he1
    subst he1 he2 he3
    have hcell := World.ownsRow.cells h (g := g) rfl k (bval (L.getD k 0)) (by simp [bvals, List.getD, List.getElem?_eq_getElem hk])
    rw [add_at, Nat.zero_add] at hcell
    refine ⟨hcell, by simp [World.frozen?, hg], hb, fun u => ⟨?_, (Below.refl _ _).setCell (p := ⟨g, k, none⟩) hb _⟩⟩
    refine ⟨by simp [bvals], .inr ⟨g, c, cur.set! k (.int .u8 (u : Nat)), by rw [List.length_set], hb, heap_set_at hg k _, by rw [List.length_set]; exact hnc, hcm, by simpa using hsz, ?_⟩⟩
    rw [List.length_set, Array.set!_eq_setIfInBounds, Array.toList_setIfInBounds, List.take_set, htk]
    simp [bvals, List.map_set, bval]

/-- A number over four bytes. -/
def putL (L : List Nat) (off n : Nat) : List Nat := (((L.set off (n % 256)).set (off + 1) (n / 256 % 256)).set (off + 2) (n / 65536 % 256)).set (off + 3) (n / 16777216 % 256)
theorem putL_len (L : List Nat) (off n : Nat) : (putL L off n).length = L.length := by simp [putL]

set_option maxRecDepth 20000 in
set_option maxHeartbeats 1000000 in
theorem put_any (L : List Nat) (w : World) (base g N c c' off n : Nat) (hown : Own w base (.slice (some ⟨g, 0, none⟩) N c) L) (hoff : off + 4 ≤ L.length) (hn : n < 4294967296) :
    Calls Try.prog 19 #[.slice (some ⟨g, off, none⟩) 4 c', .int .u32 (n : Nat)] w fun e w' => e = .returned (.tuple #[]) ∧ Own w' base (.slice (some ⟨g, 0, none⟩) N c) (putL L off n) ∧ Below base w w' := by
  obtain ⟨c0, f0, hbg, s0⟩ := own_set hown (k := off) (by omega)
  obtain ⟨o1, b1⟩ := s0 (n % 256)
  obtain ⟨c1, f1, _, s1⟩ := own_set o1 (k := off + 1) (by simp; omega)
  obtain ⟨o2, b2⟩ := s1 (n / 256 % 256)
  obtain ⟨c2, f2, _, s2⟩ := own_set o2 (k := off + 2) (by simp; omega)
  obtain ⟨o3, b3⟩ := s2 (n / 65536 % 256)
  obtain ⟨c3, f3, _, s3⟩ := own_set o3 (k := off + 3) (by simp; omega)
  obtain ⟨o4, b4⟩ := s3 (n / 16777216 % 256)
  have hfin := Lib.hid (And.intro o4 (b1.trans (b2.trans (b3.trans b4))))
  have h4 : n / 16777216 % 256 = n / 16777216 := by omega
  rw [h4] at hfin
  clear o1 o2 o3 o4 b1 b2 b3 b4 s0 s1 s2 s3 hown
  have h4 := Lib.hid h4
  simp only [Int.natCast_emod, Int.natCast_ediv, Int.cast_ofNat_Int] at c1 f1 c2 f2 c3 f3
  go_enter Try.func19, Try.ntmps19
  go_wp2
  refine wp_loop_rounds 5 ?_
  rw [rounds_succ]
  go_wp2
  rw [rounds_succ]
  go_wp2
  rw [rounds_succ]
  go_wp2
  rw [rounds_succ]
  go_wp2
  rw [rounds_succ]
  go_wp2
  go_end0
  exact ⟨rfl, by unfold putL; rw [h4.out]; exact hfin.out.1, hfin.out.2⟩
end Go.Proofs.Ytmeofjoamcghhaa
