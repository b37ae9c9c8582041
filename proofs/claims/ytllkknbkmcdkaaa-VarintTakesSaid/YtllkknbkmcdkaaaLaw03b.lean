/-
  Stage 3's statements, walked: VarintTakes.
-/
import Derived.Test.YtllkknbkmcdkaaaVaRefTake
import Derived.Test.YtllkknbkmcdkaaaVaApp
import Derived.Test.YtllkknbkmcdkaaaLaw03
namespace Go.Proofs.Ytllkknbkmcdkaaa
open Go.RowKit Go.Sort

/-- A row that ends with a byte of the call's own, behind l. -/
theorem row_77 {w : World} {base g c : Nat} {l : List Nat} (hl : ∀ x ∈ l, x < 256) (h : Own w base (.slice (some ⟨g, 0, none⟩) (l.length + 1) c) (l ++ [77])) :
    BytesAt w (.slice (some ⟨g, 0, none⟩) l.length c) l ∧ w.cell? ⟨g, l.length, none⟩ = some (.int .u8 77) ∧ g < w.heap.size := by
  have hb := h.bytes (by
    intro x hx
    rcases List.mem_append.1 hx with hx | hx
    · exact hl x hx
    · simp at hx; omega)
  have h2 := hb.upto l.length (by simp)
  rw [List.take_left' rfl] at h2
  obtain ⟨A, c', he, _, _, _, h5, _⟩ := hb
  obtain ⟨b, off, h6, h7, h8⟩ := h5 (by simp)
  injection he with he
  rw [h6] at he
  injection he with he
  injection he with h9 h10
  subst h9 h10
  refine ⟨h2, ?_, h7⟩
  rw [show l.length = 0 + l.length by omega, h8 l.length (by simp)]
  simp [List.getD]

set_option maxRecDepth 20000 in
set_option maxHeartbeats 2000000 in
theorem varintTakes_walk' (A : Option Addr) (c : Nat) (l : List Nat) (w : World) (hv : BytesAt w (.slice A l.length c) l) (hl : ∀ x ∈ l, x < 256) (hreach : l.length ≤ 140737488351232) :
    Calls Try.prog 4 #[.slice A l.length c] w (Ret (.bool true) w) := by
  obtain ⟨n, k, e, ht⟩ := taken_any l
  have hv' := hide hv
  have ht' := hide ht
  have hl' := hide hl
  clear hv ht hl
  go_enter Try.func4, Try.ntmps4
  go_wp2_with (first
    | (at_builtin; refine append_bytes rfl (.tmp 11) (.tmp 12) rfl w.heap.size rfl (own_made w _ rfl) rfl (hv'.out.below (below_box1 _ _)) (by simp; omega) (by simp) ?_; intro v1 w1 ho1 hb1)
    | (at_builtin; refine append_bytes_at rfl (.tmp 13) (.tmp 14) rfl w.heap.size rfl (ho1.alloc _) rfl (bytes_box w1 77 (by omega)) (by simp; omega) ?_ (l ++ [77]) (l.length + 1) rfl (by simp) (by omega) ?_))
  · have := hb1.size; simp at this ⊢; omega
  · intro g cp w2 ho2 hcp hcm hg hb2
    have hw2 : Below w.heap.size w w2 := (((below_box1 w _).trans hb1).alloc (by have := hb1.size; simp at this; omega) _).trans hb2
    obtain ⟨hown, hlast, hlt⟩ := row_77 hl'.out ho2
    have hv2 := hide (hv'.out.below hw2)
    have hown := hide hown
    clear hb1 hb2 ho1 ho2
    go_wp2_with (first
      | (go_at_call 14; refine (take_at hown.out ht'.out).mono ?_; rintro e' w3 ⟨rfl, rfl⟩)
      | (go_at_call 15; refine (refTake_at hv2.out ht'.out).mono ?_; rintro e' w3 ⟨rfl, hb3⟩)
      | (go_at_call 10; refine (same_true (hown.out.below hb3) (hv2.out.below hb3)).mono ?_; rintro e' w4 ⟨rfl, rfl⟩)
      | (go_at_call 13; refine (alive_any _).mono ?_; rintro e' w4 ⟨rfl, hb4⟩; have hc4 : w4.cell? ⟨g, l.length, none⟩ = some (.int .u8 77) := (hb4.cell (p := ⟨g, l.length, none⟩) (Nat.lt_of_lt_of_le hlt hb3.size)).trans ((hb3.cell (p := ⟨g, l.length, none⟩) hlt).trans hlast)))
    go_ret
    exact ⟨rfl, then_call (then_call hw2 hb3) hb4⟩

theorem varintTakes_walk (w : World) (A : Option Addr) (c : Nat) (l : List Nat) (hv : BytesAt w (.slice A l.length c) l) (hl : ∀ x ∈ l, x < 256) (hreach : l.length ≤ 140737488351232) :
    Calls Try.prog 4 #[.slice A l.length c] w (Ret (.bool true) w) := varintTakes_walk' A c l w hv hl hreach
end Go.Proofs.Ytllkknbkmcdkaaa
