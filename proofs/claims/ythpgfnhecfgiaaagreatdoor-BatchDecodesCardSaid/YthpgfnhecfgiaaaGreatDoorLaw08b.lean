/-
  BatchDecodes, walked.
-/
import Derived.Test.YthpgfnhecfgiaaaGreatDoorBaRDec
import Derived.Test.YthpgfnhecfgiaaaGreatDoorBaSame
import Derived.Test.YthpgfnhecfgiaaaGreatDoorMBase
namespace Go.Proofs.YthpgfnhecfgiaaaGreatDoor
open Go.RowKit Go.Sort
set_option maxRecDepth 20000

/-- A row that ends with a byte of the call's own, behind l. -/
theorem row_77b {w : World} {base g c : Nat} {l : List Nat} (hl : ∀ x ∈ l, x < 256) (h : Own w base (.slice (some ⟨g, 0, none⟩) (l.length + 1) c) (l ++ [77])) :
    BytesAt w (.slice (some ⟨g, 0, none⟩) l.length c) l ∧ w.cell? ⟨g, l.length, none⟩ = some (.int .u8 77) ∧ g < w.heap.size := by
  have hb := h.bytes (by
    intro x hx
    rcases List.mem_append.1 hx with hx | hx
    · exact hl x hx
    · simp at hx; omega)
  have h2 := hb.upto l.length (by simp)
  rw [List.take_left' rfl] at h2
  obtain ⟨A, c', he, _, _, _, h5, _⟩ := hb
  obtain ⟨b, off, h6, h7, h8⟩ := h5 (by simp)
  injection he with he
  rw [h6] at he
  injection he with he
  injection he with h9 h10
  subst h9 h10
  refine ⟨h2, ?_, h7⟩
  rw [show l.length = 0 + l.length by omega, h8 l.length (by simp)]
  simp [List.getD]
theorem ops_none (w : World) : OpsAt w (.slice none 0 0) [] := ⟨none, 0, rfl, Nat.le_refl _, Nat.zero_le _, by simp, fun h => absurd h (by simp), fun _ => rfl⟩

set_option maxHeartbeats 4000000 in
theorem batchDecodes_any (w : World) (hE : ErrT w) (v : Value) (l : List Nat) (hv : BytesAt w v l) :
    Calls Tryz.prog 3 #[v] w (Ret (.bool true) w) := by
  have hll := fun W => hv.len (ty := 3) W
  have hbl : (l.length : Int) ≤ 9223372036854775807 := by have := hv.row.le; rwa [bvals_length] at this
  have hl := Lib.hid hv.byte
  have hv := Lib.hid hv
  have hE := Lib.hid hE
  rcases Nat.lt_or_ge 20000 l.length with hbig | hsm
  · have hg1 : decide ((20000 : Int) < (l.length : Int)) = true := decide_eq_true (by omega)
    go_enter Tryz.func3, Tryz.ntmps3
    go_wp2_with (go_at_call 4; refine (alive_any _ hE.out).mono ?_; rintro e w2 ⟨rfl, hb2⟩)
    go_ret
    exact ⟨rfl, hb2⟩
  · have hg1 : decide ((20000 : Int) < (l.length : Int)) = false := decide_eq_false (by omega)
    go_enter Tryz.func3, Tryz.ntmps3
    go_wp2_with (first
      | (at_builtin; refine append_bytes rfl (.tmp 14) (.tmp 15) rfl w.heap.size rfl (own_made w _ rfl) rfl (hv.out.below (below_box1 _ _)) (by simp; omega) (by simp) ?_; intro v1 w1 ho1 hb1)
      | (at_builtin; refine append_bytes_at rfl (.tmp 16) (.tmp 17) rfl w.heap.size rfl (ho1.alloc _) rfl (bytes_box w1 77 (by omega)) (by simp; omega) ?_ (l ++ [77]) (l.length + 1) rfl (by simp) (by omega) ?_))
    · have := hb1.size; simp at this ⊢; omega
    · intro g cp w2 ho2 hcp hcm hg hb2
      have hw2 : Below w.heap.size w w2 := (((below_box1 w _).trans hb1).alloc (by have := hb1.size; simp at this; omega) _).trans hb2
      obtain ⟨hown, hlast, hlt⟩ := row_77b hl.out ho2
      have hv2 := Lib.hid (hv.out.below hw2)
      have hown := Lib.hid hown
      have hw2 := Lib.hid hw2
      have hE2 := Lib.hid (hE.out.below hw2.out)
      have hlast := Lib.hid hlast
      clear hb1 hb2 ho1 ho2
      have HD := fun (W : World) (h : BytesAt W (.slice (some ⟨g, 0, none⟩) l.length cp) l) (hE : ErrT W) => decode_any _ l W h hE
      have HR := fun (W : World) (h : BytesAt W v l) => refDecode_any v l W h
      have HD := Lib.hid HD
      have HR := Lib.hid HR
      go_wp2_with fail
      refine (HD.out _ hown.out hE2.out).mono ?_
      intro e3 w3 hd3
      have hv3 := Lib.hid (hv2.out.below hd3.1)
      have hown3 := Lib.hid (hown.out.below hd3.1)
      have hw3 := Lib.hid (then_call hw2.out hd3.1)
      have hE3 := Lib.hid (hE2.out.below hd3.1)
      have hlast3 := Lib.hid ((hd3.1.cell (p := ⟨g, l.length, none⟩) hlt).trans hlast.out)
      have hlt3 : Hid (g < w3.heap.size) := Lib.hid (Nat.lt_of_lt_of_le hlt hd3.1.size)
      have hd3 := Lib.hid hd3
      -- what the program answers is known once the document's answer is
      rcases hd3.out.2 with ⟨la, v4, q1, rfl, q2⟩ | ⟨hn, rfl⟩
      · have q1 := Lib.hid q1
        have q2 := Lib.hid q2
        clear HD hd3
        go_wp2_with fail
        refine (HR.out _ hv3.out).mono ?_
        clear HR
        intro e4 w4 hd4
        have hw4 := Lib.hid (then_call hw3.out hd4.1)
        have hv4 := Lib.hid (hv3.out.below hd4.1)
        have hown4 := Lib.hid (hown3.out.below hd4.1)
        have hlast4 := Lib.hid ((hd4.1.cell (p := ⟨g, l.length, none⟩) hlt3.out).trans hlast3.out)
        have hlt4 : Hid (g < w4.heap.size) := Lib.hid (Nat.lt_of_lt_of_le hlt3.out hd4.1.size)
        have q5 := Lib.hid (q2.out.below hd4.1)
        have hE4 := Lib.hid (hE3.out.below hd4.1)
        rcases hd4.2 with ⟨lb, v5, q3, rfl, q4⟩ | ⟨hn, rfl⟩
        · have hsame := Lib.hid (q1.out.same q3 hbl)
          have q4 := Lib.hid q4
          have HS := same_ops la lb v4 v5 _ q5.out q4.out (by have := q1.out.1; omega)
          have HS := Lib.hid HS
          clear hd4 q3
          go_wp2_with fail
          refine HS.out.mono ?_
          rintro e w5 ⟨r, rfl, hr, hb5⟩
          obtain rfl : r = true := hr.2 (by first | exact hsame.out | rfl)
          have hw5 := Lib.hid (then_call hw4.out hb5)
          have hown5 := hown4.out.below hb5
          have hv5 := hv4.out.below hb5
          have hlast5 := Lib.hid ((hb5.cell (p := ⟨g, l.length, none⟩) hlt4.out).trans hlast4.out)
          have hlt5 : Hid (g < w5.heap.size) := Lib.hid (Nat.lt_of_lt_of_le hlt4.out hb5.size)
          have hE5 := Lib.hid (hE4.out.below hb5)
          have HT := Lib.hid (same_true hown5 hv5)
          clear hr hb5 HS hown5 hv5
          go_wp2_with fail
          refine HT.out.mono ?_
          rintro e w6 ⟨rfl, rfl⟩
          clear HT
          go_wp2_with (go_at_call 4; refine (alive_any _ hE5.out).mono ?_; rintro e w7 ⟨rfl, hb7⟩; have hc7 := (hb7.cell (p := ⟨g, l.length, none⟩) hlt5.out).trans hlast5.out)
          go_ret
          exact ⟨rfl, then_call hw5.out hb7⟩
        · exact absurd q1.out (hn la)
      · clear HD hd3
        go_wp2_with fail
        refine (HR.out _ hv3.out).mono ?_
        clear HR
        intro e4 w4 hd4
        have hw4 := Lib.hid (then_call hw3.out hd4.1)
        have hv4 := Lib.hid (hv3.out.below hd4.1)
        have hown4 := Lib.hid (hown3.out.below hd4.1)
        have hlast4 := Lib.hid ((hd4.1.cell (p := ⟨g, l.length, none⟩) hlt3.out).trans hlast3.out)
        have hlt4 : Hid (g < w4.heap.size) := Lib.hid (Nat.lt_of_lt_of_le hlt3.out hd4.1.size)
        have hE4 := Lib.hid (hE3.out.below hd4.1)
        rcases hd4.2 with ⟨lb, v5, q3, rfl, q4⟩ | ⟨hn', rfl⟩
        · exact absurd q3 (hn lb)
        · have hsame : Hid (([] : List OpV).map OpC = ([] : List OpV).map OpC) := Lib.hid rfl
          have HS := same_ops [] [] _ _ w4 (ops_none w4) (ops_none w4) (by simp)
          have HS := Lib.hid HS
          clear hd4 hn hn'
          go_wp2_with fail
          refine HS.out.mono ?_
          rintro e w5 ⟨r, rfl, hr, hb5⟩
          obtain rfl : r = true := hr.2 (by first | exact hsame.out | rfl)
          have hw5 := Lib.hid (then_call hw4.out hb5)
          have hown5 := hown4.out.below hb5
          have hv5 := hv4.out.below hb5
          have hlast5 := Lib.hid ((hb5.cell (p := ⟨g, l.length, none⟩) hlt4.out).trans hlast4.out)
          have hlt5 : Hid (g < w5.heap.size) := Lib.hid (Nat.lt_of_lt_of_le hlt4.out hb5.size)
          have hE5 := Lib.hid (hE4.out.below hb5)
          have HT := Lib.hid (same_true hown5 hv5)
          clear hr hb5 HS hown5 hv5
          go_wp2_with fail
          refine HT.out.mono ?_
          rintro e w6 ⟨rfl, rfl⟩
          clear HT
          go_wp2_with (go_at_call 4; refine (alive_any _ hE5.out).mono ?_; rintro e w7 ⟨rfl, hb7⟩; have hc7 := (hb7.cell (p := ⟨g, l.length, none⟩) hlt5.out).trans hlast5.out)
          go_ret
          exact ⟨rfl, then_call hw5.out hb7⟩
theorem batchDecodes_walk (w : World) (hE : ErrT w) (v : Value) (l : List Nat) (hv : BytesAt w v l) :
    Calls Tryz.prog 3 #[v] w (Ret (.bool true) w) := batchDecodes_any w hE v l hv
end Go.Proofs.YthpgfnhecfgiaaaGreatDoor
