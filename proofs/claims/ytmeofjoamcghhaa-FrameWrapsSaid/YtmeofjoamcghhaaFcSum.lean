/-
  The code's own Sum: a closure that goes on with a sum.
-/
import Derived.Test.YtmeofjoamcghhaaFrSum
namespace Go.Proofs.Ytmeofjoamcghhaa
open Go.RowKit Go.Sort

/-- What the closure keeps: its one cell. -/
structure CrcAt (W : World) (B : Nat) (s : Nat) : Prop where
  cell : W.cell? ⟨B, 0, none⟩ = some (.int .u32 (s : Nat))
  free : W.frozen? ⟨B, 0, none⟩ = false

theorem CrcAt.set {W : World} {B s : Nat} (h : CrcAt W B s) (t : Nat) : CrcAt (W.setCell ⟨B, 0, none⟩ (.int .u32 (t : Nat))) B t :=
  ⟨World.cell?_setCell_same' _ _ _ (by rw [h.cell]; rfl), by rw [World.frozen?_setCell]; exact h.free⟩

theorem summing_any (w : World) :
    Calls Try.prog 18 #[] w fun e w' => e = .returned (.func (.func 25) #[] #[.pointer (some ⟨w.heap.size, 0, none⟩)]) ∧ CrcAt w' w.heap.size 4294967295 ∧ Below w.heap.size w w' := by
  have hmf : ∀ (fn : Fn) (first cap : Array Value) (w : World), (Instr.makeFunc fn first cap).run Try.prog w = .ok (.func fn first cap) w := fun _ _ _ _ => rfl
  go_enter Try.func18, Try.ntmps18
  go_wp2
  go_ret
  exact ⟨rfl, ⟨by go_simp, by go_simp⟩, below_box1 _ _⟩

set_option maxRecDepth 20000 in
set_option maxHeartbeats 2000000 in
/-- w0: where the bytes lie; the closure's cell was laid later. -/
theorem further_any (v : Value) (l : List Nat) (w0 w : World) (B s : Nat) (hv : BytesAt w0 v l) (hB : w0.heap.size ≤ B) (hb : Below w0.heap.size w0 w) (hs : s < 4294967296) (hc : CrcAt w B s) :
    Calls Try.prog 25 #[v, .pointer (some ⟨B, 0, none⟩)] w fun e w' => e = .returned (.int .u32 ((crcL s l ^^^ 4294967295 : Nat) : Int)) ∧ CrcAt w' B (crcL s l) ∧ Below w0.heap.size w0 w' := by
  have hlv := fun W => hv.len (ty := 3) W
  have hll : (l.length : Int) ≤ 9223372036854775807 := by have := hv.row.le; rwa [bvals_length] at this
  have hby := Lib.hid hv.byte
  have hv := Lib.hid hv
  have hc := Lib.hid hc
  have hb := Lib.hid hb
  go_enter Try.func25, Try.ntmps25
  go_wp2
  go_loopw [8] (fun i wr => ∃ (j y : Nat), i = .int .i64 j ∧ j ≤ l.length ∧ y < 4294967296 ∧ Hid (CrcAt wr B y) ∧ Hid (Below w0.heap.size w0 wr) ∧ Hid (crcL s l = crcL y (l.drop j))) (fun i _ => l.length - (intOf i).toNat)
  case atStart => exact ⟨0, s, rfl, by omega, hs, hc, hb, Lib.hid rfl⟩
  case round =>
    obtain ⟨j, y, rfl, hj, hy, hcr, hbr, hcl⟩ := hrel
    have hcell := hcr.out.cell
    have hfree := hcr.out.free
    rcases Nat.lt_or_ge j l.length with hjl | hjl
    · obtain ⟨ad, ha, hac, hab⟩ := RowAt.index hv.out.row elemY.ht elemY.hs (k := j) (by rw [bvals_length]; exact hjl)
      obtain ⟨d, hd⟩ : ∃ d, l.getD j 0 = d := ⟨_, rfl⟩
      have hac2 : wr.cell? ad = some (.int .u8 (d : Nat)) := by
        rw [hbr.out.cell hab, hac, ← hd]; simp [bvals, bval, List.getD, List.getElem?_eq_getElem hjl]
      clear hac
      have hd256 : d < 256 := by
        rw [← hd]; simp only [List.getD]; rw [List.getElem?_eq_getElem hjl]; exact hby.out _ (List.getElem_mem _)
      have hc2 : Hid (crcL s l = crcL (bitsN 8 (y ^^^ d)) (l.drop (j + 1))) := Lib.hid (by
        have h1 := hcl.out
        rw [List.drop_eq_getElem_cons hjl] at h1
        have h2 : l[j] = d := by rw [← hd]; simp [List.getD, List.getElem?_eq_getElem hjl]
        rw [h2] at h1
        exact h1)
      obtain ⟨X, hX⟩ : ∃ X, y ^^^ d = X := ⟨_, rfl⟩
      have hX32 : X < 4294967296 := by rw [← hX]; exact Nat.xor_lt_two_pow (n := 32) hy (by omega)
      have hxor : bits .xor .u32 (y : Int) (d : Int) = ((X : Nat) : Int) := by rw [← hX]; exact u32_xor_nat y d hy (by omega)
      rw [hX] at hc2
      clear hX hd hcl
      have hc3 := Lib.hid (hcr.out.set X)
      have hb3 := Lib.hid (hbr.out.setCell (p := ⟨B, 0, none⟩) hB (.int .u32 (X : Nat)))
      clear hcr
      go_wp2
      go_loopw [16] (fun i wr => ∃ (k z : Nat), i = .int .i64 k ∧ k ≤ 8 ∧ z < 4294967296 ∧ Hid (CrcAt wr B z) ∧ Hid (Below w0.heap.size w0 wr) ∧ Hid (bitsN 8 X = bitsN (8 - k) z)) (fun i _ => 8 - (intOf i).toNat)
      case atStart => exact ⟨0, X, rfl, by omega, hX32, hc3, hb3, Lib.hid rfl⟩
      case round =>
        clear hcell hfree
        obtain ⟨k, z, rfl, hk, hz, hcr, hbr, hbt⟩ := hrel
        have hcell := hcr.out.cell
        have hfree := hcr.out.free
        rcases Nat.lt_or_ge k 8 with hk8 | hk8
        · have hbt2 : Hid (bitsN 8 X = bitsN (8 - (k + 1)) (bit1 z)) := Lib.hid (by
            have h1 := hbt.out
            rw [show 8 - k = (8 - (k + 1)) + 1 by omega] at h1
            exact h1)
          have h32 := bit1_lt (s := z) hz
          obtain ⟨Z, hZ⟩ : ∃ Z, bit1 z = Z := ⟨_, rfl⟩
          have hxp : bits .xor .u32 ((z : Int) / 2) ((z : Int) % 2 * 2197175160) = ((Z : Nat) : Int) := by
            rw [← hZ]
            rcases Nat.mod_two_eq_zero_or_one z with h2 | h2
            · rw [show ((z : Int) % 2 * 2197175160) = ((0 : Nat) : Int) by omega]
              have := u32_xor_nat (z / 2) 0 (by omega) (by omega)
              rw [show ((z : Int) / 2) = ((z / 2 : Nat) : Int) by omega, this]
              unfold bit1; rw [if_neg (by omega)]; simp
            · rw [show ((z : Int) % 2 * 2197175160) = ((2197175160 : Nat) : Int) by omega]
              have := u32_xor_nat (z / 2) 2197175160 (by omega) (by omega)
              rw [show ((z : Int) / 2) = ((z / 2 : Nat) : Int) by omega, this]
              unfold bit1; rw [if_pos h2]; rfl
          have h2a : 0 ≤ (z : Int) % 2 := by omega
          have h2b : (z : Int) % 2 ≤ 1 := by omega
          rw [hZ] at hbt2 h32
          clear hZ hbt
          have hc4 := Lib.hid (hcr.out.set Z)
          have hb4 := Lib.hid (hbr.out.setCell (p := ⟨B, 0, none⟩) hB (.int .u32 (Z : Nat)))
          go_wp2
          go_roundw
          case rel => exact ⟨k + 1, Z, by go_num, by omega, h32, hc4, hb4, hbt2⟩
          case measure => simp [intOf]; omega
        · have hy2 : Hid (crcL s l = crcL z (l.drop (j + 1))) := Lib.hid (by
            rw [hc2.out, hbt.out, show 8 - k = 0 by omega]; rfl)
          go_wp2
          go_roundw
          case rel => exact ⟨j + 1, z, by go_num, by omega, hz, hcr, hbr, hy2⟩
          case measure => simp [intOf]; omega
    · go_wp2
      go_ret
      have hfin : crcL s l = y := by rw [hcl.out, List.drop_eq_nil_of_le hjl]; rfl
      have hxf : bits .xor .u32 (IntKind.u32.max) (y : Int) = ((y ^^^ 4294967295 : Nat) : Int) := by
        rw [Nat.xor_comm]
        exact u32_xor_nat 4294967295 y (by omega) hy
      rw [hfin]
      exact ⟨ret_int hxf, hcr.out, hbr.out⟩

theorem cSum_any (v : Value) (l : List Nat) (w : World) (hv : BytesAt w v l) :
    Calls Try.prog 11 #[v] w (Ret (.int .u32 (sumN l : Nat)) w) := by
  have hv := Lib.hid hv
  go_enter Try.func11, Try.ntmps11
  go_wp2_with (first
    | (go_at_call 18; refine (summing_any _).mono ?_; rintro e w1 ⟨rfl, hc, hb⟩)
    | (go_at_call 25; refine (further_any _ l w _ _ _ hv.out (Nat.le_refl _) hb (by omega) hc).mono ?_; rintro e w2 ⟨rfl, hc2, hb2⟩))
  go_ret
  exact ⟨rfl, hb2⟩
end Go.Proofs.Ytmeofjoamcghhaa
