/-
  Sum, the document's own answer: bit by bit.
-/
import Derived.Test.YtmeofjoamcghhaaBy
import Derived.Test.YtmeofjoamcghhaaFrNum
import Derived.Laws.BitsAllLaws
namespace Go.Proofs.Ytmeofjoamcghhaa
open Go.RowKit Go.Sort

set_option maxRecDepth 20000 in
set_option maxHeartbeats 2000000 in
theorem refSum_any (v : Value) (l : List Nat) (w : World) (hv : BytesAt w v l) :
    Calls Try.prog 13 #[v] w fun e w' => e = .returned (.int .u32 (sumN l : Nat)) ∧ w = w' := by
  have hlv := fun W => hv.len (ty := 3) W
  have hll : (l.length : Int) ≤ 9223372036854775807 := by have := hv.row.le; rwa [bvals_length] at this
  have hby := Lib.hid hv.byte
  have hv := Lib.hid hv
  go_enter Try.func13, Try.ntmps13
  go_wp2
  go_loop [3, 4] (fun t i => ∃ (j s : Nat), i = .int .i64 j ∧ t = .int .u32 s ∧ j ≤ l.length ∧ s < 4294967296 ∧ Hid (crcL 4294967295 l = crcL s (l.drop j))) (fun _ i => l.length - (intOf i).toNat)
  case atStart => exact ⟨0, 4294967295, rfl, rfl, by omega, by omega, Lib.hid rfl⟩
  case round =>
    obtain ⟨j, s, rfl, rfl, hj, hs, hc⟩ := hrel
    rcases Nat.lt_or_ge j l.length with hjl | hjl
    · obtain ⟨ad, ha, hac, hab⟩ := RowAt.index hv.out.row elemY.ht elemY.hs (k := j) (by rw [bvals_length]; exact hjl)
      obtain ⟨d, hd⟩ : ∃ d, l.getD j 0 = d := ⟨_, rfl⟩
      have hac2 : w.cell? ad = some (.int .u8 (d : Nat)) := by
        rw [hac, ← hd]; simp [bvals, bval, List.getD, List.getElem?_eq_getElem hjl]
      clear hac
      have hd256 : d < 256 := by
        rw [← hd]; simp only [List.getD]; rw [List.getElem?_eq_getElem hjl]; exact hby.out _ (List.getElem_mem _)
      have hc2 : Hid (crcL 4294967295 l = crcL (bitsN 8 (s ^^^ d)) (l.drop (j + 1))) := Lib.hid (by
        have h1 := hc.out
        rw [List.drop_eq_getElem_cons hjl] at h1
        have h2 : l[j] = d := by rw [← hd]; simp [List.getD, List.getElem?_eq_getElem hjl]
        rw [h2] at h1
        exact h1)
      obtain ⟨X, hX⟩ : ∃ X, s ^^^ d = X := ⟨_, rfl⟩
      have hX32 : X < 4294967296 := by rw [← hX]; exact Nat.xor_lt_two_pow (n := 32) hs (by omega)
      have hxor : bits .xor .u32 (s : Int) (d : Int) = ((X : Nat) : Int) := by rw [← hX]; exact u32_xor_nat s d hs (by omega)
      rw [hX] at hc2
      clear hX hd hc
      go_wp2
      go_loop [3, 5, 6] (fun t i _ => ∃ (k y : Nat), i = .int .i64 k ∧ t = .int .u32 y ∧ k ≤ 8 ∧ y < 4294967296 ∧ Hid (bitsN 8 X = bitsN (8 - k) y)) (fun _ i _ => 8 - (intOf i).toNat)
      case atStart => exact ⟨0, X, rfl, rfl, by omega, hX32, Lib.hid rfl⟩
      case round =>
        obtain ⟨k, y, rfl, rfl, hk, hy, hb⟩ := hrel
        rcases Nat.lt_or_ge k 8 with hk8 | hk8
        · have hb2 : Hid (bitsN 8 X = bitsN (8 - (k + 1)) (bit1 y)) := Lib.hid (by
            have h1 := hb.out
            rw [show 8 - k = (8 - (k + 1)) + 1 by omega] at h1
            exact h1)
          have h32 := bit1_lt (s := y) hy
          rcases Nat.mod_two_eq_zero_or_one y with h2 | h2
          · have hz : bit1 y = y / 2 := by unfold bit1; rw [if_neg (by omega)]
            have hm : (y : Int) % 2 = 0 := by omega
            rw [hz] at hb2
            clear hz h2 hb
            go_wp2
            exact ⟨⟨k + 1, y / 2, by go_num, by go_num, by omega, by omega, hb2⟩, by simp [intOf]; omega⟩
          · have hz : bit1 y = (y / 2) ^^^ 2197175160 := by unfold bit1; rw [if_pos h2]; rfl
            obtain ⟨Y, hY⟩ : ∃ Y, (y / 2) ^^^ 2197175160 = Y := ⟨_, rfl⟩
            have hm : (y : Int) % 2 = 1 := by omega
            have hxp : bits .xor .u32 ((y : Int) / 2) 2197175160 = ((Y : Nat) : Int) := by
              rw [← hY]
              exact u32_xor_nat (y / 2) 2197175160 (by omega) (by omega)
            rw [hz, hY] at hb2 h32
            clear hz h2 hb hY
            go_wp2
            exact ⟨⟨k + 1, Y, by go_num, by go_num, by omega, h32, hb2⟩, by simp [intOf]; omega⟩
        · have hy2 : Hid (crcL 4294967295 l = crcL y (l.drop (j + 1))) := Lib.hid (by
            rw [hc2.out, hb.out, show 8 - k = 0 by omega]; rfl)
          go_wp2
          exact ⟨⟨j + 1, y, by go_num, rfl, by omega, hy, hy2⟩, by simp [intOf]; omega⟩
    · have hfin : Hid (crcL 4294967295 l = s) := Lib.hid (by rw [hc.out, List.drop_eq_nil_of_le hjl]; rfl)
      have hxf : bits .xor .u32 (s : Int) 4294967295 = ((sumN l : Nat) : Int) := by
        rw [sumN, hfin.out]
        exact u32_xor_nat s 4294967295 hs (by omega)
      go_wp2
      go_ret
      exact ⟨rfl, rfl⟩
end Go.Proofs.Ytmeofjoamcghhaa
