/-
  The live question of stage 6.
-/
import Derived.Test.YtpkiapjcilapoaaFkOut
import Derived.Test.YtpkiapjcilapoaaBySame
import Derived.Lib.SlBytesConst
namespace Go.Proofs.Ytpkiapjcilapoaa
open Go.RowKit Go.Sort Go.Maps

theorem right_a : rightF ⟨#[97]⟩ = true := by
  refine decide_eq_true ⟨fun i h => ?_, by decide, by decide⟩
  have h1 : (⟨#[97]⟩ : ByteArray).size = 1 := rfl
  have h0 : i = 0 := by omega
  subst h0
  show 97 ≤ (97 : UInt8).toNat ∧ (97 : UInt8).toNat ≤ 122
  decide

/-- The literal, as its conversion leaves it. -/
theorem xy_at (w : World) : BytesAt (w.alloc (.cells #[.int .u8 120, .int .u8 121] 5 (2, 3))) (.slice (some ⟨w.heap.size, 0, none⟩) 2 2) [120, 121] := by
  refine ⟨some ⟨w.heap.size, 0, none⟩, 2, rfl, Nat.le_refl _, by decide, by simp, fun _ => ⟨w.heap.size, 0, rfl, by simp, fun i hi => ?_⟩, fun h => by cases h⟩
  have hi : i < 2 := hi
  have : i = 0 ∨ i = 1 := by omega
  rcases this with rfl | rfl
  · rw [World.cell?_alloc_mark]; rfl
  · rw [World.cell?_alloc_mark]; rfl

/-- A disk on which file a was made. -/
def dA (q : Nat) (mb : Option Nat) (cv kv : Value) : CDisk := changed { tick newDisk with fs := newDisk.fs ++ [newFile q] } mb cv kv ⟨q, ByteArray.empty, ⟨#[97]⟩⟩
/-- .. and the bytes put into it. -/
def dB (q : Nat) (mb : Option Nat) (cv kv cv' kv' v' : Value) : CDisk := { tick (dA q mb cv kv) with fs := [] ++ partMore (newFile q) cv' kv' v' [120, 121] ((dA q mb cv kv).calls + 1) :: [] }
section
variable (q : Nat) (mb : Option Nat) (cv kv cv' kv' v' : Value)
theorem dA_sized : Sized 1 (dA q mb cv kv) := ActK.sized (d := newDisk) (d' := dA q mb cv kv) (N := 0) (kind := 1) (nm := ⟨#[97]⟩) (s := ByteArray.empty) (b := []) (e := 0) (.inl ⟨rfl, .inr ⟨rfl, right_a, fileAt_nil _, by decide, q, mb, cv, kv, Nat.zero_le _, rfl⟩⟩) sized_new
theorem dA_find : findK (dA q mb cv kv) ⟨#[97]⟩ = some q := by
  unfold dA
  rw [findK_changed, if_pos ⟨rfl, right_ne right_a⟩]
theorem dB_sized : Sized 2 (dB q mb cv kv cv' kv' v') := ActK.sized (d := dA q mb cv kv) (d' := dB q mb cv kv cv' kv' v') (N := 0) (kind := 2) (nm := ⟨#[97]⟩) (s := ByteArray.empty) (b := [120, 121]) (e := 0) (.inr (.inl ⟨rfl, .inr ⟨rfl, [], newFile q, [], cv', kv', v', dA_find q mb cv kv, rfl, by simp [CFile.all], rfl⟩⟩)) (dA_sized q mb cv kv)
theorem dB_find : findK (dB q mb cv kv cv' kv' v') ⟨#[97]⟩ = some q := dA_find q mb cv kv
theorem dB_all : ∀ f ∈ (dB q mb cv kv cv' kv' v').fs, f.all = [120, 121] := by
  intro f hf
  simp [dB] at hf
  subst hf
  simp [CFile.all]
end

theorem xy_str : strB [120, 121] = ⟨#[120, 121]⟩ := by decide
theorem dB_read {W : World} {n p q : Nat} {mb : Option Nat} {cv kv cv' kv' v' : Value} (hW : DiskK n W p (dB q mb cv kv cv' kv' v')) : Calls Try.prog 16 #[.pointer (some ⟨p, 0, none⟩), .string ⟨#[97]⟩] W fun e w' =>
    ∃ v4, e = .returned (.tuple #[v4, .int .i64 0]) ∧ (convert 30 9 v4).run Try.prog w' = .ok (.string ⟨#[120, 121]⟩) w' ∧ Below W.heap.size W w' := by
  refine (read_any hW ((dB_sized q mb cv kv cv' kv' v').small (by omega)) ⟨#[97]⟩ (by decide)).mono ?_
  rintro e w' ⟨v4, b4, e4, rfl, ho4, hb4, hbe4, h4⟩
  rcases h4 with ⟨h, _⟩ | ⟨f, hf, _, rfl, rfl⟩
  · rw [dB_find] at h; cases h
  · rw [dB_all q mb cv kv cv' kv' v' f hf] at ho4 hb4
    have hc := run_bytes (ho4.bytes hb4)
    rw [xy_str] at hc
    exact ⟨v4, rfl, hc, hbe4⟩

set_option maxRecDepth 20000 in
set_option maxHeartbeats 4000000 in
theorem alive_any (w : World) : Calls Try.prog 9 #[] w (Ret (.bool true) w) := by
  have cN := Lib.hid (new_any w (Nat.le_refl _))
  have cM := Lib.hid (fun W (hW : DiskK w.heap.size W w.heap.size newDisk) => make_ok hW (sized_new.small (by omega)) ⟨#[97]⟩ (by decide) right_a (fileAt_nil _) (by decide))
  have e97 : (⟨#[97]⟩ : ByteArray).size ≤ maxLen := by decide
  have cP := Lib.hid (fun W q mb cv kv v (hW : DiskK w.heap.size W w.heap.size (dA q mb cv kv)) (hv : BytesAt W v [120, 121]) (hvp : v.ownBlock ≠ some w.heap.size) => append_ok hW ((dA_sized q mb cv kv).small (by omega)) ⟨#[97]⟩ e97 v [120, 121] hv (fun _ => hvp) (A := []) (B := []) (f := newFile q) (dA_find q mb cv kv) rfl (by simp [CFile.all]))
  have cR := Lib.hid (fun W q mb cv kv cv' kv' v' (hW : DiskK w.heap.size W w.heap.size (dB q mb cv kv cv' kv' v')) => dB_read hW)
  have cC := Lib.hid (fun W q mb cv kv cv' kv' v' (hW : DiskK w.heap.size W w.heap.size (dB q mb cv kv cv' kv' v')) => changes_any hW)
  have kc := fun (w : World) (C : Array Value) (n c : Nat) => Lib.run_convert_bytes_const (P := Try.prog) w 30 5 C n c Try.underlying30 Try.underlying5
  clear e97
  go_enter Try.func9, Try.ntmps9
  go_wp2_with (first
    | (go_at_call 8; refine cN.out.mono ?_; rintro e' w1 ⟨rfl, hd1, hb1⟩; have hd1 := Lib.hid hd1; have hb1 := Lib.hid hb1)
    | (go_at_call 21; refine (cM.out _ hd1.out).mono ?_; rintro e' w2 ⟨rfl, q, mb, cv, kv, hq, hd2⟩; have hlt : w.heap.size < w2.heap.size := hd2.1.plt; have hd2 := Lib.hid hd2)
    | (go_at_call 22; refine (cP.out _ q mb cv kv _ (hd2.out.1.below (below_box1 _ _)) (xy_at _) (by simp [Value.ownBlock]; omega)).mono ?_; rintro e' w3 ⟨rfl, cv', kv', v', hd3⟩; have hd3 := Lib.hid hd3)
    | (go_at_call 16; refine (cR.out _ q mb cv kv cv' kv' v' hd3.out.1).mono ?_; rintro e' w4 ⟨v4, rfl, hc4, hbe4⟩; have hbe4 := Lib.hid hbe4)
    | (go_at_call 18; refine (cC.out _ q mb cv kv cv' kv' v' (hd3.out.1.below hbe4.out)).mono ?_; rintro e' w5 ⟨rfl, rfl⟩))
  go_ret
  refine ⟨by rw [show (dB q mb cv kv cv' kv' v').calls = 2 from rfl]; rfl, ?_⟩
  have t2 : Below w.heap.size w1 w2 := hd2.out.2.1.below hb1.out.size (fun b hb => (hd1.out.low b hb).1)
  have t3 := hd3.out.2.1.below (n := w.heap.size) (by have := hb1.out.size; have := t2.size; simp; omega) (fun b hb => ((hd2.out.1.low b hb)).1)
  exact (((hb1.out.trans t2).trans ((below_box1 _ _).mono (by omega))).trans t3).trans (hbe4.out.mono (by have := hb1.out.size; have := t2.size; have := t3.size; simp at this; omega))
end Go.Proofs.Ytpkiapjcilapoaa
