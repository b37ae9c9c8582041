/-
  Stamps' texts: what the program and the document's own answer write.
-/
import Derived.Test.YtmihcfjlhljmoaaDoorTxFig
import Derived.Test.YtmihcfjlhljmoaaDoorShelf
namespace Go.Proofs.YtmihcfjlhljmoaaDoor
open Go.RowKit Go.Sort Go.Lib

def str (l : List UInt8) : ByteArray := ⟨l.toArray⟩
theorem str_list (l : List UInt8) : (str l).data.toList = l := by simp [str]
theorem str_toList (l : List UInt8) : (str l).toList = l := by rw [ByteArray.toList_eq]; exact str_list l
theorem str_size (l : List UInt8) : (str l).size = l.length := by simp [str, ByteArray.size]
theorem str_append (l l' : List UInt8) : str l ++ str l' = str (l ++ l') := by
  apply ByteArray.ext
  simp [str, ByteArray.data_append]

structure DigAt (n k : Nat) (acc : List UInt8) : Prop where
  le : k ≤ n
  at' : (acc = [] ∧ k = n) ∨ (acc ≠ [] ∧ k = 0 ∧ acc = decDigits n) ∨ (acc ≠ [] ∧ 0 < k ∧ decDigits k ++ acc = decDigits n)

theorem DigAt.next {n k : Nat} {acc : List UInt8} (H : DigAt n k acc) (h : 0 < k ∨ acc = []) : DigAt n (k / 10) (UInt8.ofNat (48 + k % 10) :: acc) := by
  obtain ⟨hle, H⟩ := H
  refine ⟨by omega, .inr ?_⟩
  have key : decDigits k ++ acc = decDigits n := by
    rcases H with ⟨rfl, rfl⟩ | ⟨h1, rfl, h3⟩ | ⟨_, _, h3⟩
    · simp
    · rcases h with h | h
      · omega
      · exact absurd h h1
    · exact h3
  by_cases h10 : k < 10
  · refine .inl ⟨by simp, by omega, ?_⟩
    rw [decDigits_one h10] at key
    rw [← key, Nat.mod_eq_of_lt h10]
    rfl
  · refine .inr ⟨by simp, by omega, ?_⟩
    rw [← key, dec_big h10]
    simp

theorem DigAt.len {n k : Nat} {acc : List UInt8} (H : DigAt n k acc) (hn : n ≤ 1048576) : (str acc).size ≤ 7 := by
  have h := dec_len hn
  rw [str_size]
  rcases H.at' with ⟨rfl, _⟩ | ⟨_, _, h3⟩ | ⟨_, _, h3⟩
  · simp
  · rw [h3]; exact h
  · rw [← h3, List.length_append] at h; omega
theorem piece : ∀ d : Fin 10, (⟨#[48, 49, 50, 51, 52, 53, 54, 55, 56, 57]⟩ : ByteArray).extract d.val (d.val + 1) = str [UInt8.ofNat (48 + d.val)] := by decide +kernel
theorem piece_app (k : Nat) (acc : List UInt8) : (⟨#[48, 49, 50, 51, 52, 53, 54, 55, 56, 57]⟩ : ByteArray).extract (k % 10) (k % 10 + 1) ++ str acc = str (UInt8.ofNat (48 + k % 10) :: acc) := by
  rw [piece ⟨k % 10, Nat.mod_lt _ (by omega)⟩, str_append]; rfl
theorem DigAt.last {n k : Nat} {acc : List UInt8} (H : DigAt n k acc) (hk : ¬ 0 < k) (ha : acc ≠ []) : acc = decDigits n := by
  rcases H.at' with ⟨h, _⟩ | ⟨_, _, h3⟩ | ⟨_, h, _⟩
  · exact absurd h ha
  · exact h3
  · exact absurd h hk

set_option maxHeartbeats 800000 in
theorem digits_any (n : Nat) (w : World) (hn : n ≤ 1048576) :
    Calls Tryd.prog 16 #[.int .i64 n] w fun e w' => e = .returned (.string (str (decDigits n))) ∧ w = w' := by
  have D0 : DigAt n n [] := ⟨Nat.le_refl _, .inl ⟨rfl, rfl⟩⟩
  have D0 := Lib.hid D0
  go_enter Tryd.func16, Tryd.ntmps16
  go_wp2
  go_loop [0, 3] (fun v t => ∃ (k : Nat) (acc : List UInt8), v = .int .i64 k ∧ t = .string (str acc) ∧ DigAt n k acc) (fun v t => 2 * (RowKit.intOf v).toNat + (match t with | .string s => if s.size = 0 then 1 else 0 | _ => 0))
  case atStart => exact ⟨n, [], rfl, rfl, D0.out⟩
  case round =>
    obtain ⟨k, acc, rfl, rfl, D⟩ := hrel
    have hkn := D.le
    have hlen := D.len hn
    have hpos : Hid (¬ (str (UInt8.ofNat (48 + k % 10) :: acc)).size = 0) := show ¬ _ by rw [str_size]; simp
    have D := Lib.hid D
    by_cases hk : 0 < k
    · have N := Lib.hid (D.out.next (.inl hk))
      go_wp2
      exact ⟨⟨k / 10, _, by go_num, by rw [piece_app], N.out⟩, by simp only [piece_app]; rw [if_neg hpos.out]; simp [RowKit.intOf]; omega⟩
    · cases acc with
      | nil =>
        have he : (str []).toList.isEmpty = true := by rw [str_toList]; rfl
        have N := Lib.hid (D.out.next (.inr rfl))
        have hz : Hid ((str []).size = 0) := str_size []
        go_wp2
        exact ⟨⟨k / 10, _, by go_num, by rw [piece_app], N.out⟩, by simp only [piece_app]; rw [if_neg hpos.out, if_pos hz.out]; simp [RowKit.intOf]; omega⟩
      | cons c t =>
        have he : (str (c :: t)).toList.isEmpty = false := by rw [str_toList]; rfl
        have L := Lib.hid (D.out.last hk (by simp))
        go_wp2
        go_ret
        exact ⟨by rw [← L.out]; rfl, rfl⟩

end Go.Proofs.YtmihcfjlhljmoaaDoor
