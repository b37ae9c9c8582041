/-
  The bytes of a batch, as lists: columns of numbers, of truths, of texts.
-/
import Derived.Test.YthpgfnhecfgiaaaGreatDoorBaCols
import Derived.Test.YthpgfnhecfgiaaaGreatDoorMCc
import Derived.Test.YthpgfnhecfgiaaaGreatDoorMCoTake
namespace Go.Proofs.YthpgfnhecfgiaaaGreatDoor
open Go.RowKit Go.Sort
set_option maxRecDepth 20000

theorem encR_len : ∀ rs : List (Nat × Int), Pos rs → total rs ≤ 65536 → (∀ x ∈ flatL rs, InR x) → (encR rs).length ≤ 20 * total rs
  | [], _, _, _ => by simp [encR, total]
  | (k, x) :: r, hp, ht, hx => by
    have hk : 1 ≤ k := hp (k, x) (by simp)
    rw [total] at ht
    have h1 := encR_len r (fun p hh => hp p (by simp [hh])) (by omega) (fun y hy => hx y (by rw [flatL]; simp [hy]))
    have h2 := putL_len10 (n := k) (by omega)
    have h3 := putL_len10 (zigN_lt (hx x (by rw [flatL]; simp; left; omega)))
    rw [encR, total, List.length_append, List.length_append]
    omega
theorem bytesR_len {l : List Int} (hr : ∀ x ∈ l, InR x) (hl : l.length ≤ 65536) : (bytesR l).length ≤ 20 * l.length := by
  have := encR_len (runsL l) (pos_runs l) (by rw [total_runs]; exact hl) (by rw [flat_runs]; exact hr)
  rwa [total_runs] at this
theorem encB_len : ∀ c : List Nat, totB c ≤ 65536 → (encB c).length ≤ 10 * c.length
  | [], _ => by simp [encB]
  | k :: r, h => by
    rw [totB] at h
    have h1 := encB_len r (by omega)
    have h2 := putL_len10 (n := k) (by omega)
    rw [encB, List.length_append, List.length_cons]
    omega
theorem posB_len : ∀ c : List Nat, PosB c → c.length ≤ totB c
  | [], _ => by simp [totB]
  | k :: r, h => by
    have h1 := posB_len r (fun j hj => h j (by simp [hj]))
    have h2 := h k (by simp)
    rw [totB, List.length_cons]
    omega
theorem bytesB_len {l : List Bool} (hl : l.length ≤ 65536) : (bytesB l).length ≤ 10 * (l.length + 1) := by
  have h1 := encB_len (cntB false l) (by rw [tot_cnt]; exact hl)
  have h2 := tot_cnt false l
  have h3 := cnt_tail false l
  have h4 : (cntB false l).length ≤ l.length + 1 := by
    cases hc : cntB false l with
    | nil => simp
    | cons k r =>
      rw [hc] at h2 h3
      have := posB_len r h3
      rw [totB] at h2
      rw [List.length_cons]
      omega
  unfold bytesB
  omega


/-- A column of numbers; its bytes; those of the first k columns. -/
def colL (l : List OpV) (i : Nat) : List Int := l.map fun o => fld o i
def colB (l : List OpV) (i : Nat) : List Nat := bytesR (if formN i = 1 then deltaL 0 (colL l i) else colL l i)
def numB (l : List OpV) : Nat → List Nat
  | 0 => []
  | k + 1 => numB l k ++ colB l k
/-- A column of truths; the bytes of the first k. -/
def truL (l : List OpV) (c : Nat) : List Bool := l.map fun o => if c = 0 then o.fa else o.ta
def truB (l : List OpV) : Nat → List Nat
  | 0 => []
  | k + 1 => truB l k ++ bytesB (truL l k)
/-- A text; its bytes; the lengths of a column of texts, all its bytes; the first k columns. -/
def txt (o : OpV) (c : Nat) : ByteArray := if c = 0 then o.key else if c = 1 then o.name else o.value
def strN (s : ByteArray) : List Nat := s.data.toList.map UInt8.toNat
def lenL (l : List OpV) (c : Nat) : List Int := l.map fun o => ((txt o c).size : Int)
def allT : List OpV → Nat → List Nat
  | [], _ => []
  | o :: r, c => strN (txt o c) ++ allT r c
def texB (l : List OpV) : Nat → List Nat
  | 0 => []
  | k + 1 => texB l k ++ (bytesR (lenL l k) ++ allT l k)
def batchB (l : List OpV) : List Nat := putL l.length ++ (numB l 21 ++ (truB l 2 ++ texB l 3))

theorem strN_len (s : ByteArray) : (strN s).length = s.size := by simp [strN]
theorem strN_byte (s : ByteArray) : ∀ x ∈ strN s, x < 256 := by
  intro x hx
  obtain ⟨u, _, rfl⟩ := List.mem_map.1 hx
  exact u.toNat_lt
theorem strB_strN (s : ByteArray) : strB (strN s) = s := by
  unfold strB strN
  rw [List.map_map]
  have : s.data.toList.map (UInt8.ofNat ∘ UInt8.toNat) = s.data.toList := by
    conv => rhs; rw [← List.map_id s.data.toList]
    exact List.map_congr_left fun x _ => by simp
  rw [this]
theorem allT_snoc (l : List OpV) (o : OpV) (c : Nat) : allT (l ++ [o]) c = allT l c ++ strN (txt o c) := by
  induction l with
  | nil => simp [allT]
  | cons a r ih => simp [allT, ih]
theorem allT_byte (l : List OpV) (c : Nat) : ∀ x ∈ allT l c, x < 256 := by
  induction l with
  | nil => simp [allT]
  | cons a r ih =>
    intro x hx
    rcases List.mem_append.1 hx with h | h
    · exact strN_byte _ x h
    · exact ih x h
theorem colB_byte (l : List OpV) (i : Nat) : ∀ x ∈ colB l i, x < 256 := bytesR_byte _
theorem numB_byte (l : List OpV) : ∀ k, ∀ x ∈ numB l k, x < 256
  | 0 => by simp [numB]
  | k + 1 => by
    intro x hx
    rcases List.mem_append.1 hx with h | h
    · exact numB_byte l k x h
    · exact colB_byte l k x h
theorem truB_byte (l : List OpV) : ∀ k, ∀ x ∈ truB l k, x < 256
  | 0 => by simp [truB]
  | k + 1 => by
    intro x hx
    rcases List.mem_append.1 hx with h | h
    · exact truB_byte l k x h
    · exact bytesB_byte _ x h
theorem texB_byte (l : List OpV) : ∀ k, ∀ x ∈ texB l k, x < 256
  | 0 => by simp [texB]
  | k + 1 => by
    intro x hx
    rcases List.mem_append.1 hx with h | h
    · exact texB_byte l k x h
    · rcases List.mem_append.1 h with h | h
      · exact bytesR_byte _ x h
      · exact allT_byte l k x h

/-- The numbers of an operation are 64-bit; its texts are short. -/
def NumR (o : OpV) : Prop := ∀ i, i < 21 → InR (fld o i)
def TxtR (n : Nat) (o : OpV) : Prop := ∀ c, c < 3 → (txt o c).size ≤ n
theorem colL_in {l : List OpV} (h : ∀ o ∈ l, NumR o) {i : Nat} (hi : i < 21) : ∀ x ∈ colL l i, InR x := by
  intro x hx
  obtain ⟨o, ho, rfl⟩ := List.mem_map.1 hx
  exact h o ho i hi
theorem colB_len {l : List OpV} (h : ∀ o ∈ l, NumR o) (hl : l.length ≤ 1000) {i : Nat} (hi : i < 21) : (colB l i).length ≤ 20000 := by
  unfold colB
  split
  · have := bytesR_len (l := deltaL 0 (colL l i)) (delta_in 0 _) (by rw [delta_len]; simp [colL]; omega)
    rw [delta_len] at this
    simp [colL] at this ⊢
    omega
  · have := bytesR_len (l := colL l i) (colL_in h hi) (by simp [colL]; omega)
    simp [colL] at this ⊢
    omega
theorem numB_len {l : List OpV} (h : ∀ o ∈ l, NumR o) (hl : l.length ≤ 1000) : ∀ {k : Nat}, k ≤ 21 → (numB l k).length ≤ k * 20000
  | 0, _ => by simp [numB]
  | k + 1, hk => by
    have h1 := numB_len h hl (k := k) (by omega)
    have h2 := colB_len h hl (i := k) (by omega)
    rw [numB, List.length_append]
    omega
theorem truB_len {l : List OpV} (hl : l.length ≤ 1000) : ∀ {k : Nat}, (truB l k).length ≤ k * 20000
  | 0 => by simp [truB]
  | k + 1 => by
    have h1 := truB_len hl (k := k)
    have h2 := bytesB_len (l := truL l k) (by simp [truL]; omega)
    rw [truB, List.length_append]
    simp [truL] at h2 ⊢
    omega
theorem allT_len {n : Nat} {l : List OpV} {c : Nat} (h : ∀ o ∈ l, (txt o c).size ≤ n) : (allT l c).length ≤ l.length * n := by
  induction l with
  | nil => simp [allT]
  | cons a r ih =>
    have h1 := ih fun o ho => h o (by simp [ho])
    have h2 := h a (by simp)
    rw [allT, List.length_append, strN_len, List.length_cons, Nat.add_mul]
    omega
theorem lenL_in {l : List OpV} {c : Nat} (h : ∀ o ∈ l, (txt o c).size ≤ 1000) : ∀ x ∈ lenL l c, InR x := by
  intro x hx
  obtain ⟨o, ho, rfl⟩ := List.mem_map.1 hx
  have := h o ho
  unfold InR; omega
theorem texB_len {l : List OpV} (h : ∀ o ∈ l, TxtR 1000 o) (hl : l.length ≤ 1000) : ∀ {k : Nat}, k ≤ 3 → (texB l k).length ≤ k * 1020000
  | 0, _ => by simp [texB]
  | k + 1, hk => by
    have h1 := texB_len h hl (k := k) (by omega)
    have h2 := bytesR_len (l := lenL l k) (lenL_in fun o ho => h o ho k (by omega)) (by simp [lenL]; omega)
    have h3 := allT_len (l := l) (c := k) (n := 1000) fun o ho => h o ho k (by omega)
    rw [texB, List.length_append, List.length_append]
    simp [lenL] at h2 ⊢
    omega
end Go.Proofs.YthpgfnhecfgiaaaGreatDoor
