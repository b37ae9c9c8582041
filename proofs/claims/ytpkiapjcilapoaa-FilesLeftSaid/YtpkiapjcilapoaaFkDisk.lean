/-
  The program's own disk: how it lies in memory. Names stand in a map; what was changed, and at which calls, in rows.
-/
import Derived.Test.YtpkiapjcilapoaaFiDisk
import Derived.Test.YtpkiapjcilapoaaStore
import Derived.Maps.OwnSet
import Derived.Maps.OwnOps
import Derived.StringKeys
namespace Go.Proofs.Ytpkiapjcilapoaa
open Go.RowKit Go.Sort Go.Maps

abbrev DW := DataW Unit
/-- How a pointer to a file reads as an element of the map: by its block. -/
def fileR (v : Value) : Option (DW × List MemPlace) :=
  match v with
  | .pointer none => some (.nil, [])
  | .pointer (some ⟨b, 0, none⟩) => some (.lit (.int .i64 (b : Nat)), [])
  | _ => none
/-- Where the file of a name lies. -/
def fileAt (D : DW) (nm : ByteArray) : Option Nat :=
  match D.atKey (.string nm.data.toList) .nil with
  | .lit (.int _ b) => some b.toNat
  | _ => none
def ptrV : Option Nat → Value
  | none => .pointer none
  | some q => .pointer (some ⟨q, 0, none⟩)
theorem fileR_mk (q : Nat) : fileR (.pointer (some ⟨q, 0, none⟩)) = some (.lit (.int .i64 (q : Nat)), []) := rfl

/-- The map holds nothing but files. -/
def Filed (D : DW) : Prop := ∀ k : List UInt8, D.atKey (.string k) .nil = .nil ∨ ∃ q : Nat, D.atKey (.string k) .nil = .lit (.int .i64 (q : Nat))

theorem strLaw : Keyed Try.prog 9 := string_keyed Try.underlying9
theorem strKey {nm : ByteArray} (h : nm.size ≤ maxLen) : keyOf Try.prog 9 (.string nm) = some (.string nm.data.toList) := WideMaps.keyOf_string_mk Try.underlying9 h
theorem zeroPtr (w : World) : (zeroValue 72).run Try.prog w = .ok (.pointer none) w := by kernel_rfl

theorem fileR_inv {v : Value} {D : DW} {nm : ByteArray} {ps : List MemPlace} (h : fileR v = some (D.atKey (.string nm.data.toList) .nil, ps)) : v = ptrV (fileAt D nm) := by
  unfold fileR at h
  split at h
  · simp at h
    unfold fileAt; rw [← h.1]; rfl
  · rename_i b
    simp at h
    unfold fileAt; rw [← h.1]; simp [ptrV]
  · cases h

/-- The names' map: none yet, or a block of its own. -/
def NamesM (w : World) (mb : Option Nat) (m : Nat) (D : DW) : Prop :=
  match mb with
  | none => D = .map []
  | some b => w.ownsMap Try.prog 9 fileR b m D

section
variable {w w' : World} {mb : Option Nat} {m : Nat} {D : DW}
theorem NamesM.look (h : NamesM w mb m D) {nm : ByteArray} (hz : nm.size ≤ maxLen) : (Instr.lookup 58 (.map mb) (.string nm) false).run Try.prog w = .ok (ptrV (fileAt D nm)) w := by
  cases mb with
  | none =>
    obtain rfl : D = .map [] := h
    exact Maps.look_nil false strLaw Try.underlying58 (zeroPtr w) (strKey hz)
  | some b =>
    obtain ⟨v, ps, hrun, hv⟩ := World.ownsMap.lookup (w := w) h strLaw Try.underlying58 (zeroPtr w) (zd := .nil) (zp := []) rfl (strKey hz)
    rw [hrun, fileR_inv hv]
theorem NamesM.len (h : NamesM w mb m D) (ty : TypeId) : (Builtin.len_ #[58] ty #[.map mb]).run Try.prog w = .ok (.int .i64 (Maps.size D : Nat)) w := by
  cases mb with
  | none =>
    obtain rfl : D = .map [] := h
    exact Maps.len_nil Try.underlying58 ty
  | some b => exact World.ownsMap.len (w := w) h Try.underlying58 ty
theorem NamesM.turns {F : List Nat} (h : NamesM w mb m D) (ht : Turns F w w') (hF : ∀ b, mb = some b → b ∉ F) : NamesM w' mb m D := by
  cases mb with
  | none => exact h
  | some b =>
    have hlt := World.ownsMap.lt (w := w) h
    obtain ⟨es, clock, hb, Ft, hs, hD⟩ := h
    exact ⟨es, clock, (ht.block b hlt (hF b rfl)).trans hb, Ft, hs, hD⟩
theorem NamesM.mono (h : NamesM w mb m D) {m' : Nat} (hm : m ≤ m') : NamesM w mb m' D := by
  cases mb with
  | none => exact h
  | some b => exact World.ownsMap.mono (w := w) h hm
theorem NamesM.block (h : NamesM w mb m D) : ∀ b, mb = some b → b < w.heap.size := by
  rintro b rfl
  exact World.ownsMap.lt (w := w) h
theorem NamesM.size (h : NamesM w mb m D) : Maps.size D ≤ m := by
  cases mb with
  | none => obtain rfl : D = .map [] := h; exact Nat.zero_le _
  | some b => exact World.ownsMap.size_le (w := w) h
theorem NamesM.tidy (h : NamesM w mb m D) : Tidy D := by
  cases mb with
  | none => obtain rfl : D = .map [] := h; exact tidy_empty
  | some b => exact World.ownsMap.tidy (w := w) h strLaw
end

/-- A change of names. -/
structure Nam where
  q : Nat
  from_ : ByteArray
  to : ByteArray
def keyL (nm : ByteArray) : Lit := .string nm.data.toList
/-- What a change of names does. -/
def doN (D : DW) (a : Nam) : DW := if a.to = ByteArray.empty then D.del (keyL a.from_) else (D.del (keyL a.from_)).put (keyL a.to) (.lit (.int .i64 (a.q : Nat)))
def namesOf (l : List Nam) : DW := l.foldl doN (.map [])
theorem namesOf_snoc (l : List Nam) (a : Nam) : namesOf (l ++ [a]) = doN (namesOf l) a := by simp [namesOf]
def namCells (a : Nam) : List Value := [.pointer (some ⟨a.q, 0, none⟩), .string a.from_, .string a.to]
def intCell (k : Nat) : List Value := [.int .i64 (k : Nat)]

/-- A file: where it lies, its rows, its parts. -/
structure CFile where
  q : Nat
  cv : Value
  kv : Value
  sv : Value
  parts : List (Value × List Nat)
  ks : List Nat
  ss : List Nat
def CFile.all (f : CFile) : List Nat := f.parts.flatMap (·.2)
def CFile.wb (f : CFile) : List Nat := f.q :: (f.cv.ownBlock.toList ++ (f.kv.ownBlock.toList ++ f.sv.ownBlock.toList))
def CFile.rb (f : CFile) : List Nat := f.parts.flatMap (fun p => p.1.ownBlock.toList)
def partCells (p : Value × List Nat) : List Value := [p.1]

structure FileK (n : Nat) (w : World) (f : CFile) : Prop where
  file : w.heap[f.q]? = some (.cells #[f.cv, f.kv, f.sv, .int .i64 (f.all.length : Nat)] 77 (0, 0))
  ch : OwnRows w n 30 1 f.cv (f.parts.map partCells)
  ca : OwnRows w n 3 1 f.kv (f.ks.map intCell)
  sy : OwnRows w n 3 1 f.sv (f.ss.map intCell)
  bytes : ∀ p ∈ f.parts, BytesAt w p.1 p.2

theorem FileK.turns {n : Nat} {w w' : World} {f : CFile} {F : List Nat} (h : FileK n w f) (ht : Turns F w w') (h1 : ∀ b ∈ f.wb, b ∉ F) (h2 : ∀ b ∈ f.rb, b ∉ F) : FileK n w' f := by
  have hq : f.q < w.heap.size := (Array.getElem?_eq_some_iff.1 h.file).1
  refine ⟨(ht.block f.q hq (h1 f.q (by simp [CFile.wb]))).trans h.file, h.ch.turns ht (fun b hb => h1 b (by simp [CFile.wb, hb])), h.ca.turns ht (fun b hb => h1 b (by simp [CFile.wb, hb])), h.sy.turns ht (fun b hb => h1 b (by simp [CFile.wb, hb])), fun p hp => (h.bytes p hp).turns ht (fun b hb => h2 b ?_)⟩
  simp only [CFile.rb, List.mem_flatMap]
  exact ⟨p, hp, by simp [hb]⟩
theorem FileK.below {n : Nat} {w w' : World} {f : CFile} (h : FileK n w f) (hb : Below w.heap.size w w') : FileK n w' f := h.turns (F := []) (.of_below hb) (by simp) (by simp)
theorem FileK.wlt {n : Nat} {w : World} {f : CFile} (h : FileK n w f) : ∀ b ∈ f.wb, b < w.heap.size := by
  intro b hb
  simp only [CFile.wb, List.mem_cons, List.mem_append, Option.mem_toList] at hb
  rcases hb with rfl | hb | hb | hb
  · exact (Array.getElem?_eq_some_iff.1 h.file).1
  · exact (h.ch.block b hb).2
  · exact (h.ca.block b hb).2
  · exact (h.sy.block b hb).2

/-- The state of a disk: the map's block, the rows of the changes of names, the calls, the files. -/
structure CDisk where
  mb : Option Nat
  cv : Value
  kv : Value
  sv : Value
  nam : List Nam
  ks : List Nat
  ss : List Nat
  calls : Nat
  fs : List CFile
def CDisk.wb (d : CDisk) (p : Nat) : List Nat := p :: (d.mb.toList ++ (d.cv.ownBlock.toList ++ (d.kv.ownBlock.toList ++ (d.sv.ownBlock.toList ++ d.fs.flatMap CFile.wb))))
def CDisk.rb (d : CDisk) : List Nat := d.fs.flatMap CFile.rb
/-- All blocks that it leans on. -/
def CDisk.bs (d : CDisk) (p : Nat) : List Nat := d.wb p ++ d.rb

/-- Each name is a file's, and no two names are one file's. -/
structure Named (D : DW) (fs : List CFile) : Prop where
  file : ∀ nm q, fileAt D nm = some q → ∃ f ∈ fs, f.q = q
  one : ∀ a b q, fileAt D a = some q → fileAt D b = some q → a = b

structure DiskK (n : Nat) (w : World) (p : Nat) (d : CDisk) : Prop where
  disk : w.heap[p]? = some (.cells #[.map d.mb, d.cv, d.kv, d.sv, .int .i64 (d.calls : Nat)] 64 (0, 0))
  map : NamesM w d.mb d.nam.length (namesOf d.nam)
  ch : OwnRows w n 83 3 d.cv (d.nam.map namCells)
  ca : OwnRows w n 3 1 d.kv (d.ks.map intCell)
  sy : OwnRows w n 3 1 d.sv (d.ss.map intCell)
  files : ∀ f ∈ d.fs, FileK n w f
  named : Named (namesOf d.nam) d.fs
  nodup : (d.wb p).Nodup
  ro : ∀ b ∈ d.rb, b ∉ d.wb p
  low : ∀ b ∈ d.bs p, n ≤ b ∧ b < w.heap.size

section
variable {n p : Nat} {w w' : World} {d : CDisk} {F : List Nat}
theorem CDisk.wb_file {f : CFile} (hf : f ∈ d.fs) : ∀ b ∈ f.wb, b ∈ d.wb p := by
  intro b hb
  have : b ∈ d.fs.flatMap CFile.wb := List.mem_flatMap.2 ⟨f, hf, hb⟩
  simp [CDisk.wb, this]
theorem CDisk.rb_file {f : CFile} (hf : f ∈ d.fs) : ∀ b ∈ f.rb, b ∈ d.rb := fun _ hb => List.mem_flatMap.2 ⟨f, hf, hb⟩
/-- What is done elsewhere leaves it. -/
theorem DiskK.turns (h : DiskK n w p d) (ht : Turns F w w') (hF : ∀ b ∈ d.bs p, b ∉ F) : DiskK n w' p d := by
  have hw : ∀ b ∈ d.wb p, b ∉ F := fun b hb => hF b (List.mem_append_left _ hb)
  have hp : p < w.heap.size := (Array.getElem?_eq_some_iff.1 h.disk).1
  refine ⟨(ht.block p hp (hw p (by simp [CDisk.wb]))).trans h.disk, h.map.turns ht (fun b hb => hw b (by simp [CDisk.wb, hb])), h.ch.turns ht (fun b hb => hw b (by simp [CDisk.wb, hb])), h.ca.turns ht (fun b hb => hw b (by simp [CDisk.wb, hb])), h.sy.turns ht (fun b hb => hw b (by simp [CDisk.wb, hb])),
    fun f hf => (h.files f hf).turns ht (fun b hb => hw b (CDisk.wb_file hf b hb)) (fun b hb => hF b (List.mem_append_right _ (CDisk.rb_file hf b hb))), h.named, h.nodup, h.ro, fun b hb => ⟨(h.low b hb).1, Nat.lt_of_lt_of_le (h.low b hb).2 ht.size⟩⟩
theorem DiskK.below (h : DiskK n w p d) (hb : Below w.heap.size w w') : DiskK n w' p d := h.turns (F := []) (.of_below hb) (by simp)
theorem DiskK.plt (h : DiskK n w p d) : p < w.heap.size := (Array.getElem?_eq_some_iff.1 h.disk).1
theorem DiskK.c0 (h : DiskK n w p d) : w.cell? ⟨p, 0, none⟩ = some (.map d.mb) := by simp [World.cell?, h.disk]
theorem DiskK.c1 (h : DiskK n w p d) : w.cell? ⟨p, 1, none⟩ = some d.cv := by simp [World.cell?, h.disk]
theorem DiskK.c2 (h : DiskK n w p d) : w.cell? ⟨p, 2, none⟩ = some d.kv := by simp [World.cell?, h.disk]
theorem DiskK.c3 (h : DiskK n w p d) : w.cell? ⟨p, 3, none⟩ = some d.sv := by simp [World.cell?, h.disk]
theorem DiskK.c4 (h : DiskK n w p d) : w.cell? ⟨p, 4, none⟩ = some (.int .i64 (d.calls : Nat)) := by simp [World.cell?, h.disk]
theorem DiskK.fz (h : DiskK n w p d) (i : Nat) : w.frozen? ⟨p, i, none⟩ = false := by simp [World.frozen?, h.disk]
theorem DiskK.nle (h : DiskK n w p d) : n ≤ w.heap.size := by have h1 := h.low p (by simp [CDisk.bs, CDisk.wb]); omega
end
theorem FileK.c0 {n : Nat} {w : World} {f : CFile} (h : FileK n w f) : w.cell? ⟨f.q, 0, none⟩ = some f.cv := by simp [World.cell?, h.file]
theorem FileK.c1 {n : Nat} {w : World} {f : CFile} (h : FileK n w f) : w.cell? ⟨f.q, 1, none⟩ = some f.kv := by simp [World.cell?, h.file]
theorem FileK.c2 {n : Nat} {w : World} {f : CFile} (h : FileK n w f) : w.cell? ⟨f.q, 2, none⟩ = some f.sv := by simp [World.cell?, h.file]
theorem FileK.c3 {n : Nat} {w : World} {f : CFile} (h : FileK n w f) : w.cell? ⟨f.q, 3, none⟩ = some (.int .i64 (f.all.length : Nat)) := by simp [World.cell?, h.file]
theorem FileK.fz {n : Nat} {w : World} {f : CFile} (h : FileK n w f) (i : Nat) : w.frozen? ⟨f.q, i, none⟩ = false := by simp [World.frozen?, h.file]
end Go.Proofs.Ytpkiapjcilapoaa
