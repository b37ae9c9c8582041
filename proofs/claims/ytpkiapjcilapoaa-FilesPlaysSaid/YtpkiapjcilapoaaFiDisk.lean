/-
  The document's own disk: how it lies in memory, and what its calls leave.
-/
import Derived.Test.YtpkiapjcilapoaaFiRef
import Derived.Test.YtpkiapjcilapoaaFiRight
namespace Go.Proofs.Ytpkiapjcilapoaa
open Go.RowKit Go.Sort

/-- The document's own disk at block p: all that was done, how many files were made, how many steps count for nothing. It leans on no block but those of B. -/
structure DiskR (n : Nat) (w : World) (p : Nat) (lv : Value) (L : List FStep) (born base : Nat) (B : List Nat) : Prop where
  disk : w.heap[p]? = some (.cells #[lv, .int .i64 (born : Nat), .int .i64 (base : Nat)] 28 (0, 0))
  own : OwnRows w n 85 4 lv (L.map stCells)
  bytes : ∀ s ∈ L, BytesAt w s.bv s.b
  kinds : Kinds L
  pin : p ∈ B
  lin : ∀ b, lv.ownBlock = some b → b ∈ B
  bin : ∀ s ∈ L, ∀ b, s.bv.ownBlock = some b → b ∈ B
  low : ∀ b ∈ B, n ≤ b ∧ b < w.heap.size
  apart : ∀ s ∈ L, ∀ b, s.bv.ownBlock = some b → b ≠ p ∧ lv.ownBlock ≠ some b

theorem BytesAt.turns {F : List Nat} {w w' : World} {v : Value} {l : List Nat} (h : BytesAt w v l) (ht : Turns F w w') (hF : ∀ k, v.ownBlock = some k → k ∉ F) : BytesAt w' v l :=
  RowAt.bytes (RowAt.turns h.row ht hF) h.byte

section
variable {n p born base : Nat} {w w' : World} {lv : Value} {L : List FStep} {B F : List Nat}

/-- What is done elsewhere leaves it. -/
theorem DiskR.turns (h : DiskR n w p lv L born base B) (ht : Turns F w w') (hF : ∀ b ∈ B, b ∉ F) : DiskR n w' p lv L born base B :=
  ⟨(ht.block p (h.low p h.pin).2 (hF p h.pin)).trans h.disk, h.own.turns ht (fun b hb => hF b (h.lin b hb)), fun s hs => (h.bytes s hs).turns ht (fun b hb => hF b (h.bin s hs b hb)), h.kinds, h.pin, h.lin, h.bin,
    fun b hb => ⟨(h.low b hb).1, Nat.lt_of_lt_of_le (h.low b hb).2 ht.size⟩, h.apart⟩
theorem DiskR.below (h : DiskR n w p lv L born base B) (hb : Below w.heap.size w w') : DiskR n w' p lv L born base B := h.turns (F := []) (.of_below hb) (by simp)

theorem DiskR.c0 (h : DiskR n w p lv L born base B) : w.cell? ⟨p, 0, none⟩ = some lv := by simp [World.cell?, h.disk]
theorem DiskR.c1 (h : DiskR n w p lv L born base B) : w.cell? ⟨p, 1, none⟩ = some (.int .i64 (born : Nat)) := by simp [World.cell?, h.disk]
theorem DiskR.c2 (h : DiskR n w p lv L born base B) : w.cell? ⟨p, 2, none⟩ = some (.int .i64 (base : Nat)) := by simp [World.cell?, h.disk]
theorem DiskR.fz (h : DiskR n w p lv L born base B) (i : Nat) : w.frozen? ⟨p, i, none⟩ = false := by simp [World.frozen?, h.disk]
theorem DiskR.steps (h : DiskR n w p lv L born base B) : StepsAt w lv L := h.own.rows
theorem DiskR.plt (h : DiskR n w p lv L born base B) : p < w.heap.size := (h.low p h.pin).2
theorem DiskR.nle (h : DiskR n w p lv L born base B) : n ≤ w.heap.size := by have h1 := h.low p h.pin; omega
end

theorem st_one {s : FStep} (h : s.bv.oneCell' = true) : ∀ y ∈ [stCells s], ∀ u ∈ y, u.oneCell' = true := by
  intro y hy u hu
  simp at hy
  subst hy
  simp [stCells] at hu
  rcases hu with rfl | rfl | rfl | rfl
  · rfl
  · rfl
  · rfl
  · exact h

/-- A step more. -/
theorem DiskR.put {n p born base : Nat} {w w1 w2 : World} {lv v2 : Value} {L : List FStep} {B : List Nat} {s : FStep} (h : DiskR n w p lv L born base B) (h1 : Turns [] w w1) (hs : BytesAt w1 s.bv s.b) (hnew : ∀ b, s.bv.ownBlock = some b → w.heap.size ≤ b ∧ b < w1.heap.size) (hk : 1 ≤ s.kind ∧ s.kind ≤ 6)
    (ho : OwnRows w2 n 85 4 v2 ((L ++ [s]).map stCells)) (h2 : Turns lv.ownBlock.toList w1 w2) (hw : ∀ b, v2.ownBlock = some b → lv.ownBlock = some b ∨ w1.heap.size ≤ b) :
    ∃ B', DiskR n (w2.setCell ⟨p, 0, none⟩ v2) p v2 (L ++ [s]) born base B' ∧ Turns B w (w2.setCell ⟨p, 0, none⟩ v2) ∧ (∀ b ∈ B', b ∈ B ∨ w.heap.size ≤ b) := by
  have hpw := h.plt
  have hs1 := h1.size
  have hs2 := h2.size
  have hown := h.own
  have hlb : ∀ b, lv.ownBlock = some b → b < w.heap.size := fun b hb => (h.low b (h.lin b hb)).2
  have hpl : lv.ownBlock ≠ some p := by
    intro hp
    rcases hown.1.2 with ⟨rfl, _⟩ | ⟨g, cap, cur, rfl, _, hg, _⟩
    · simp [Value.ownBlock] at hp
    · obtain rfl : g = p := by simpa [Value.ownBlock] using hp
      rw [h.disk] at hg
      simp at hg
  have hp1 : w1.heap[p]? = w.heap[p]? := h1.block p hpw (by simp)
  have hp2 : w2.heap[p]? = w.heap[p]? := (h2.block p (by omega) (by simpa using hpl)).trans hp1
  have ht2 : Turns B w w2 := (Turns.mono h1 (by simp)).trans h2 (fun b hb => .inl (h.lin b (by simpa using hb)))
  have ht3 : Turns B w (w2.setCell ⟨p, 0, none⟩ v2) := ht2.trans' (Turns.set _ _ h.pin)
  have hv2p : v2.ownBlock ≠ some p := by
    intro hv
    rcases hw p hv with h' | h'
    · exact hpl h'
    · omega
  refine ⟨B ++ (v2.ownBlock.toList ++ s.bv.ownBlock.toList), ⟨?_, ?_, ?_, ?_, ?_, ?_, ?_, ?_, ?_⟩, ht3, ?_⟩
  · have h0 : w2.heap[p]? = some (.cells #[lv, .int .i64 (born : Nat), .int .i64 (base : Nat)] 28 (0, 0)) := hp2.trans h.disk
    have := heap_setCell_same w2 p 0 _ _ v2 h0
    simpa using this
  · exact ho.turns (F := [p]) (Turns.set _ _ (by simp)) (fun b hb => by simp; rintro rfl; exact hv2p hb)
  · intro x hx
    rcases List.mem_append.1 hx with hx | hx
    · refine (((h.bytes x hx).turns h1 (by simp)).turns h2 (fun b hb => ?_)).turns (F := [p]) (Turns.set _ _ (by simp)) (fun b hb => ?_)
      · have := (h.apart x hx b hb).2
        simpa using this
      · have := (h.apart x hx b hb).1
        simpa using this
    · simp at hx
      subst hx
      refine (hs.turns h2 (fun b hb => ?_)).turns (F := [p]) (Turns.set _ _ (by simp)) (fun b hb => ?_)
      · have h3 := (hnew b hb).1
        intro hm
        have := hlb b (by simpa using hm)
        omega
      · have h3 := (hnew b hb).1
        simp
        omega
  · intro x hx
    rcases List.mem_append.1 hx with hx | hx
    · exact h.kinds x hx
    · simp at hx; subst hx; exact hk
  · simp [h.pin]
  · intro b hb; simp [hb]
  · intro x hx b hb
    rcases List.mem_append.1 hx with hx | hx
    · simp [h.bin x hx b hb]
    · simp at hx; subst hx; simp [hb]
  · intro b hb
    have hsz : w2.heap.size ≤ (w2.setCell ⟨p, 0, none⟩ v2).heap.size := by simp [World.setCell]
    rcases List.mem_append.1 hb with hb | hb
    · have := h.low b hb
      omega
    · rcases List.mem_append.1 hb with hb | hb
      · have := ho.block b (by simpa using hb)
        omega
      · have := hnew b (by simpa using hb)
        have := h.nle
        omega
  · intro x hx b hb
    rcases List.mem_append.1 hx with hx | hx
    · refine ⟨(h.apart x hx b hb).1, fun hv => ?_⟩
      rcases hw b hv with h' | h'
      · exact (h.apart x hx b hb).2 h'
      · have := (h.low b (h.bin x hx b hb)).2
        omega
    · simp at hx
      subst hx
      have h3 := hnew b hb
      refine ⟨by omega, fun hv => ?_⟩
      rcases hw b hv with h' | h'
      · have := hlb b h'
        omega
      · omega
  · intro b hb
    rcases List.mem_append.1 hb with hb | hb
    · exact .inl hb
    · rcases List.mem_append.1 hb with hb | hb
      · rcases hw b (by simpa using hb) with h' | h'
        · exact .inl (h.lin b h')
        · exact .inr (by omega)
      · exact .inr (hnew b (by simpa using hb)).1
end Go.Proofs.Ytpkiapjcilapoaa
