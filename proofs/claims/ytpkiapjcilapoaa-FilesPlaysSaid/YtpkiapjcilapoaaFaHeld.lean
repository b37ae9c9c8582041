/-
  What is held of each name: its bytes, as they were read. No program in here.
-/
import Derived.Test.YtpkiapjcilapoaaFaKept
import Derived.Test.YtpkiapjcilapoaaFaCalm
namespace Go.Proofs.Ytpkiapjcilapoaa
open Go.RowKit Go.Sort Go.Maps

/-- A name, where its bytes lie, and they. -/
structure Sure where
  nm : ByteArray
  v : Value
  b : List Nat
def Sure.cells (x : Sure) : List Value := [.string x.nm, x.v]
def heldB (vh : Value) (E : List Sure) : List Nat := vh.ownBlock.toList ++ E.flatMap (fun x => x.v.ownBlock.toList)

/-- The row of what is held; X: the blocks of others. -/
structure HeldOk (w : World) (base : Nat) (X : List Nat) (vh : Value) (E : List Sure) : Prop where
  row : OwnRows w base 51 2 vh (E.map Sure.cells)
  bytes : ∀ x ∈ E, BytesAt w x.v x.b
  low : ∀ b ∈ heldB vh E, base ≤ b ∧ b < w.heap.size
  apart : ∀ b ∈ heldB vh E, b ∉ X

theorem HeldOk.none_ (w : World) (base : Nat) (X : List Nat) : HeldOk w base X (.slice none 0 0) [] := ⟨OwnRows.none_ _ _ _ _, by simp, by simp [heldB, Value.ownBlock], by simp [heldB, Value.ownBlock]⟩
theorem HeldOk.turns {w w' : World} {base : Nat} {X X' : List Nat} {vh : Value} {E : List Sure} (h : HeldOk w base X vh E) {F : List Nat} (ht : Turns F w w') (hF : ∀ b ∈ F, b ∈ X ∨ w.heap.size ≤ b) (hX : ∀ b ∈ X', b ∈ X ∨ w.heap.size ≤ b) : HeldOk w' base X' vh E := by
  have hn : ∀ b ∈ heldB vh E, b ∉ F := fun b hb hf => by
    rcases hF b hf with e | e
    · exact h.apart b hb e
    · have := (h.low b hb).2; omega
  refine ⟨h.row.turns ht (fun b hb => hn b (by simp [heldB, hb])), fun x hx => (h.bytes x hx).turns ht (fun b hb => hn b (List.mem_append_right _ (List.mem_flatMap.2 ⟨x, hx, by simp [hb]⟩))), fun b hb => ⟨(h.low b hb).1, Nat.lt_of_lt_of_le (h.low b hb).2 ht.size⟩, fun b hb hx => ?_⟩
  rcases hX b hx with e | e
  · exact h.apart b hb e
  · have := (h.low b hb).2; omega
theorem HeldOk.below {w w' : World} {base : Nat} {X : List Nat} {vh : Value} {E : List Sure} (h : HeldOk w base X vh E) (hb : Below w.heap.size w w') : HeldOk w' base X vh E := h.turns (F := []) (Turns.of_below hb) (by simp) (fun b hb => .inl hb)
/-- One more is held. -/
theorem HeldOk.more {w w' : World} {base N : Nat} {X : List Nat} {vh vh' : Value} {E : List Sure} (h : HeldOk w base X vh E) {x : Sure} (hx : BytesAt w x.v x.b) (hxb : ∀ b, x.v.ownBlock = some b → base ≤ b ∧ b < w.heap.size ∧ b ∉ X) (hxa : ∀ b, x.v.ownBlock = some b → b ∉ vh.ownBlock.toList)
    (hea : ∀ y ∈ E, ∀ b, y.v.ownBlock = some b → b ∉ vh.ownBlock.toList) (hNX : ∀ b ∈ X, b < N)
    (hr : OwnRows w' base 51 2 vh' (E.map Sure.cells ++ [x.cells])) (ht : Turns vh.ownBlock.toList w w') (hv : ∀ b, vh'.ownBlock = some b → vh.ownBlock = some b ∨ N ≤ b) : HeldOk w' base X vh' (E ++ [x]) := by
  refine ⟨by rw [List.map_append]; exact hr, fun y hy => ?_, fun b hb => ?_, fun b hb hX => ?_⟩
  · rcases List.mem_append.1 hy with hy | hy
    · exact (h.bytes y hy).turns ht (hea y hy)
    · simp at hy; subst hy; exact hx.turns ht hxa
  · rcases List.mem_append.1 hb with hb | hb
    · exact hr.block b (by simpa using hb)
    · rw [List.flatMap_append] at hb
      rcases List.mem_append.1 hb with hb | hb
      · have := h.low b (List.mem_append_right _ hb)
        exact ⟨this.1, Nat.lt_of_lt_of_le this.2 ht.size⟩
      · have := hxb b (by simpa using hb)
        exact ⟨this.1, Nat.lt_of_lt_of_le this.2.1 ht.size⟩
  · rcases List.mem_append.1 hb with hb | hb
    · rcases hv b (by simpa using hb) with e | e
      · exact h.apart b (by simp [heldB, e]) hX
      · have := hNX b hX; omega
    · rw [List.flatMap_append] at hb
      rcases List.mem_append.1 hb with hb | hb
      · exact h.apart b (List.mem_append_right _ hb) hX
      · exact (hxb b (by simpa using hb)).2.2 hX

theorem SyncK.holds {nm : ByteArray} {d d' : CDisk} {e : Nat} (h : SyncK nm d e d') {x : ByteArray} {b : List Nat} (hx : Holds_ d x b) : Holds_ d' x b := by
  rcases h with ⟨rfl, _⟩ | ⟨_, A, f, B, sv, hf, hAB, rfl⟩
  · exact hx
  · exact hx.put hAB rfl (.inr rfl)

/-- So many names are synced, and their bytes held. -/
structure SyncRead (n p : Nat) (d : CDisk) (names : List (List UInt8)) (w5 wr : World) (i : Nat) (d2 : CDisk) (B : List Nat) (vh : Value) (E : List Sure) : Prop where
  syn : Synced n p d names w5 wr i d2
  held : HeldOk wr w5.heap.size (d2.bs p ++ B) vh E
  sep : ∀ x ∈ E, ∀ b, x.v.ownBlock = some b → b ∉ vh.ownBlock.toList
  names : E.map (fun x => x.nm) = (names.take i).map (fun x => (⟨x.toArray⟩ : ByteArray))
  holds : ∀ x ∈ E, Holds_ d2 x.nm x.b
  nr : NamRight d2

theorem Synced.later {n p : Nat} {d : CDisk} {names : List (List UInt8)} {w5 wr w' : World} {i : Nat} {d2 : CDisk} (h : Synced n p d names w5 wr i d2) {F : List Nat} (ht : Turns F wr w') (h1 : ∀ b ∈ F, b ∉ d2.bs p) (h2 : ∀ b ∈ F, w5.heap.size ≤ b) : Synced n p d names w5 w' i d2 :=
  ⟨⟨h.did.1.turns ht (fun b hb hF => h1 b hF hb), h.did.2.1.trans ht (fun b hb => .inr (h2 b hb)), h.did.2.2⟩, h.nam, h.ord, h.right, h.sized, h.calm⟩

theorem SyncRead.step {n p : Nat} {d : CDisk} {names : List (List UInt8)} {w5 wr w6 w7 w8 : World} {i : Nat} {d2 d3 : CDisk} {B : List Nat} {vh vh' v7 : Value} {E : List Sure} {x : List UInt8} {b7 : List Nat} {e : Nat}
    (h : SyncRead n p d names w5 wr i d2 B vh E) (hi : i ≤ 60) (hx : names[i]? = some x) (hq : ∃ q, findK d ⟨x.toArray⟩ = some q) (hB : ∀ b ∈ B, b < w5.heap.size) (h5 : w5.heap.size ≤ wr.heap.size)
    (hd : DidK n p d2 d3 wr w6) (hk : SyncK ⟨x.toArray⟩ d2 e d3) (hb7 : Below w6.heap.size w6 w7) (ho : Own w7 w6.heap.size v7 b7) (hby : BytesAt w7 v7 b7) (hh : Holds_ d3 ⟨x.toArray⟩ b7)
    (hr : OwnRows w8 w5.heap.size 51 2 vh' (E.map Sure.cells ++ [[.string ⟨x.toArray⟩, v7]])) (ht : Turns vh.ownBlock.toList w7 w8) (hv : ∀ b, vh'.ownBlock = some b → vh.ownBlock = some b ∨ w7.heap.size ≤ b) :
    SyncRead n p d names w5 w8 (i + 1) d3 B vh' (E ++ [⟨⟨x.toArray⟩, v7, b7⟩]) := by
  have s6 : Synced n p d names w5 w6 (i + 1) d3 := h.syn.step hi hx hq hd hk
  have hs6 := hd.2.1.size
  have hs7 := hb7.size
  have hX3 : ∀ b ∈ d3.bs p ++ B, b ∈ d2.bs p ++ B ∨ wr.heap.size ≤ b := fun b hb => by
    rcases List.mem_append.1 hb with hb | hb
    · rcases hd.2.2 b hb with e | e
      · exact .inl (List.mem_append_left _ e)
      · exact .inr e
    · exact .inl (List.mem_append_right _ hb)
  have g6 : HeldOk w6 w5.heap.size (d3.bs p ++ B) vh E := h.held.turns hd.2.1 (fun b hb => .inl (List.mem_append_left _ hb)) hX3
  have g7 := g6.below hb7
  have hlt6 : ∀ b ∈ d3.bs p ++ B, b < w6.heap.size := fun b hb => by
    rcases List.mem_append.1 hb with hb | hb
    · exact (hd.1.low b hb).2
    · have := hB b hb; omega
  have hv7 : ∀ b, v7.ownBlock = some b → w6.heap.size ≤ b ∧ b < w7.heap.size := fun b hb => World.ownsRow.lt ho b hb
  have hvh : ∀ b ∈ vh.ownBlock.toList, b < w6.heap.size := fun b hb => (g6.low b (List.mem_append_left _ hb)).2
  have g8 : HeldOk w8 w5.heap.size (d3.bs p ++ B) vh' (E ++ [⟨⟨x.toArray⟩, v7, b7⟩]) := by
    refine g7.more (N := w7.heap.size) (x := ⟨⟨x.toArray⟩, v7, b7⟩) hby (fun b hb => ?_) (fun b hb hm => ?_) h.sep (fun b hb => by have := hlt6 b hb; omega) hr ht hv
    · have := hv7 b hb
      exact ⟨by omega, this.2, fun hX => by have := hlt6 b hX; omega⟩
    · have := hv7 b hb; have := hvh b hm; omega
  refine ⟨?_, g8, fun y hy b hb hm => ?_, ?_, fun y hy => ?_, (hk.act (N := 0)).namRight h.nr⟩
  · refine (s6.later (F := []) (Turns.of_below hb7) (by simp) (by simp)).later ht (fun b hb hX => ?_) (fun b hb => ?_)
    · exact g7.apart b (List.mem_append_left _ hb) (List.mem_append_left _ hX)
    · exact (g7.low b (List.mem_append_left _ hb)).1
  · have hb2 : vh'.ownBlock = some b := by simpa using hm
    rcases List.mem_append.1 hy with hy | hy
    · rcases hv b hb2 with e2 | e2
      · exact h.sep y hy b hb (by simp [e2])
      · have := (g7.low b (List.mem_append_right _ (List.mem_flatMap.2 ⟨y, hy, by simp [hb]⟩))).2; omega
    · simp at hy; subst hy
      have h7 := hv7 b hb
      rcases hv b hb2 with e2 | e2
      · have := hvh b (by simp [e2]); omega
      · omega
  · rw [List.map_append, h.names, take_snoc hx, List.map_append]; rfl
  · rcases List.mem_append.1 hy with hy | hy
    · exact hk.holds (h.holds y hy)
    · simp at hy; subst hy; exact hh

theorem SyncRead.len {n p : Nat} {d : CDisk} {names : List (List UInt8)} {w5 wr : World} {i : Nat} {d2 : CDisk} {B : List Nat} {vh : Value} {E : List Sure} (h : SyncRead n p d names w5 wr i d2 B vh E) : E.length ≤ names.length := by
  have := congrArg List.length h.names
  rw [List.length_map, List.length_map, List.length_take] at this
  omega
theorem Synced.heldAt {n p : Nat} {d : CDisk} {names : List (List UInt8)} {w5 w6 : World} {i : Nat} {d3 : CDisk} (h : Synced n p d names w5 w6 (i + 1) d3) {x : List UInt8} (hx : names[i]? = some x) : ∃ b, Holds_ d3 ⟨x.toArray⟩ b := by
  obtain ⟨f, hf, h1, _⟩ := h.calm x (by rw [take_snoc hx]; simp)
  exact ⟨f.all, f, hf, h1, rfl⟩
theorem bytes_oneCell {w : World} {v : Value} {l : List Nat} (h : BytesAt w v l) : v.oneCell' = true := by
  obtain ⟨A, c, rfl, _⟩ := h.row
  rfl

/-- Where an element of a row lies, in whatever world the row is the same. -/
theorem RowAt.place {w : World} {v : Value} {xs : List Value} (h : RowAt w v xs) {P : Program} {t e : TypeId} (ht : P.underlying t = some (.slice e)) (hs : ∀ W, (sizeOf e).run P W = .ok 1 W) {k : Nat} {x : Value} (hk : xs[k]? = some x) :
    ∃ ad, (∀ W, (Instr.indexAt t v (.int .i64 (k : Int))).run P W = .ok (.pointer (some ad)) W) ∧ ∀ W', RowAt W' v xs → W'.cell? ad = some x := by
  have hlt := (List.getElem?_eq_some_iff.1 hk).1
  obtain ⟨ad, h1, _, _⟩ := h.index ht hs (k := k) hlt
  refine ⟨ad, h1, fun W' hW => ?_⟩
  obtain ⟨ad', h1', h2', _⟩ := hW.index ht hs (k := k) hlt
  have := (h1 w).symm.trans (h1' w)
  injection this with e
  injection e with e
  injection e with e
  rw [e, h2', hk]

/-- All is durable, and held. -/
structure Stood2 (n p pr : Nat) (d : CDisk) (w5 w6 : World) (d3 : CDisk) (vh : Value) (E : List Sure) (lv : Value) (L : List FStep) (born : Nat) (B : List Nat) : Prop where
  std : Stood n p d w5 w6 d3
  held : HeldOk w6 w5.heap.size (d3.bs p ++ B) vh E
  holds : ∀ x ∈ E, Holds_ d3 x.nm x.b
  nr : NamRight d3
  ref : DiskR n w6 pr lv L born 0 B
  sep : ∀ b ∈ d3.bs p, b ∉ B
  sized : Sized 130 d3

theorem SyncNamesK.holds {d d' : CDisk} {e : Nat} (h : SyncNamesK d e d') {x : ByteArray} {b : List Nat} (hx : Holds_ d x b) : Holds_ d' x b := by
  obtain ⟨_, sv, rfl⟩ := h; exact hx
theorem SyncRead.done {n p pr : Nat} {d : CDisk} {names : List (List UInt8)} {w5 wr w6 : World} {i : Nat} {d2 d3 : CDisk} {B : List Nat} {vh : Value} {E : List Sure} {lv : Value} {L : List FStep} {born e : Nat} (h : SyncRead n p d names w5 wr i d2 B vh E) (hi : i ≤ 60) (hn : names.length ≤ i) (hnm : namesL (namesOf d.nam) = names)
    (hr : DiskR n w5 pr lv L born 0 B) (hsep : ∀ b ∈ d.bs p, b ∉ B) (hd : DidK n p d2 d3 wr w6) (hk : SyncNamesK d2 e d3) : Stood2 n p pr d w5 w6 d3 vh E lv L born B := by
  have hS := h.syn.done hi hn hnm hd hk
  have hlt : ∀ b ∈ B, b < w5.heap.size := fun b hb => (hr.low b hb).2
  refine ⟨hS, h.held.turns hd.2.1 (fun b hb => .inl (List.mem_append_left _ hb)) (fun b hb => ?_), fun x hx => hk.holds (h.holds x hx), (hk.act (N := 0)).namRight h.nr, hr.turns hS.did.2.1 (fun b hb hd => hsep b hd hb), fun b hb hbB => ?_, ((hk.act (N := 0)).sized h.syn.sized).mono (by omega)⟩
  · rcases List.mem_append.1 hb with hb | hb
    · rcases hd.2.2 b hb with e | e
      · exact .inl (List.mem_append_left _ e)
      · exact .inr e
    · exact .inl (List.mem_append_right _ hb)
  · rcases hS.did.2.2 b hb with e | e
    · exact hsep b e hbB
    · have := hlt b hbB; omega

/-- More acts, none of which takes a name away. -/
structure GoingB (n p pr : Nat) (W1 : World) (d0 : CDisk) (base : Nat) (vh : Value) (E : List Sure) (k : Nat) (d : CDisk) (wr : World) (lv : Value) (L : List FStep) (born : Nat) (B : List Nat) : Prop where
  disk : DiskK n wr p d
  ref : DiskR n wr pr lv L born 0 B
  sep : ∀ b ∈ d.bs p, b ∉ B
  bel : Below n W1 wr
  sized : Sized (130 + k) d
  sizedR : SizedR (60 + k) L born
  right : Righted d
  ord : Ordered d
  nr : NamRight d
  grown : Grown d0 d
  held : HeldOk wr base (d.bs p ++ B) vh E
def Going (n p pr : Nat) (W1 : World) (d0 : CDisk) (base : Nat) (vh : Value) (E : List Sure) (k : Nat) (d : CDisk) (wr : World) : Prop := ∃ lv L born B, GoingB n p pr W1 d0 base vh E k d wr lv L born B

section
variable {n p pr : Nat} {W1 : World} {d0 : CDisk} {base : Nat} {vh : Value} {E : List Sure} {k : Nat} {d : CDisk} {wr w2 w4 : World}
theorem GoingB.below {lv : Value} {L : List FStep} {born : Nat} {B : List Nat} (h : GoingB n p pr W1 d0 base vh E k d wr lv L born B) (hb : Below wr.heap.size wr w2) : GoingB n p pr W1 d0 base vh E k d w2 lv L born B :=
  ⟨h.disk.below hb, h.ref.below hb, h.sep, h.bel.trans (hb.mono h.disk.nle), h.sized, h.sizedR, h.right, h.ord, h.nr, h.grown, h.held.below hb⟩
theorem Going.same (h : Going n p pr W1 d0 base vh E k d wr) (hb : Below wr.heap.size wr w2) : Going n p pr W1 d0 base vh E (k + 1) d w2 := by
  obtain ⟨lv, L, born, B, h⟩ := h
  have h := h.below hb
  exact ⟨lv, L, born, B, h.disk, h.ref, h.sep, h.bel, h.sized.mono (by omega), ⟨by have := h.sizedR.len; omega, by have := h.sizedR.born; omega, fun f => by have := h.sizedR.held f; omega⟩, h.right, h.ord, h.nr, h.grown, h.held⟩
theorem GoingB.acted {lv : Value} {L L' : List FStep} {born born' : Nat} {B : List Nat} (h : GoingB n p pr W1 d0 base vh E k d w2 lv L born B) (hR0 : Righted d0) (hk : k ≤ 100) {N e1 e2 : Nat} {kind : Int} {nm s : ByteArray} {b : List Nat} {d' : CDisk} (hb : b.length ≤ 1000) (hkind : kind ≠ 4 ∧ kind ≠ 5)
    (t2 : Below n w2 w4) (t0 : Wrote n p pr born' 0 d d' L' B w2 w4) (t3 : ActK N kind nm s b d e1 d') (t4 : ActR kind nm s b L born e2 L' born') : Going n p pr W1 d0 base vh E (k + 1) d' w4 := by
  obtain ⟨hT, lv', B', g1, g2, g3, g4, g5⟩ := t0
  refine ⟨lv', L', born', B', g1, g2, g3, h.bel.trans t2, t3.sized h.sized, t4.sized hb h.sizedR, t3.righted h.right, t3.ordered h.disk.named h.right h.ord (by have := h.sized.calls; omega), t3.namRight h.nr, h.grown.step hR0 t3 hkind, h.held.turns hT (fun b hb => .inl hb) (fun b hb => ?_)⟩
  rcases List.mem_append.1 hb with hb | hb
  · rcases g4 b hb with e | e
    · exact .inl (List.mem_append_left _ e)
    · exact .inr e
  · rcases g5 b hb with e | e
    · exact .inl (List.mem_append_right _ e)
    · exact .inr e
end
end Go.Proofs.Ytpkiapjcilapoaa
