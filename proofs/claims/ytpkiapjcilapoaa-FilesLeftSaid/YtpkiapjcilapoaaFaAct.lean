/-
  An act of a script, on the program's own disk and on the document's, side by side.
-/
import Derived.Test.YtpkiapjcilapoaaFkOut
import Derived.Test.YtpkiapjcilapoaaFiApp
import Derived.Deep.RegionHeld3
namespace Go.Proofs.Ytpkiapjcilapoaa
open Go.RowKit Go.Sort Go.Maps

def AppendR (nm : ByteArray) (b : List Nat) (L : List FStep) (e : Nat) (L' : List FStep) : Prop :=
  (findF (nowF L) nm = -1 ∧ e = 61 ∧ L' = L) ∨ (∃ f : Nat, findF (nowF L) nm = f ∧ 1048576 < (heldF L f).length + b.length ∧ e = 62 ∧ L' = L) ∨
  (∃ (f : Nat) (bv : Value), findF (nowF L) nm = f ∧ (heldF L f).length + b.length ≤ 1048576 ∧ e = 0 ∧ L' = L ++ [appendStep f bv b])
def ActR (kind : Int) (nm s : ByteArray) (b : List Nat) (L : List FStep) (born : Nat) (e : Nat) (L' : List FStep) (born' : Nat) : Prop :=
  (kind = 1 ∧ (e, L', born') = makeS L born nm) ∨ (kind = 2 ∧ AppendR nm b L e L' ∧ born' = born) ∨ (kind = 3 ∧ (e, L') = syncS L nm ∧ born' = born) ∨ (kind = 4 ∧ (e, L') = renameS L nm s ∧ born' = born) ∨
  (kind = 5 ∧ (e, L') = removeS L nm ∧ born' = born) ∨ (kind = 6 ∧ e = 0 ∧ L' = L ++ [plain 6 0 ByteArray.empty] ∧ born' = born) ∨ (¬ (1 ≤ kind ∧ kind ≤ 6) ∧ e = 0 ∧ L' = L ∧ born' = born)

/-- So many steps at the most, and bytes. -/
structure SizedR (k : Nat) (L : List FStep) (born : Nat) : Prop where
  len : L.length ≤ k
  born : born ≤ k
  held : ∀ f, (heldF L f).length ≤ 1000 * k

theorem heldF_more (L : List FStep) (s : FStep) (f : Nat) : (heldF (L ++ [s]) f).length ≤ (heldF L f).length + s.b.length := by
  rw [heldF_snoc]; split
  · rw [List.length_append]; omega
  · omega
theorem ActR.sized {k : Nat} {kind : Int} {nm s : ByteArray} {b : List Nat} {L L' : List FStep} {born born' e : Nat} (h : ActR kind nm s b L born e L' born') (hb : b.length ≤ 1000) (hs : SizedR k L born) : SizedR (k + 1) L' born' := by
  have h1 := hs.len
  have h2 := hs.born
  have same : SizedR (k + 1) L born := ⟨by omega, by omega, fun f => by have := hs.held f; omega⟩
  have more : ∀ (t : FStep) (bo : Nat), t.b.length ≤ 1000 → bo ≤ born + 1 → SizedR (k + 1) (L ++ [t]) bo := fun t bo ht hbo => ⟨by simp; omega, by omega, fun f => by have := heldF_more L t f; have := hs.held f; omega⟩
  rcases h with ⟨_, h⟩ | ⟨_, h, rfl⟩ | ⟨_, h, rfl⟩ | ⟨_, h, rfl⟩ | ⟨_, h, rfl⟩ | ⟨_, _, rfl, rfl⟩ | ⟨_, _, rfl, rfl⟩
  · unfold makeS at h
    split at h
    · simp at h; obtain ⟨_, rfl, rfl⟩ := h; exact same
    · split at h
      · simp at h; obtain ⟨_, rfl, rfl⟩ := h; exact same
      · split at h
        · simp at h; obtain ⟨_, rfl, rfl⟩ := h; exact same
        · simp at h; obtain ⟨_, rfl, rfl⟩ := h; exact more _ _ (by simp) (by omega)
  · rcases h with ⟨_, _, rfl⟩ | ⟨_, _, _, _, rfl⟩ | ⟨f, bv, _, _, _, rfl⟩
    · exact same
    · exact same
    · exact more _ _ (by simpa [appendStep] using hb) (by omega)
  · unfold syncS at h
    split at h
    · simp at h; obtain ⟨_, rfl⟩ := h; exact same
    · simp at h; obtain ⟨_, rfl⟩ := h; exact more _ _ (by simp) (by omega)
  · unfold renameS at h
    split at h
    · simp at h; obtain ⟨_, rfl⟩ := h; exact same
    · split at h
      · simp at h; obtain ⟨_, rfl⟩ := h; exact same
      · simp at h; obtain ⟨_, rfl⟩ := h; exact more _ _ (by simp) (by omega)
  · unfold removeS at h
    split at h
    · simp at h; obtain ⟨_, rfl⟩ := h; exact same
    · simp at h; obtain ⟨_, rfl⟩ := h; exact more _ _ (by simp) (by omega)
  · exact more _ _ (by simp) (by omega)
  · exact same

/-- Two disks, apart. -/
def Two (n : Nat) (w : World) (p : Nat) (d : CDisk) (pr : Nat) (L : List FStep) (born base : Nat) : Prop := ∃ lv B, DiskK n w p d ∧ DiskR n w pr lv L born base B ∧ ∀ b ∈ d.bs p, b ∉ B

section
variable {n p pr born base : Nat} {w w1 w2 : World} {d d' : CDisk} {L L' : List FStep}
theorem Two.below (h : Two n w p d pr L born base) (hb : Below w.heap.size w w1) : Two n w1 p d pr L born base := by
  obtain ⟨lv, B, h1, h2, h3⟩ := h
  exact ⟨lv, B, h1.below hb, h2.below hb, h3⟩
theorem Two.k (h : Two n w p d pr L born base) : DiskK n w p d := by obtain ⟨lv, B, h1, h2, h3⟩ := h; exact h1
theorem Two.nle (h : Two n w p d pr L born base) : n ≤ w.heap.size := h.k.nle

/-- The one disk has changed, then the other. -/
theorem two_done {lv : Value} {B : List Nat} {born' e : Nat} (hr : DiskR n w pr lv L born base B) (hsep : ∀ b ∈ d.bs p, b ∉ B) (hk : DiskK n w p d) (h1 : DidK n p d d' w w1) (h2 : Did n pr born' base B L' e w1 (.returned (.int .i64 (e : Nat))) w2) :
    Two n w2 p d' pr L' born' base ∧ Below n w w2 := by
  obtain ⟨k1, k2, k3⟩ := h1
  obtain ⟨_, lv', B', r1, r2, r3⟩ := h2
  have hB : ∀ b ∈ B, b < w.heap.size := fun b hb => (hr.low b hb).2
  have hs1 := k2.size
  have hs : ∀ b ∈ d'.bs p, b ∉ B := fun b hb hbB => by
    rcases k3 b hb with e | e
    · exact hsep b e hbB
    · have := hB b hbB; omega
  have hlow : ∀ b ∈ d'.bs p, b < w1.heap.size := fun b hb => (k1.low b hb).2
  refine ⟨⟨lv', B', k1.turns r2 hs, r1, fun b hb hbB => ?_⟩, ?_⟩
  · rcases r3 b hbB with e | e
    · exact hs b hb e
    · have := hlow b hb; omega
  · have t1 : Below n w w1 := k2.below hk.nle (fun b hb => (hk.low b hb).1)
    have t2 : Below n w1 w2 := r2.below (Nat.le_trans hk.nle hs1) (fun b hb => (hr.low b hb).1)
    exact t1.trans t2
theorem two_ref {lv : Value} {B : List Nat} (hr : DiskR n w pr lv L born base B) (hsep : ∀ b ∈ d.bs p, b ∉ B) (h1 : DidK n p d d' w w1) : DiskR n w1 pr lv L born base B :=
  hr.turns h1.2.1 (fun b hb hd => hsep b hd hb)
end

/-- Which blocks have turned, and where both disks lie then. -/
def Wrote (n p pr born' base : Nat) (d d' : CDisk) (L' : List FStep) (B : List Nat) (w w' : World) : Prop :=
  Turns (d.bs p ++ B) w w' ∧ ∃ lv' B', DiskK n w' p d' ∧ DiskR n w' pr lv' L' born' base B' ∧ (∀ b ∈ d'.bs p, b ∉ B') ∧ (∀ b ∈ d'.bs p, b ∈ d.bs p ∨ w.heap.size ≤ b) ∧ ∀ b ∈ B', b ∈ B ∨ w.heap.size ≤ b

/-- What an act leaves. -/
def Acted (n p pr base : Nat) (kind : Int) (nm s : ByteArray) (b : List Nat) (w : World) (d : CDisk) (L : List FStep) (born : Nat) (B : List Nat) : Ending → World → Prop := fun e w' =>
  ∃ (e1 e2 : Nat) (d' : CDisk) (L' : List FStep) (born' : Nat), e = .returned (.tuple #[.int .i64 (e1 : Nat), .int .i64 (e2 : Nat)]) ∧ Two n w' p d' pr L' born' base ∧ Below n w w' ∧ Wrote n p pr born' base d d' L' B w w' ∧ ActK w.heap.size kind nm s b d e1 d' ∧ ActR kind nm s b L born e2 L' born'

/-- A script's act, as it is handed on. -/
def opV (kind : Int) (nm s : ByteArray) (bv : Value) (at_ names : Int) (kv : Value) (torn : Int) : Value := .agg #[.int .i64 kind, .string nm, .string s, bv, .int .i64 at_, .int .i64 names, kv, .int .i64 torn]

theorem act_fin {n p pr born born' base : Nat} {w W w2 w3 : World} {d d' : CDisk} {L L' : List FStep} {lv lv3 : Value} {B B3 : List Nat} (hk : DiskK n w p d) (hr : DiskR n w pr lv L born base B) (hsep : ∀ b ∈ d.bs p, b ∉ B) (hbW : Below w.heap.size w W) (hd : DidK n p d d' W w2)
    (r1 : DiskR n w3 pr lv3 L' born' base B3) (r2 : Turns B w2 w3) (r3 : ∀ b ∈ B3, b ∈ B ∨ w2.heap.size ≤ b) : Two n w3 p d' pr L' born' base ∧ Below n w w3 ∧ Wrote n p pr born' base d d' L' B w w3 := by
  obtain ⟨t1, t2⟩ := two_done (e := 0) hr hsep hk ((DidK.below hk hbW).trans hd) ⟨rfl, lv3, B3, r1, r2, r3⟩
  refine ⟨t1, t2, ?_⟩
  have h1 : Turns (d.bs p ++ B) w w2 := ((DidK.below hk hbW).trans hd).2.1.mono (fun b hb => .inl (List.mem_append_left _ hb))
  refine ⟨h1.trans r2 (fun b hb => .inl (List.mem_append_right _ hb)), lv3, B3, ?_⟩
  have hB : ∀ b ∈ B, b < w.heap.size := fun b hb => (hr.low b hb).2
  obtain ⟨k1, k2, k3⟩ := (DidK.below hk hbW).trans hd
  have hs1 := k2.size
  have hs : ∀ b ∈ d'.bs p, b ∉ B := fun b hb hbB => by
    rcases k3 b hb with e | e
    · exact hsep b e hbB
    · have := hB b hbB; omega
  have hlow : ∀ b ∈ d'.bs p, b < w2.heap.size := fun b hb => (k1.low b hb).2
  refine ⟨k1.turns r2 hs, r1, fun b hb hbB => ?_, k3, fun b hb => ?_⟩
  · rcases r3 b hbB with e | e
    · exact hs b hb e
    · have := hlow b hb; omega
  · rcases r3 b hb with e | e
    · exact .inl e
    · exact .inr (by omega)
theorem MakeK.mono {N M : Nat} {nm : ByteArray} {d d' : CDisk} {e : Nat} (h : MakeK N nm d e d') (hM : M ≤ N) : MakeK M nm d e d' := by
  rcases h with h | ⟨h1, h2, h3, h4, q, mb, cv, kv, hq, h5⟩
  · exact .inl h
  · exact .inr ⟨h1, h2, h3, h4, q, mb, cv, kv, by omega, h5⟩

theorem refAppend_out {n p born base : Nat} {w : World} {lv : Value} {L : List FStep} {B : List Nat} (h : DiskR n w p lv L born base B) (hl : L.length ≤ 10000) (hH : ∀ f, (heldF L f).length ≤ 1048576) (nm : ByteArray) (x : Value) (b : List Nat) (hx : BytesAt w x b) :
    Calls Try.prog 36 #[.pointer (some ⟨p, 0, none⟩), .string nm, x] w fun e' w' => ∃ e2 L', Did n p born base B L' e2 w e' w' ∧ AppendR nm b L e2 L' := by
  rcases findF_ways (nowF L) nm with hf | ⟨f, hf⟩
  · exact (refAppend_no h hl nm x b hx (.inl ⟨hf, rfl⟩)).mono (fun e' w' hd => ⟨61, L, hd, .inl ⟨hf, rfl, rfl⟩⟩)
  · rcases Nat.lt_or_ge 1048576 ((heldF L f).length + b.length) with hb | hb
    · exact (refAppend_no h hl nm x b hx (.inr ⟨f, hf, hH f, hb, rfl⟩)).mono (fun e' w' hd => ⟨62, L, hd, .inr (.inl ⟨f, hf, hb, rfl, rfl⟩)⟩)
    · exact (refAppend_ok h hl nm x b hx hf hb).mono (fun e' w' ⟨bv, hd⟩ => ⟨0, _, hd, .inr (.inr ⟨f, bv, hf, hb, rfl, rfl⟩)⟩)

set_option maxRecDepth 20000 in
set_option maxHeartbeats 4000000 in
theorem act_1 {n p pr born base : Nat} {w : World} {d : CDisk} {L : List FStep} {lv : Value} {B : List Nat} (hk : DiskK n w p d) (hr : DiskR n w pr lv L born base B) (hsep : ∀ b ∈ d.bs p, b ∉ B) (hs : Small d) (hl : L.length ≤ 10000) (hbo : born ≤ 10000) (hH : ∀ f, (heldF L f).length ≤ 1048576) (nm s : ByteArray) (bv kv : Value) (b : List Nat) (at_ names torn : Int) (hz : nm.size ≤ 9223372036854775807) (hzs : s.size ≤ 9223372036854775807) (hv : BytesAt w bv b) (hvn : b ≠ [] → ∀ x, bv.ownBlock = some x → x < n) (hbl : b.length ≤ 1000) :
    Calls Try.prog 12 #[opV 1 nm s bv at_ names kv torn, .pointer (some ⟨p, 0, none⟩), .pointer (some ⟨pr, 0, none⟩)] w (Acted n p pr base 1 nm s b w d L born B) := by
  have hzm : nm.size ≤ maxLen := by unfold maxLen; omega
  have _ := hbo
  have _ := hbl
  have _ := hH
  have _ := hzs
  have _ := hzm
  have hvp : b ≠ [] → bv.ownBlock ≠ some p := fun hb e => by have := hvn hb p e; have := (hk.low p (by simp [CDisk.bs, CDisk.wb])).1; omega
  have _ := hvp
  have hvd : ∀ (W W' : World) (d' : CDisk), Below w.heap.size w W → DidK n p d d' W W' → BytesAt W' bv b := fun W W' d' hW hd => (hv.below hW).turns0 hd.2.1 (fun hb x hx hh => by have := hvn hb x hx; have := (hk.low x hh).1; omega)
  have hvd := Lib.hid hvd
  have cM := Lib.hid (fun W (hW : Below w.heap.size w W) => make_out (hk.below hW) hs nm hz)
  have cR := Lib.hid (fun W (hW : DiskR n W pr lv L born base B) => refMake_any hW hl hbo nm hz)
  have hX := Lib.hid (fun (W W' : World) (d' : CDisk) (hW : Below w.heap.size w W) (hd : DidK n p d d' W W') => two_ref (hr.below hW) hsep hd)
  have hkH := Lib.hid hk
  have hrH := Lib.hid hr
  have hsH := Lib.hid hsep
  clear hk hr hsep hv hvn hvp
  unfold opV
  obtain ⟨W1, hW1⟩ : ∃ W1, w.alloc (.cells #[.int .i64 1, .string nm, .string s, bv, .int .i64 at_, .int .i64 names, kv, .int .i64 torn] 35) = W1 := ⟨_, rfl⟩
  have hbx : W1.heap[w.heap.size]? = some (.cells #[.int .i64 1, .string nm, .string s, bv, .int .i64 at_, .int .i64 names, kv, .int .i64 torn] 35 (0, 0)) := by rw [← hW1]; exact heap_alloc_new w _
  have hb1 : Below w.heap.size w W1 := by rw [← hW1]; exact below_box1 _ _
  have x0 := cell_at (i := 0) hbx rfl
  have x1 := cell_at (i := 1) hbx rfl
  have x2 := cell_at (i := 2) hbx rfl
  have x3 := cell_at (i := 3) hbx rfl
  have hxl : w.heap.size < W1.heap.size := (Array.getElem?_eq_some_iff.1 hbx).1
  have hbxn : w.heap.size ∉ d.bs p := fun hh => by have := (hkH.out.low _ hh).2; omega
  have hbxB : w.heap.size ∉ B := fun hh => by have := (hrH.out.low _ hh).2; omega
  have hb1d : Below w.heap.size w W1.drew := Below.drew hb1
  have hb1 := Lib.hid hb1
  have hb1d := Lib.hid hb1d
  have hbx := Lib.hid hbx
  go_enter Try.func12, Try.ntmps12
  go_wp2
  go_region_held3 (fun w' => w'.cell? ⟨w.heap.size, 1, none⟩ = some (.string nm)) (first | go_keep | assumption) (first
    | (go_at_call 21; refine (cM.out _ (by first | exact hb1.out | exact hb1d.out)).mono ?_; rintro e' w2 ⟨e1, d', rfl, hd, ha⟩; have y1 : w2.cell? ⟨w.heap.size, 1, none⟩ = some (.string nm) := (hd.2.1.cell (a := ⟨w.heap.size, 1, none⟩) hxl hbxn).trans x1)
    | (go_at_call 35; refine (cR.out _ (hX.out _ _ _ (by first | exact hb1.out | exact hb1d.out) hd)).mono ?_; rintro e' w3 ⟨rfl, lv3, B3, r1, r2, r3⟩; have z1 : w3.cell? ⟨w.heap.size, 1, none⟩ = some (.string nm) := (r2.cell (a := ⟨w.heap.size, 1, none⟩) (Nat.lt_of_lt_of_le hxl hd.2.1.size) hbxB).trans y1))
  go_wp2
  go_ret2
  obtain ⟨t1, t2, t0⟩ := act_fin hkH.out hrH.out hsH.out (by first | exact hb1.out | exact hb1d.out) hd r1 r2 r3
  exact ⟨e1, _, d', _, _, rfl, t1, t2, t0, .inl ⟨rfl, ha.mono (by first | exact hb1.out.size | exact hb1d.out.size)⟩, .inl ⟨rfl, rfl⟩⟩

set_option maxRecDepth 20000 in
set_option maxHeartbeats 4000000 in
theorem act_2 {n p pr born base : Nat} {w : World} {d : CDisk} {L : List FStep} {lv : Value} {B : List Nat} (hk : DiskK n w p d) (hr : DiskR n w pr lv L born base B) (hsep : ∀ b ∈ d.bs p, b ∉ B) (hs : Small d) (hl : L.length ≤ 10000) (hbo : born ≤ 10000) (hH : ∀ f, (heldF L f).length ≤ 1048576) (nm s : ByteArray) (bv kv : Value) (b : List Nat) (at_ names torn : Int) (hz : nm.size ≤ 9223372036854775807) (hzs : s.size ≤ 9223372036854775807) (hv : BytesAt w bv b) (hvn : b ≠ [] → ∀ x, bv.ownBlock = some x → x < n) (hbl : b.length ≤ 1000) :
    Calls Try.prog 12 #[opV 2 nm s bv at_ names kv torn, .pointer (some ⟨p, 0, none⟩), .pointer (some ⟨pr, 0, none⟩)] w (Acted n p pr base 2 nm s b w d L born B) := by
  have hzm : nm.size ≤ maxLen := by unfold maxLen; omega
  have _ := hbo
  have _ := hbl
  have _ := hH
  have _ := hzs
  have _ := hzm
  have hvp : b ≠ [] → bv.ownBlock ≠ some p := fun hb e => by have := hvn hb p e; have := (hk.low p (by simp [CDisk.bs, CDisk.wb])).1; omega
  have _ := hvp
  have hvd : ∀ (W W' : World) (d' : CDisk), Below w.heap.size w W → DidK n p d d' W W' → BytesAt W' bv b := fun W W' d' hW hd => (hv.below hW).turns0 hd.2.1 (fun hb x hx hh => by have := hvn hb x hx; have := (hk.low x hh).1; omega)
  have hvd := Lib.hid hvd
  have cM := Lib.hid (fun W (hW : Below w.heap.size w W) => append_out (hk.below hW) hs nm hzm bv b (hv.below hW) hvp (by omega))
  have cR := Lib.hid (fun W (hW : DiskR n W pr lv L born base B) (hx : BytesAt W bv b) => refAppend_out hW hl hH nm bv b hx)
  have hX := Lib.hid (fun (W W' : World) (d' : CDisk) (hW : Below w.heap.size w W) (hd : DidK n p d d' W W') => two_ref (hr.below hW) hsep hd)
  have hkH := Lib.hid hk
  have hrH := Lib.hid hr
  have hsH := Lib.hid hsep
  clear hk hr hsep hv hvn hvp
  unfold opV
  obtain ⟨W1, hW1⟩ : ∃ W1, w.alloc (.cells #[.int .i64 2, .string nm, .string s, bv, .int .i64 at_, .int .i64 names, kv, .int .i64 torn] 35) = W1 := ⟨_, rfl⟩
  have hbx : W1.heap[w.heap.size]? = some (.cells #[.int .i64 2, .string nm, .string s, bv, .int .i64 at_, .int .i64 names, kv, .int .i64 torn] 35 (0, 0)) := by rw [← hW1]; exact heap_alloc_new w _
  have hb1 : Below w.heap.size w W1 := by rw [← hW1]; exact below_box1 _ _
  have x0 := cell_at (i := 0) hbx rfl
  have x1 := cell_at (i := 1) hbx rfl
  have x2 := cell_at (i := 2) hbx rfl
  have x3 := cell_at (i := 3) hbx rfl
  have hxl : w.heap.size < W1.heap.size := (Array.getElem?_eq_some_iff.1 hbx).1
  have hbxn : w.heap.size ∉ d.bs p := fun hh => by have := (hkH.out.low _ hh).2; omega
  have hbxB : w.heap.size ∉ B := fun hh => by have := (hrH.out.low _ hh).2; omega
  have hb1d : Below w.heap.size w W1.drew := Below.drew hb1
  have hb1 := Lib.hid hb1
  have hb1d := Lib.hid hb1d
  have hbx := Lib.hid hbx
  go_enter Try.func12, Try.ntmps12
  go_wp2
  go_region_held3 (fun w' => w'.cell? ⟨w.heap.size, 1, none⟩ = some (.string nm) ∧ w'.cell? ⟨w.heap.size, 3, none⟩ = some (bv)) (first | go_keep | assumption) (first
    | (go_at_call 22; refine (cM.out _ (by first | exact hb1.out | exact hb1d.out)).mono ?_; rintro e' w2 ⟨e1, d', rfl, hd, ha⟩; have y1 : w2.cell? ⟨w.heap.size, 1, none⟩ = some (.string nm) := (hd.2.1.cell (a := ⟨w.heap.size, 1, none⟩) hxl hbxn).trans x1; have y3 : w2.cell? ⟨w.heap.size, 3, none⟩ = some (bv) := (hd.2.1.cell (a := ⟨w.heap.size, 3, none⟩) hxl hbxn).trans x3)
    | (go_at_call 36; refine (cR.out _ (hX.out _ _ _ (by first | exact hb1.out | exact hb1d.out) hd) (hvd.out _ _ _ (by first | exact hb1.out | exact hb1d.out) hd)).mono ?_; rintro e' w3 ⟨e2, L2, ⟨rfl, lv3, B3, r1, r2, r3⟩, har⟩; have z1 : w3.cell? ⟨w.heap.size, 1, none⟩ = some (.string nm) := (r2.cell (a := ⟨w.heap.size, 1, none⟩) (Nat.lt_of_lt_of_le hxl hd.2.1.size) hbxB).trans y1; have z3 : w3.cell? ⟨w.heap.size, 3, none⟩ = some (bv) := (r2.cell (a := ⟨w.heap.size, 3, none⟩) (Nat.lt_of_lt_of_le hxl hd.2.1.size) hbxB).trans y3))
  go_wp2
  go_ret2
  obtain ⟨t1, t2, t0⟩ := act_fin hkH.out hrH.out hsH.out (by first | exact hb1.out | exact hb1d.out) hd r1 r2 r3
  exact ⟨e1, _, d', _, _, rfl, t1, t2, t0, .inr (.inl ⟨rfl, ha⟩), .inr (.inl ⟨rfl, har, rfl⟩)⟩

set_option maxRecDepth 20000 in
set_option maxHeartbeats 4000000 in
theorem act_3 {n p pr born base : Nat} {w : World} {d : CDisk} {L : List FStep} {lv : Value} {B : List Nat} (hk : DiskK n w p d) (hr : DiskR n w pr lv L born base B) (hsep : ∀ b ∈ d.bs p, b ∉ B) (hs : Small d) (hl : L.length ≤ 10000) (hbo : born ≤ 10000) (hH : ∀ f, (heldF L f).length ≤ 1048576) (nm s : ByteArray) (bv kv : Value) (b : List Nat) (at_ names torn : Int) (hz : nm.size ≤ 9223372036854775807) (hzs : s.size ≤ 9223372036854775807) (hv : BytesAt w bv b) (hvn : b ≠ [] → ∀ x, bv.ownBlock = some x → x < n) (hbl : b.length ≤ 1000) :
    Calls Try.prog 12 #[opV 3 nm s bv at_ names kv torn, .pointer (some ⟨p, 0, none⟩), .pointer (some ⟨pr, 0, none⟩)] w (Acted n p pr base 3 nm s b w d L born B) := by
  have hzm : nm.size ≤ maxLen := by unfold maxLen; omega
  have _ := hbo
  have _ := hbl
  have _ := hH
  have _ := hzs
  have _ := hzm
  have hvp : b ≠ [] → bv.ownBlock ≠ some p := fun hb e => by have := hvn hb p e; have := (hk.low p (by simp [CDisk.bs, CDisk.wb])).1; omega
  have _ := hvp
  have hvd : ∀ (W W' : World) (d' : CDisk), Below w.heap.size w W → DidK n p d d' W W' → BytesAt W' bv b := fun W W' d' hW hd => (hv.below hW).turns0 hd.2.1 (fun hb x hx hh => by have := hvn hb x hx; have := (hk.low x hh).1; omega)
  have hvd := Lib.hid hvd
  have cM := Lib.hid (fun W (hW : Below w.heap.size w W) => sync_out (hk.below hW) hs nm hzm)
  have cR := Lib.hid (fun W (hW : DiskR n W pr lv L born base B) => refSync_any hW hl nm)
  have hX := Lib.hid (fun (W W' : World) (d' : CDisk) (hW : Below w.heap.size w W) (hd : DidK n p d d' W W') => two_ref (hr.below hW) hsep hd)
  have hkH := Lib.hid hk
  have hrH := Lib.hid hr
  have hsH := Lib.hid hsep
  clear hk hr hsep hv hvn hvp
  unfold opV
  obtain ⟨W1, hW1⟩ : ∃ W1, w.alloc (.cells #[.int .i64 3, .string nm, .string s, bv, .int .i64 at_, .int .i64 names, kv, .int .i64 torn] 35) = W1 := ⟨_, rfl⟩
  have hbx : W1.heap[w.heap.size]? = some (.cells #[.int .i64 3, .string nm, .string s, bv, .int .i64 at_, .int .i64 names, kv, .int .i64 torn] 35 (0, 0)) := by rw [← hW1]; exact heap_alloc_new w _
  have hb1 : Below w.heap.size w W1 := by rw [← hW1]; exact below_box1 _ _
  have x0 := cell_at (i := 0) hbx rfl
  have x1 := cell_at (i := 1) hbx rfl
  have x2 := cell_at (i := 2) hbx rfl
  have x3 := cell_at (i := 3) hbx rfl
  have hxl : w.heap.size < W1.heap.size := (Array.getElem?_eq_some_iff.1 hbx).1
  have hbxn : w.heap.size ∉ d.bs p := fun hh => by have := (hkH.out.low _ hh).2; omega
  have hbxB : w.heap.size ∉ B := fun hh => by have := (hrH.out.low _ hh).2; omega
  have hb1d : Below w.heap.size w W1.drew := Below.drew hb1
  have hb1 := Lib.hid hb1
  have hb1d := Lib.hid hb1d
  have hbx := Lib.hid hbx
  go_enter Try.func12, Try.ntmps12
  go_wp2
  go_region_held3 (fun w' => w'.cell? ⟨w.heap.size, 1, none⟩ = some (.string nm)) (first | go_keep | assumption) (first
    | (go_at_call 15; refine (cM.out _ (by first | exact hb1.out | exact hb1d.out)).mono ?_; rintro e' w2 ⟨e1, d', rfl, hd, ha⟩; have y1 : w2.cell? ⟨w.heap.size, 1, none⟩ = some (.string nm) := (hd.2.1.cell (a := ⟨w.heap.size, 1, none⟩) hxl hbxn).trans x1)
    | (go_at_call 37; refine (cR.out _ (hX.out _ _ _ (by first | exact hb1.out | exact hb1d.out) hd)).mono ?_; rintro e' w3 ⟨rfl, lv3, B3, r1, r2, r3⟩; have z1 : w3.cell? ⟨w.heap.size, 1, none⟩ = some (.string nm) := (r2.cell (a := ⟨w.heap.size, 1, none⟩) (Nat.lt_of_lt_of_le hxl hd.2.1.size) hbxB).trans y1))
  go_wp2
  go_ret2
  obtain ⟨t1, t2, t0⟩ := act_fin hkH.out hrH.out hsH.out (by first | exact hb1.out | exact hb1d.out) hd r1 r2 r3
  exact ⟨e1, _, d', _, _, rfl, t1, t2, t0, .inr (.inr (.inl ⟨rfl, ha⟩)), .inr (.inr (.inl ⟨rfl, rfl, rfl⟩))⟩

set_option maxRecDepth 20000 in
set_option maxHeartbeats 4000000 in
theorem act_4 {n p pr born base : Nat} {w : World} {d : CDisk} {L : List FStep} {lv : Value} {B : List Nat} (hk : DiskK n w p d) (hr : DiskR n w pr lv L born base B) (hsep : ∀ b ∈ d.bs p, b ∉ B) (hs : Small d) (hl : L.length ≤ 10000) (hbo : born ≤ 10000) (hH : ∀ f, (heldF L f).length ≤ 1048576) (nm s : ByteArray) (bv kv : Value) (b : List Nat) (at_ names torn : Int) (hz : nm.size ≤ 9223372036854775807) (hzs : s.size ≤ 9223372036854775807) (hv : BytesAt w bv b) (hvn : b ≠ [] → ∀ x, bv.ownBlock = some x → x < n) (hbl : b.length ≤ 1000) :
    Calls Try.prog 12 #[opV 4 nm s bv at_ names kv torn, .pointer (some ⟨p, 0, none⟩), .pointer (some ⟨pr, 0, none⟩)] w (Acted n p pr base 4 nm s b w d L born B) := by
  have hzm : nm.size ≤ maxLen := by unfold maxLen; omega
  have _ := hbo
  have _ := hbl
  have _ := hH
  have _ := hzs
  have _ := hzm
  have hvp : b ≠ [] → bv.ownBlock ≠ some p := fun hb e => by have := hvn hb p e; have := (hk.low p (by simp [CDisk.bs, CDisk.wb])).1; omega
  have _ := hvp
  have hvd : ∀ (W W' : World) (d' : CDisk), Below w.heap.size w W → DidK n p d d' W W' → BytesAt W' bv b := fun W W' d' hW hd => (hv.below hW).turns0 hd.2.1 (fun hb x hx hh => by have := hvn hb x hx; have := (hk.low x hh).1; omega)
  have hvd := Lib.hid hvd
  have cM := Lib.hid (fun W (hW : Below w.heap.size w W) => rename_out (hk.below hW) hs nm s hzm hzs)
  have cR := Lib.hid (fun W (hW : DiskR n W pr lv L born base B) => refRename_any hW hl nm s hzs)
  have hX := Lib.hid (fun (W W' : World) (d' : CDisk) (hW : Below w.heap.size w W) (hd : DidK n p d d' W W') => two_ref (hr.below hW) hsep hd)
  have hkH := Lib.hid hk
  have hrH := Lib.hid hr
  have hsH := Lib.hid hsep
  clear hk hr hsep hv hvn hvp
  unfold opV
  obtain ⟨W1, hW1⟩ : ∃ W1, w.alloc (.cells #[.int .i64 4, .string nm, .string s, bv, .int .i64 at_, .int .i64 names, kv, .int .i64 torn] 35) = W1 := ⟨_, rfl⟩
  have hbx : W1.heap[w.heap.size]? = some (.cells #[.int .i64 4, .string nm, .string s, bv, .int .i64 at_, .int .i64 names, kv, .int .i64 torn] 35 (0, 0)) := by rw [← hW1]; exact heap_alloc_new w _
  have hb1 : Below w.heap.size w W1 := by rw [← hW1]; exact below_box1 _ _
  have x0 := cell_at (i := 0) hbx rfl
  have x1 := cell_at (i := 1) hbx rfl
  have x2 := cell_at (i := 2) hbx rfl
  have x3 := cell_at (i := 3) hbx rfl
  have hxl : w.heap.size < W1.heap.size := (Array.getElem?_eq_some_iff.1 hbx).1
  have hbxn : w.heap.size ∉ d.bs p := fun hh => by have := (hkH.out.low _ hh).2; omega
  have hbxB : w.heap.size ∉ B := fun hh => by have := (hrH.out.low _ hh).2; omega
  have hb1d : Below w.heap.size w W1.drew := Below.drew hb1
  have hb1 := Lib.hid hb1
  have hb1d := Lib.hid hb1d
  have hbx := Lib.hid hbx
  go_enter Try.func12, Try.ntmps12
  go_wp2
  go_region_held3 (fun w' => w'.cell? ⟨w.heap.size, 1, none⟩ = some (.string nm) ∧ w'.cell? ⟨w.heap.size, 2, none⟩ = some (.string s)) (first | go_keep | assumption) (first
    | (go_at_call 38; refine (cM.out _ (by first | exact hb1.out | exact hb1d.out)).mono ?_; rintro e' w2 ⟨e1, d', rfl, hd, ha⟩; have y1 : w2.cell? ⟨w.heap.size, 1, none⟩ = some (.string nm) := (hd.2.1.cell (a := ⟨w.heap.size, 1, none⟩) hxl hbxn).trans x1; have y2 : w2.cell? ⟨w.heap.size, 2, none⟩ = some (.string s) := (hd.2.1.cell (a := ⟨w.heap.size, 2, none⟩) hxl hbxn).trans x2)
    | (go_at_call 39; refine (cR.out _ (hX.out _ _ _ (by first | exact hb1.out | exact hb1d.out) hd)).mono ?_; rintro e' w3 ⟨rfl, lv3, B3, r1, r2, r3⟩; have z1 : w3.cell? ⟨w.heap.size, 1, none⟩ = some (.string nm) := (r2.cell (a := ⟨w.heap.size, 1, none⟩) (Nat.lt_of_lt_of_le hxl hd.2.1.size) hbxB).trans y1; have z2 : w3.cell? ⟨w.heap.size, 2, none⟩ = some (.string s) := (r2.cell (a := ⟨w.heap.size, 2, none⟩) (Nat.lt_of_lt_of_le hxl hd.2.1.size) hbxB).trans y2))
  go_wp2
  go_ret2
  obtain ⟨t1, t2, t0⟩ := act_fin hkH.out hrH.out hsH.out (by first | exact hb1.out | exact hb1d.out) hd r1 r2 r3
  exact ⟨e1, _, d', _, _, rfl, t1, t2, t0, .inr (.inr (.inr (.inl ⟨rfl, ha⟩))), .inr (.inr (.inr (.inl ⟨rfl, rfl, rfl⟩)))⟩

set_option maxRecDepth 20000 in
set_option maxHeartbeats 4000000 in
theorem act_5 {n p pr born base : Nat} {w : World} {d : CDisk} {L : List FStep} {lv : Value} {B : List Nat} (hk : DiskK n w p d) (hr : DiskR n w pr lv L born base B) (hsep : ∀ b ∈ d.bs p, b ∉ B) (hs : Small d) (hl : L.length ≤ 10000) (hbo : born ≤ 10000) (hH : ∀ f, (heldF L f).length ≤ 1048576) (nm s : ByteArray) (bv kv : Value) (b : List Nat) (at_ names torn : Int) (hz : nm.size ≤ 9223372036854775807) (hzs : s.size ≤ 9223372036854775807) (hv : BytesAt w bv b) (hvn : b ≠ [] → ∀ x, bv.ownBlock = some x → x < n) (hbl : b.length ≤ 1000) :
    Calls Try.prog 12 #[opV 5 nm s bv at_ names kv torn, .pointer (some ⟨p, 0, none⟩), .pointer (some ⟨pr, 0, none⟩)] w (Acted n p pr base 5 nm s b w d L born B) := by
  have hzm : nm.size ≤ maxLen := by unfold maxLen; omega
  have _ := hbo
  have _ := hbl
  have _ := hH
  have _ := hzs
  have _ := hzm
  have hvp : b ≠ [] → bv.ownBlock ≠ some p := fun hb e => by have := hvn hb p e; have := (hk.low p (by simp [CDisk.bs, CDisk.wb])).1; omega
  have _ := hvp
  have hvd : ∀ (W W' : World) (d' : CDisk), Below w.heap.size w W → DidK n p d d' W W' → BytesAt W' bv b := fun W W' d' hW hd => (hv.below hW).turns0 hd.2.1 (fun hb x hx hh => by have := hvn hb x hx; have := (hk.low x hh).1; omega)
  have hvd := Lib.hid hvd
  have cM := Lib.hid (fun W (hW : Below w.heap.size w W) => remove_out (hk.below hW) hs nm hzm)
  have cR := Lib.hid (fun W (hW : DiskR n W pr lv L born base B) => refRemove_any hW hl nm)
  have hX := Lib.hid (fun (W W' : World) (d' : CDisk) (hW : Below w.heap.size w W) (hd : DidK n p d d' W W') => two_ref (hr.below hW) hsep hd)
  have hkH := Lib.hid hk
  have hrH := Lib.hid hr
  have hsH := Lib.hid hsep
  clear hk hr hsep hv hvn hvp
  unfold opV
  obtain ⟨W1, hW1⟩ : ∃ W1, w.alloc (.cells #[.int .i64 5, .string nm, .string s, bv, .int .i64 at_, .int .i64 names, kv, .int .i64 torn] 35) = W1 := ⟨_, rfl⟩
  have hbx : W1.heap[w.heap.size]? = some (.cells #[.int .i64 5, .string nm, .string s, bv, .int .i64 at_, .int .i64 names, kv, .int .i64 torn] 35 (0, 0)) := by rw [← hW1]; exact heap_alloc_new w _
  have hb1 : Below w.heap.size w W1 := by rw [← hW1]; exact below_box1 _ _
  have x0 := cell_at (i := 0) hbx rfl
  have x1 := cell_at (i := 1) hbx rfl
  have x2 := cell_at (i := 2) hbx rfl
  have x3 := cell_at (i := 3) hbx rfl
  have hxl : w.heap.size < W1.heap.size := (Array.getElem?_eq_some_iff.1 hbx).1
  have hbxn : w.heap.size ∉ d.bs p := fun hh => by have := (hkH.out.low _ hh).2; omega
  have hbxB : w.heap.size ∉ B := fun hh => by have := (hrH.out.low _ hh).2; omega
  have hb1d : Below w.heap.size w W1.drew := Below.drew hb1
  have hb1 := Lib.hid hb1
  have hb1d := Lib.hid hb1d
  have hbx := Lib.hid hbx
  go_enter Try.func12, Try.ntmps12
  go_wp2
  go_region_held3 (fun w' => w'.cell? ⟨w.heap.size, 1, none⟩ = some (.string nm)) (first | go_keep | assumption) (first
    | (go_at_call 40; refine (cM.out _ (by first | exact hb1.out | exact hb1d.out)).mono ?_; rintro e' w2 ⟨e1, d', rfl, hd, ha⟩; have y1 : w2.cell? ⟨w.heap.size, 1, none⟩ = some (.string nm) := (hd.2.1.cell (a := ⟨w.heap.size, 1, none⟩) hxl hbxn).trans x1)
    | (go_at_call 41; refine (cR.out _ (hX.out _ _ _ (by first | exact hb1.out | exact hb1d.out) hd)).mono ?_; rintro e' w3 ⟨rfl, lv3, B3, r1, r2, r3⟩; have z1 : w3.cell? ⟨w.heap.size, 1, none⟩ = some (.string nm) := (r2.cell (a := ⟨w.heap.size, 1, none⟩) (Nat.lt_of_lt_of_le hxl hd.2.1.size) hbxB).trans y1))
  go_wp2
  go_ret2
  obtain ⟨t1, t2, t0⟩ := act_fin hkH.out hrH.out hsH.out (by first | exact hb1.out | exact hb1d.out) hd r1 r2 r3
  exact ⟨e1, _, d', _, _, rfl, t1, t2, t0, .inr (.inr (.inr (.inr (.inl ⟨rfl, ha⟩)))), .inr (.inr (.inr (.inr (.inl ⟨rfl, rfl, rfl⟩))))⟩

set_option maxRecDepth 20000 in
set_option maxHeartbeats 4000000 in
theorem act_6 {n p pr born base : Nat} {w : World} {d : CDisk} {L : List FStep} {lv : Value} {B : List Nat} (hk : DiskK n w p d) (hr : DiskR n w pr lv L born base B) (hsep : ∀ b ∈ d.bs p, b ∉ B) (hs : Small d) (hl : L.length ≤ 10000) (hbo : born ≤ 10000) (hH : ∀ f, (heldF L f).length ≤ 1048576) (nm s : ByteArray) (bv kv : Value) (b : List Nat) (at_ names torn : Int) (hz : nm.size ≤ 9223372036854775807) (hzs : s.size ≤ 9223372036854775807) (hv : BytesAt w bv b) (hvn : b ≠ [] → ∀ x, bv.ownBlock = some x → x < n) (hbl : b.length ≤ 1000) :
    Calls Try.prog 12 #[opV 6 nm s bv at_ names kv torn, .pointer (some ⟨p, 0, none⟩), .pointer (some ⟨pr, 0, none⟩)] w (Acted n p pr base 6 nm s b w d L born B) := by
  have hzm : nm.size ≤ maxLen := by unfold maxLen; omega
  have _ := hbo
  have _ := hbl
  have _ := hH
  have _ := hzs
  have _ := hzm
  have hvp : b ≠ [] → bv.ownBlock ≠ some p := fun hb e => by have := hvn hb p e; have := (hk.low p (by simp [CDisk.bs, CDisk.wb])).1; omega
  have _ := hvp
  have hvd : ∀ (W W' : World) (d' : CDisk), Below w.heap.size w W → DidK n p d d' W W' → BytesAt W' bv b := fun W W' d' hW hd => (hv.below hW).turns0 hd.2.1 (fun hb x hx hh => by have := hvn hb x hx; have := (hk.low x hh).1; omega)
  have hvd := Lib.hid hvd
  have cM := Lib.hid (fun W (hW : Below w.heap.size w W) => syncNames_out (hk.below hW) hs)
  have cR := Lib.hid (fun W (hW : DiskR n W pr lv L born base B) => refSyncNames_any hW hl)
  have hX := Lib.hid (fun (W W' : World) (d' : CDisk) (hW : Below w.heap.size w W) (hd : DidK n p d d' W W') => two_ref (hr.below hW) hsep hd)
  have hkH := Lib.hid hk
  have hrH := Lib.hid hr
  have hsH := Lib.hid hsep
  clear hk hr hsep hv hvn hvp
  unfold opV
  obtain ⟨W1, hW1⟩ : ∃ W1, w.alloc (.cells #[.int .i64 6, .string nm, .string s, bv, .int .i64 at_, .int .i64 names, kv, .int .i64 torn] 35) = W1 := ⟨_, rfl⟩
  have hbx : W1.heap[w.heap.size]? = some (.cells #[.int .i64 6, .string nm, .string s, bv, .int .i64 at_, .int .i64 names, kv, .int .i64 torn] 35 (0, 0)) := by rw [← hW1]; exact heap_alloc_new w _
  have hb1 : Below w.heap.size w W1 := by rw [← hW1]; exact below_box1 _ _
  have x0 := cell_at (i := 0) hbx rfl
  have x1 := cell_at (i := 1) hbx rfl
  have x2 := cell_at (i := 2) hbx rfl
  have x3 := cell_at (i := 3) hbx rfl
  have hxl : w.heap.size < W1.heap.size := (Array.getElem?_eq_some_iff.1 hbx).1
  have hbxn : w.heap.size ∉ d.bs p := fun hh => by have := (hkH.out.low _ hh).2; omega
  have hbxB : w.heap.size ∉ B := fun hh => by have := (hrH.out.low _ hh).2; omega
  have hb1d : Below w.heap.size w W1.drew := Below.drew hb1
  have hb1 := Lib.hid hb1
  have hb1d := Lib.hid hb1d
  have hbx := Lib.hid hbx
  go_enter Try.func12, Try.ntmps12
  go_wp2_with (first
    | (go_at_call 17; refine (cM.out _ (by first | exact hb1.out | exact hb1d.out)).mono ?_; rintro e' w2 ⟨e1, d', rfl, hd, ha⟩)
    | (go_at_call 42; refine (cR.out _ (hX.out _ _ _ (by first | exact hb1.out | exact hb1d.out) hd)).mono ?_; rintro e' w3 ⟨rfl, lv3, B3, r1, r2, r3⟩))
  go_ret2
  obtain ⟨t1, t2, t0⟩ := act_fin hkH.out hrH.out hsH.out (by first | exact hb1.out | exact hb1d.out) hd r1 r2 r3
  exact ⟨e1, _, d', _, _, rfl, t1, t2, t0, .inr (.inr (.inr (.inr (.inr (.inl ⟨rfl, ha⟩))))), .inr (.inr (.inr (.inr (.inr (.inl ⟨rfl, rfl, rfl, rfl⟩)))))⟩

set_option maxRecDepth 20000 in
set_option maxHeartbeats 4000000 in
theorem act_else {n p pr born base : Nat} {w : World} {d : CDisk} {L : List FStep} {lv : Value} {B : List Nat} (hk : DiskK n w p d) (hr : DiskR n w pr lv L born base B) (hsep : ∀ b ∈ d.bs p, b ∉ B) (kind : Int) (hkind : ¬ (1 ≤ kind ∧ kind ≤ 6)) (nm s : ByteArray) (bv kv : Value) (b : List Nat) (at_ names torn : Int) :
    Calls Try.prog 12 #[opV kind nm s bv at_ names kv torn, .pointer (some ⟨p, 0, none⟩), .pointer (some ⟨pr, 0, none⟩)] w (Acted n p pr base kind nm s b w d L born B) := by
  have q1 : (kind == 1) = false := beq_eq_false_iff_ne.2 (by omega)
  have q2 : (kind == 2) = false := beq_eq_false_iff_ne.2 (by omega)
  have q3 : (kind == 3) = false := beq_eq_false_iff_ne.2 (by omega)
  have q4 : (kind == 4) = false := beq_eq_false_iff_ne.2 (by omega)
  have q5 : (kind == 5) = false := beq_eq_false_iff_ne.2 (by omega)
  have q6 : (kind == 6) = false := beq_eq_false_iff_ne.2 (by omega)
  have h : Two n w p d pr L born base := ⟨lv, B, hk, hr, hsep⟩
  have h3 : ∀ w', Below w.heap.size w w' → Wrote n p pr born base d d L B w w' := fun w' hb => ⟨(Turns.of_below (F := []) hb).mono (by simp), lv, B, hk.below hb, hr.below hb, hsep, fun b hb => .inl hb, fun b hb => .inl hb⟩
  have h := Lib.hid h
  have h3 := Lib.hid h3
  have hkind := Lib.hid hkind
  clear hk hr hsep
  unfold opV
  go_enter Try.func12, Try.ntmps12
  go_wp2
  go_ret2
  exact ⟨0, 0, d, L, born, rfl, h.out.below (below_box1 _ _), (below_box1 _ _).mono h.out.nle, h3.out _ (below_box1 _ _), .inr (.inr (.inr (.inr (.inr (.inr ⟨hkind.out, rfl, rfl⟩))))), .inr (.inr (.inr (.inr (.inr (.inr ⟨hkind.out, rfl, rfl, rfl⟩)))))⟩

theorem act_any {n p pr born base : Nat} {w : World} {d : CDisk} {L : List FStep} {lv : Value} {B : List Nat} (hk : DiskK n w p d) (hr : DiskR n w pr lv L born base B) (hsep : ∀ b ∈ d.bs p, b ∉ B) (hs : Small d) (hl : L.length ≤ 10000) (hbo : born ≤ 10000) (hH : ∀ f, (heldF L f).length ≤ 1048576) (kind : Int) (nm s : ByteArray) (bv kv : Value) (b : List Nat) (at_ names torn : Int) (hz : nm.size ≤ 9223372036854775807) (hzs : s.size ≤ 9223372036854775807) (hv : BytesAt w bv b) (hvn : b ≠ [] → ∀ x, bv.ownBlock = some x → x < n) (hbl : b.length ≤ 1000) :
    Calls Try.prog 12 #[opV kind nm s bv at_ names kv torn, .pointer (some ⟨p, 0, none⟩), .pointer (some ⟨pr, 0, none⟩)] w (Acted n p pr base kind nm s b w d L born B) := by
  by_cases k0 : 1 ≤ kind ∧ kind ≤ 6
  · have hc : kind = 1 ∨ kind = 2 ∨ kind = 3 ∨ kind = 4 ∨ kind = 5 ∨ kind = 6 := by omega
    rcases hc with rfl | rfl | rfl | rfl | rfl | rfl
    · exact act_1 hk hr hsep hs hl hbo hH nm s bv kv b at_ names torn hz hzs hv hvn hbl
    · exact act_2 hk hr hsep hs hl hbo hH nm s bv kv b at_ names torn hz hzs hv hvn hbl
    · exact act_3 hk hr hsep hs hl hbo hH nm s bv kv b at_ names torn hz hzs hv hvn hbl
    · exact act_4 hk hr hsep hs hl hbo hH nm s bv kv b at_ names torn hz hzs hv hvn hbl
    · exact act_5 hk hr hsep hs hl hbo hH nm s bv kv b at_ names torn hz hzs hv hvn hbl
    · exact act_6 hk hr hsep hs hl hbo hH nm s bv kv b at_ names torn hz hzs hv hvn hbl
  · exact act_else hk hr hsep kind k0 nm s bv kv b at_ names torn
end Go.Proofs.Ytpkiapjcilapoaa
