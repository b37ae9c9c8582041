/-
  Slices of bytes: the call's own, an argument or a cut, as letters or written out; their text, appends, cuts.
-/
import Derived.Test.YtpkiapjcilapoaaRow
import Derived.Maps.AppendAt
import Derived.Laws.BytesArg
namespace Go.Proofs.Ytpkiapjcilapoaa
open Go.RowKit Go.Sort

theorem elemY : Elem Try.prog 30 5 (.int .u8 0) 1 := ⟨Try.underlying30, by kernel_rfl, rfl, by omega, fun W => by kernel_rfl⟩

/-- A byte's value; the values of bytes. -/
def bval (b : Nat) : Value := .int .u8 (b : Int)
def bvals (l : List Nat) : List Value := l.map bval
theorem bvals_length (l : List Nat) : (bvals l).length = l.length := by simp [bvals]
theorem bvals_append (l m : List Nat) : bvals (l ++ m) = bvals l ++ bvals m := by simp [bvals]
theorem bvals_one (l : List Nat) : ∀ u ∈ bvals l, u.oneCell' = true := by
  intro u hu
  obtain ⟨b, _, rfl⟩ := List.mem_map.1 hu
  rfl

theorem info_u8 : (Try.prog.info? 5).map (fun i => (i.zero, i.size, i.bytes)) = some (some (.int .u8 0), 1, 1) := by kernel_rfl

/-- A slice of bytes, the call's own: it holds l. -/
def Own (w : World) (base : Nat) (v : Value) (l : List Nat) : Prop := w.ownsRow base 5 1 v l.length (bvals l)

theorem own_none (w : World) (base : Nat) : Own w base (.slice none 0 0) [] := ⟨by simp [bvals], .inl ⟨rfl, by simp⟩⟩

/-- One cell more: a byte in a block of its own, appended. -/
theorem cell_box (w : World) (b : Nat) {e : TypeId} : ∀ (j : Nat) (u : Value), [bval b][j]? = some u → (w.alloc (.cells #[.int .u8 (b : Int)] e)).cell? ((⟨w.heap.size, 0, none⟩ : Addr).add j) = some u := by
  intro j u h
  match j with
  | 0 =>
    simp at h
    subst h
    show (w.alloc _).cell? ⟨w.heap.size, 0, none⟩ = _
    go_simp
    rfl
  | j + 1 => simp at h

theorem one_box (b : Nat) : ∀ u : Value, u ∈ [bval b] → u.oneCell' = true := by
  intro u h
  simp at h
  subst h
  rfl

/-- After an append of one byte. -/
theorem own_more {w wr w1 : World} {o : Obj} {v v' : Value} {l : List Nat} {b : Nat} (hown : Own wr w.heap.size v l) (hbel : Below w.heap.size w wr)
    (h1 : w1.ownsRow w.heap.size 5 1 v' (l.length + 1) (bvals l ++ [bval b])) (hg : (wr.alloc o).grownBy w1 v.ownBlock) : Own w1 w.heap.size v' (l ++ [b]) ∧ Below w.heap.size w w1 := by
  refine ⟨by simpa [Own, bvals] using h1, ?_⟩
  refine (then_box hbel o).grown hg (by have := hbel.size; simp; omega) ?_
  intro k hk
  exact (World.ownsRow.lt hown k hk).1

theorem hide {p : Prop} (h : p) : Hid p := h

theorem wf_i64 {n : Int} (h : (Lit.int .i64 n).wf = true) : -9223372036854775808 ≤ n ∧ n ≤ 9223372036854775807 := by
  have h1 : IntKind.i64.min = -9223372036854775808 := rfl
  have h2 : IntKind.i64.max = 9223372036854775807 := rfl
  simp only [Lit.wf, Bool.and_eq_true, decide_eq_true_eq] at h
  omega
theorem wf_u64 {n : Int} (h : (Lit.int .u64 n).wf = true) : 0 ≤ n ∧ n ≤ 18446744073709551615 := by
  have h1 : IntKind.u64.min = 0 := rfl
  have h2 : IntKind.u64.max = 18446744073709551615 := rfl
  simp only [Lit.wf, Bool.and_eq_true, decide_eq_true_eq] at h
  omega
theorem wf_u8 {n : Int} (h : (Lit.int .u8 n).wf = true) : 0 ≤ n ∧ n < 256 := by
  have h1 : IntKind.u8.min = 0 := rfl
  have h2 : IntKind.u8.max = 255 := rfl
  simp only [Lit.wf, Bool.and_eq_true, decide_eq_true_eq] at h
  omega

theorem add_at (b off i : Nat) : (⟨b, off, none⟩ : Addr).add i = ⟨b, off + i, none⟩ := by unfold Addr.add; split <;> simp_all

/-- A slice of bytes: it holds l. -/
def BytesAt (w : World) (v : Value) (l : List Nat) : Prop :=
  ∃ A c, v = .slice A l.length c ∧ l.length ≤ c ∧ c ≤ maxLen ∧ (∀ x ∈ l, x < 256) ∧
    (0 < l.length → ∃ b off, A = some ⟨b, off, none⟩ ∧ b < w.heap.size ∧ ∀ i, i < l.length → w.cell? ⟨b, off + i, none⟩ = some (.int .u8 (l.getD i 0 : Nat))) ∧ (A = none → c = 0)

theorem BytesAt.below {w w' : World} {v : Value} {l : List Nat} (h : BytesAt w v l) (hb : Below w.heap.size w w') : BytesAt w' v l := by
  obtain ⟨A, c, h1, h2, h3, h4, h5, h6⟩ := h
  refine ⟨A, c, h1, h2, h3, h4, fun hl => ?_, h6⟩
  obtain ⟨b, off, h6, h7, h8⟩ := h5 hl
  exact ⟨b, off, h6, Nat.lt_of_lt_of_le h7 hb.size, fun i hi => (hb.cell (p := ⟨b, off + i, none⟩) h7).trans (h8 i hi)⟩

/-- Further below: what was made since lies above. -/
theorem BytesAt.later {w W w' : World} {v : Value} {l : List Nat} (h : BytesAt w v l) (hb : Below W.heap.size W w') (hw : Below w.heap.size w W) : BytesAt w' v l := (h.below hw).below hb

theorem Own.bytes {w : World} {base : Nat} {v : Value} {l : List Nat} (h : Own w base v l) (hby : ∀ x ∈ l, x < 256) : BytesAt w v l := by
  rcases h.2 with ⟨rfl, hl⟩ | ⟨g, cap, cur, rfl, hb, hg, hnc, hcm, _⟩
  · have : l = [] := by cases l with | nil => rfl | cons => simp at hl
    subst this
    exact ⟨none, 0, rfl, Nat.le_refl _, Nat.zero_le _, by simp, fun hh => absurd hh (by simp), fun _ => rfl⟩
  · refine ⟨some ⟨g, 0, none⟩, cap, rfl, hnc, hcm, hby, fun hl => ⟨g, 0, rfl, (Array.getElem?_eq_some_iff.1 hg).1, fun i hi => ?_⟩, fun hh => by cases hh⟩
    have := World.ownsRow.cells h (g := g) rfl i (bval (l.getD i 0)) (by simp [bvals, List.getD, List.getElem?_eq_getElem hi])
    rwa [add_at] at this

theorem info_u8_size : Try.prog.cellsOf 5 = 1 := by kernel_rfl

/-- The text of bytes. -/
def strB (l : List Nat) : ByteArray := ⟨(l.map UInt8.ofNat).toArray⟩

theorem strB_inj {l m : List Nat} (hl : ∀ x ∈ l, x < 256) (hm : ∀ x ∈ m, x < 256) (h : strB l = strB m) : l = m := by
  have h1 : l.map UInt8.ofNat = m.map UInt8.ofNat := by
    have := congrArg (fun b => b.data.toList) h
    simpa [strB] using this
  have h2 := congrArg (List.map UInt8.toNat) h1
  rw [List.map_map, List.map_map] at h2
  have key : ∀ q : List Nat, (∀ x ∈ q, x < 256) → q.map (UInt8.toNat ∘ UInt8.ofNat) = q := by
    intro q hq
    have : q.map (UInt8.toNat ∘ UInt8.ofNat) = q.map id := List.map_congr_left (fun x hx => by have := hq x hx; simp; omega)
    simpa using this
  rwa [key l hl, key m hm] at h2

theorem run_bytes {w : World} {v : Value} {l : List Nat} (h : BytesAt w v l) : (convert 30 9 v).run Try.prog w = .ok (.string (strB l)) w := by
  obtain ⟨A, c, rfl, h2, h3, h4, h5, h6⟩ := h
  rw [run_convert_bytes_string w 30 9 5 A l.length c Try.underlying30 Try.underlying5 Try.underlying9]
  rcases A with _ | ad
  · have : l = [] := by
      cases l with
      | nil => rfl
      | cons x t => obtain ⟨_, _, h, _⟩ := h5 (by simp); cases h
    subst this
    simp [Conv.bytesToString]
    rfl
  · have hl : (loadCells ad l.length).run Try.prog w = .ok ((l.map (fun n : Nat => (n : Int))).map (Value.int .u8)).toArray w := by
      have := run_loadCells_list (P := Try.prog) w ad ((l.map (fun n : Nat => (n : Int))).map (Value.int .u8)) (fun j u hu => by
        have hj : j < l.length := by
          rcases Nat.lt_or_ge j l.length with h | h
          · exact h
          · rw [List.getElem?_eq_none (by simpa using h)] at hu; cases hu
        obtain ⟨b, off, he, _, hc⟩ := h5 (by omega)
        injection he with he
        subst he
        rw [add_at, hc j hj]
        simp [List.getElem?_eq_getElem hj] at hu
        simp [List.getD, List.getElem?_eq_getElem hj, hu])
      simpa using this
    rw [run_bytesToString w ad l.length c _ hl, foldl_push_bytes]
    simp [strB, ByteArray.empty, ByteArray.emptyWithCapacity, Function.comp_def]
    rfl

/-- Where a number's bytes lie. -/
theorem own_at {w : World} {base : Nat} {v : Value} {l : List Nat} (h : Own w base v l) (hne : 0 < l.length) : ∃ g c, v = .slice (some ⟨g, 0, none⟩) l.length c ∧ l.length ≤ c ∧ c ≤ maxLen ∧ base ≤ g ∧ g < w.heap.size ∧ ∀ i, i < l.length → w.cell? ⟨g, 0 + i, none⟩ = some (.int .u8 (l.getD i 0 : Nat)) := by
  rcases h.2 with ⟨rfl, hl⟩ | ⟨g, cap, cur, rfl, hb, hg, hnc, hcm, _⟩
  · omega
  · refine ⟨g, cap, rfl, hnc, hcm, hb, (Array.getElem?_eq_some_iff.1 hg).1, fun i hi => ?_⟩
    have := World.ownsRow.cells h (g := g) rfl i (bval (l.getD i 0)) (by simp [bvals, List.getD, List.getElem?_eq_getElem hi])
    rwa [add_at] at this

section
variable {w : World} {v x : Value} {L M : List Nat}

theorem grown_below {w' : World} {base : Nat} (hown : Own w base v L) (hg : w.grownBy w' v.ownBlock) (hbase : base ≤ w.heap.size) : Below base w w' :=
  (Below.refl _ _).grown hg hbase fun k hk => (World.ownsRow.lt hown k hk).1

set_option maxRecDepth 20000 in
/-- append(v, x...), v the call's own, x any slice of bytes. -/
theorem append_bytes {ops : Array Oper} {rest : List Oper} {o : Oper} {a : Act} {Q : Exit → Act → World → Prop} (hgd : o.guard = none) (sv sx : Operand)
    (ho : o.op = .call { callee := .builtin .append, args := #[sv, sx], argTypes := #[30, 30] }) (base : Nat)
    (hs : a.eval sv = v) (hown : Own w base v L) (hx : a.eval sx = x) (hb : BytesAt w x M) (hle : L.length + M.length ≤ 140737488355328) (hbase : base ≤ w.heap.size)
    (h : ∀ v' w', Own w' base v' (L ++ M) → Below base w w' → wpList Try.prog ops Q rest (a.put o.dst v') w') : wpList Try.prog ops Q (o :: rest) a w := by
  obtain ⟨i0, hi0, hz0, hz1, hz2⟩ := info_parts info_u8
  obtain ⟨A, c, rfl, _, _, _, hc, h0⟩ := hb
  rcases A with _ | ad
  · have hM : M = [] := by
      cases M with
      | nil => rfl
      | cons y t => obtain ⟨_, _, hh, _⟩ := hc (by simp); cases hh
    subst hM
    obtain rfl := h0 rfl
    refine wpList_append_own_none hgd sv sx 30 ho base 5 i0 1 Try.underlying30 hi0 v L.length (bvals L) hs hown hx ?_
    exact h v w (by simpa using hown) (Below.refl _ _)
  · refine wpList_append_own w hgd sv sx 30 ho base 5 i0 (.int .u8 0) 1 1 Try.underlying30 hi0 hz0 hz1 hz2 rfl (by decide) v L.length (bvals L) hs hown ad M.length c (bvals M) hx (by simp [bvals]) ?_ (bvals_one M) (by unfold maxLen; omega) (by omega) hbase ?_
    · intro j u hu
      have hj : j < M.length := by
        rcases Nat.lt_or_ge j M.length with hh | hh
        · exact hh
        · rw [List.getElem?_eq_none (by simpa [bvals] using hh)] at hu; cases hu
      obtain ⟨b, off, he, _, hcell⟩ := hc (by omega)
      injection he with he
      subst he
      rw [add_at, hcell j hj]
      simp [bvals, List.getElem?_eq_getElem hj] at hu
      simp [List.getD, List.getElem?_eq_getElem hj, ← hu, bval]
    · intro v' w' h1 h2 _
      exact h v' w' (by simpa [Own, bvals_append] using h1) (grown_below hown h2 hbase)

set_option maxRecDepth 20000 in
/-- The same, the row told: where something is held by then. -/
theorem append_bytes_at {ops : Array Oper} {rest : List Oper} {o : Oper} {a : Act} {Q : Exit → Act → World → Prop} (hgd : o.guard = none) (sv sx : Operand)
    (ho : o.op = .call { callee := .builtin .append, args := #[sv, sx], argTypes := #[30, 30] }) (base : Nat)
    (hs : a.eval sv = v) (hown : Own w base v L) (hx : a.eval sx = x) (hb : BytesAt w x M) (hle : L.length + M.length ≤ 140737488355328) (hbase : base ≤ w.heap.size)
    (R : List Nat) (N : Nat) (hR : L ++ M = R) (hN : R.length = N) (hpos : 0 < N)
    (h : ∀ g c w', Own w' base (.slice (some ⟨g, 0, none⟩) N c) R → (N : Int) ≤ (c : Nat) → (c : Int) ≤ 9223372036854775807 → base ≤ g → Below base w w' →
      wpList Try.prog ops Q rest (a.put o.dst (.slice (some ⟨g, 0, none⟩) N c)) w') : wpList Try.prog ops Q (o :: rest) a w := by
  refine append_bytes hgd sv sx ho base hs hown hx hb hle hbase fun v' w' h1 h2 => ?_
  rw [hR] at h1
  rcases h1.2 with ⟨rfl, hl⟩ | ⟨g, cap, cur, he, hbg, hg, hnc, hcm, _⟩
  · omega
  · rw [hN] at he
    subst he
    exact h g cap w' h1 (by omega) (by unfold maxLen at hcm; omega) hbg h2
end

/-- One byte in a new block. -/
theorem bytes_box (w : World) (b : Nat) (hb : b < 256) : BytesAt (w.alloc (.cells #[.int .u8 (b : Int)] 5)) (.slice (some ⟨w.heap.size, 0, none⟩) 1 1) [b] := by
  refine ⟨some ⟨w.heap.size, 0, none⟩, 1, rfl, Nat.le_refl _, by decide, by simpa using hb, fun _ => ⟨w.heap.size, 0, rfl, by simp, fun i hi => ?_⟩, fun h => by cases h⟩
  obtain rfl : i = 0 := by simpa using hi
  go_simp

/-- What `[]byte{}` makes. -/
theorem own_made (w : World) (e : Obj) (he : e = .cells #[] 5) : Own (w.alloc e) w.heap.size (.slice (some ⟨w.heap.size, 0, none⟩) 0 0) [] := by
  subst he
  exact World.ownsRow_made w #[] 0 (Nat.le_refl _) (Nat.zero_le _) rfl

theorem Own.below {w w' : World} {base B : Nat} {v : Value} {l : List Nat} (h : Own w base v l) (hb : Below B w w') (hB : ∀ k, v.ownBlock = some k → k < B) : Own w' base v l := by
  refine ⟨h.1, ?_⟩
  rcases h.2 with hn | ⟨g, cap, cur, rfl, hbg, hg, rest⟩
  · exact .inl hn
  · exact .inr ⟨g, cap, cur, rfl, hbg, (hb.block g (hB g rfl)).trans hg, rest⟩

/-- The first bytes of a slice of bytes. -/
theorem BytesAt.upto {w : World} {A : Option Addr} {n c : Nat} {l : List Nat} (h : BytesAt w (.slice A n c) l) (k : Nat) (hk : k ≤ l.length) : BytesAt w (.slice A k c) (l.take k) := by
  obtain ⟨A', c', he, h2, h3, h4, h5, h6⟩ := h
  injection he with h7 h8 h9
  subst h7 h9
  refine ⟨A, c, by rw [List.length_take, Nat.min_eq_left hk], by rw [List.length_take]; omega, h3, fun x hx => h4 x (List.mem_of_mem_take hx), fun hl => ?_, h6⟩
  rw [List.length_take] at hl
  obtain ⟨b, off, h10, h11, h12⟩ := h5 (by omega)
  refine ⟨b, off, h10, h11, fun i hi => ?_⟩
  rw [List.length_take] at hi
  rw [h12 i (by omega)]
  simp [List.getD, show i < k by omega]

/-- The bytes from a place on, the place before the capacity's end. -/
theorem BytesAt.from_ {w : World} {b off n c : Nat} {l : List Nat} (h : BytesAt w (.slice (some ⟨b, off, none⟩) n c) l) (k : Nat) (hk : k ≤ l.length) : BytesAt w (.slice (some ⟨b, off + k, none⟩) (l.length - k) (c - k)) (l.drop k) := by
  obtain ⟨A', c', he, h2, h3, h4, h5, h6⟩ := h
  injection he with h7 h8 h9
  subst h7 h9
  refine ⟨some ⟨b, off + k, none⟩, c - k, by rw [List.length_drop], by rw [List.length_drop]; omega, by unfold maxLen at *; omega, fun x hx => h4 x (List.mem_of_mem_drop hx), fun hl => ?_, fun hh => by cases hh⟩
  rw [List.length_drop] at hl
  obtain ⟨b', off', h10, h11, h12⟩ := h5 (by omega)
  injection h10 with h10
  injection h10 with h13 h14
  subst h13 h14
  refine ⟨b, off + k, rfl, h11, fun i hi => ?_⟩
  rw [List.length_drop] at hi
  have := h12 (k + i) (by omega)
  rw [Nat.add_assoc, this]
  simp [List.getD]

theorem Own.later {w w' : World} {base : Nat} {v : Value} {l : List Nat} (h : Own w base v l) (hb : Below w.heap.size w w') : Own w' base v l := by
  refine ⟨h.1, ?_⟩
  rcases h.2 with hn | ⟨g, cap, cur, rfl, hbg, hg, rest⟩
  · exact .inl hn
  · exact .inr ⟨g, cap, cur, rfl, hbg, (hb.block g (Array.getElem?_eq_some_iff.1 hg).1).trans hg, rest⟩

theorem Own.lower {w : World} {base B : Nat} {v : Value} {l : List Nat} (h : Own w B v l) (hB : base ≤ B) : Own w base v l := by
  refine ⟨h.1, ?_⟩
  rcases h.2 with hn | ⟨g, cap, cur, rfl, hbg, rest⟩
  · exact .inl hn
  · exact .inr ⟨g, cap, cur, rfl, Nat.le_trans hB hbg, rest⟩
theorem Own.drewN {w : World} {base : Nat} {v : Value} {l : List Nat} (h : Own w base v l) (k : Nat) : Own (w.drewN k) base v l := h

section
variable {w : World} {v : Value} {l : List Nat}

theorem BytesAt.row (h : BytesAt w v l) : RowAt w v (bvals l) := by
  obtain ⟨A, c, h1, h2, h3, _, h5, h6⟩ := h
  refine ⟨A, c, by rw [bvals_length]; exact h1, by rw [bvals_length]; exact h2, h3, fun hl => ?_, h6⟩
  rw [bvals_length] at hl
  obtain ⟨b, off, h7, h8, h9⟩ := h5 hl
  refine ⟨b, off, h7, h8, fun i x hx => ?_⟩
  have hi : i < l.length := by have := (List.getElem?_eq_some_iff.1 hx).1; rwa [bvals_length] at this
  rw [h9 i hi]
  simp [bvals, List.getElem?_eq_getElem hi] at hx
  simp [List.getD, List.getElem?_eq_getElem hi, ← hx, bval]

theorem RowAt.bytes (h : RowAt w v (bvals l)) (hby : ∀ x ∈ l, x < 256) : BytesAt w v l := by
  obtain ⟨A, c, h1, h2, h3, h5, h6⟩ := h
  rw [bvals_length] at h1 h2 h5
  refine ⟨A, c, h1, h2, h3, hby, fun hl => ?_, h6⟩
  obtain ⟨b, off, h7, h8, h9⟩ := h5 hl
  refine ⟨b, off, h7, h8, fun i hi => h9 i _ ?_⟩
  simp [bvals, List.getD, List.getElem?_eq_getElem hi, bval]

theorem BytesAt.byte (h : BytesAt w v l) : ∀ x ∈ l, x < 256 := by
  obtain ⟨_, _, _, _, _, h4, _⟩ := h
  exact h4

theorem BytesAt.cut (h : BytesAt w v l) {k : Nat} (hk : k ≤ l.length) :
    ∃ v', (∀ W, (Instr.slice 30 v (some (.int .i64 (k : Int))) none none).run Try.prog W = .ok v' W) ∧ BytesAt w v' (l.drop k) := by
  obtain ⟨v', h1, h2⟩ := h.row.from_ elemY.ht elemY.hs (k := k) (by rw [bvals_length]; exact hk)
  refine ⟨v', h1, RowAt.bytes ?_ (fun x hx => h.byte x (List.mem_of_mem_drop hx))⟩
  rw [bvals, ← List.map_drop] at h2
  exact h2

theorem BytesAt.first (h : BytesAt w v l) {k : Nat} (hk : k ≤ l.length) :
    ∃ v', (∀ W, (Instr.slice 30 v none (some (.int .i64 (k : Int))) none).run Try.prog W = .ok v' W) ∧ BytesAt w v' (l.take k) := by
  obtain ⟨v', h1, h2⟩ := h.row.upto elemY.ht elemY.hs (k := k) (by rw [bvals_length]; exact hk)
  refine ⟨v', h1, RowAt.bytes ?_ (fun x hx => h.byte x (List.mem_of_mem_take hx))⟩
  rw [bvals, ← List.map_take] at h2
  exact h2

theorem BytesAt.len (h : BytesAt w v l) {ty : TypeId} (W : World) : (Builtin.len_ #[30] ty #[v]).run Try.prog W = .ok (.int .i64 (l.length : Nat)) W := by
  have := h.row.len elemY.ht (ty := ty) W; rwa [bvals_length] at this
end

/-- A slice's length, out of its value. -/
def lenV : Value → Nat
  | .slice _ n _ => n
  | _ => 0
theorem RowAt.lenV {w : World} {v : Value} {xs : List Value} (h : RowAt w v xs) : lenV v = xs.length := by
  obtain ⟨A, c, rfl, _⟩ := h; rfl

theorem strB_beq {l m : List Nat} (hl : ∀ x ∈ l, x < 256) (hm : ∀ x ∈ m, x < 256) : ((strB l).toList == (strB m).toList) = decide (l = m) := by
  by_cases h : l = m
  · subst h; simp
  · rw [decide_eq_false h, beq_eq_false_iff_ne]
    intro h'
    rw [ByteArray.toList_eq, ByteArray.toList_eq] at h'
    exact h (strB_inj hl hm (ByteArray.ext (Array.toList_inj.1 h')))
end Go.Proofs.Ytpkiapjcilapoaa
