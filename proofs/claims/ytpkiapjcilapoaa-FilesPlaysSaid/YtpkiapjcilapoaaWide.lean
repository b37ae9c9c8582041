/-
  What a call turns; slices whose elements are several cells each, kept as letters.
-/
import Derived.Test.YtpkiapjcilapoaaRow
import Derived.Deep.MidRow
namespace Go.Proofs.Ytpkiapjcilapoaa
open Go.RowKit Go.Sort

/-- Of what was there a call has turned no block but those of F. -/
structure Turns (F : List Nat) (w w' : World) : Prop where
  os : w'.os = w.os
  tape : w'.tape = w.tape
  output : w'.output = w.output
  size : w.heap.size ≤ w'.heap.size
  block : ∀ k, k < w.heap.size → k ∉ F → w'.heap[k]? = w.heap[k]?

section
variable {F G : List Nat} {w w' w'' : World}
theorem Turns.refl (F : List Nat) (w : World) : Turns F w w := ⟨rfl, rfl, rfl, Nat.le_refl _, fun _ _ _ => rfl⟩
theorem Turns.trans (h : Turns F w w') (k : Turns G w' w'') (hFG : ∀ b ∈ G, b ∈ F ∨ w.heap.size ≤ b) : Turns F w w'' :=
  ⟨k.os.trans h.os, k.tape.trans h.tape, k.output.trans h.output, Nat.le_trans h.size k.size, fun i hi hF =>
    (k.block i (Nat.lt_of_lt_of_le hi h.size) (fun hG => by rcases hFG i hG with h1 | h1; exact hF h1; omega)).trans (h.block i hi hF)⟩
theorem Turns.trans' (h : Turns F w w') (k : Turns F w' w'') : Turns F w w'' := h.trans k (fun _ hb => .inl hb)
theorem Turns.of_below (h : Below w.heap.size w w') : Turns F w w' := ⟨h.os, h.tape, h.output, h.size, fun k hk _ => h.block k hk⟩
theorem Turns.call (h : Turns F w w') (hb : Below w'.heap.size w' w'') : Turns F w w'' := h.trans' (.of_below hb)
theorem Turns.of_grown {row : Option Nat} (h : w.grownBy w' row) (hF : ∀ k, row = some k → k ∈ F ∨ w.heap.size ≤ k) : Turns F w w' :=
  ⟨h.os, h.tape, h.output, h.size, fun k hk hn => h.block k hk (fun e => by rcases hF k e.symm with h1 | h1; exact hn h1; omega)⟩
theorem Turns.set (w : World) {a : Addr} (v : Value) (ha : a.block ∈ F) : Turns F w (w.setCell a v) :=
  ⟨rfl, rfl, rfl, by simp [World.setCell], fun k _ hk => Below.heap_setCell _ _ _ k (fun e => hk (by rw [e]; exact ha))⟩
theorem Turns.drew (h : Turns F w w') : Turns F w w'.drew := ⟨h.os, h.tape, h.output, h.size, h.block⟩
theorem Turns.box (h : Turns F w w') (o : Obj) : Turns F w (w'.alloc o) := h.call (below_box1' _ _)
where below_box1' (w : World) (o : Obj) : Below w.heap.size w (w.alloc o) := (Below.refl _ _).alloc (Nat.le_refl _) _
theorem Turns.mono (h : Turns F w w') (hFG : ∀ b ∈ F, b ∈ G ∨ w.heap.size ≤ b) : Turns G w w' :=
  ⟨h.os, h.tape, h.output, h.size, fun k hk hn => h.block k hk (fun hF => by rcases hFG k hF with h1 | h1; exact hn h1; omega)⟩
/-- Nothing that lay below n. -/
theorem Turns.below {n : Nat} (h : Turns F w w') (hn : n ≤ w.heap.size) (hF : ∀ b ∈ F, n ≤ b) : Below n w w' :=
  ⟨h.os, h.tape, h.output, h.size, fun k hk => h.block k (Nat.lt_of_lt_of_le hk hn) (fun hk' => by have := hF k hk'; omega)⟩
theorem Turns.cell (h : Turns F w w') {a : Addr} (h1 : a.block < w.heap.size) (h2 : a.block ∉ F) : w'.cell? a = w.cell? a := World.cell?_of_block (h.block _ h1 h2)
theorem Turns.frozen (h : Turns F w w') {a : Addr} (h1 : a.block < w.heap.size) (h2 : a.block ∉ F) : w'.frozen? a = w.frozen? a := World.frozen?_of_block (h.block _ h1 h2)

/-- A slice that none of the turned blocks holds. -/
theorem RowAt.turns {v : Value} {xs : List Value} (h : RowAt w v xs) (ht : Turns F w w') (hF : ∀ k, v.ownBlock = some k → k ∉ F) : RowAt w' v xs := by
  obtain ⟨A, c, h1, h2, h3, h5, h6⟩ := h
  refine ⟨A, c, h1, h2, h3, fun hl => ?_, h6⟩
  obtain ⟨b, off, h7, h8, h9⟩ := h5 hl
  have hb : b ∉ F := hF b (by rw [h1, h7]; rfl)
  exact ⟨b, off, h7, Nat.lt_of_lt_of_le h8 ht.size, fun i x hx => (ht.cell (a := ⟨b, off + i, none⟩) h8 hb).trans (h9 i x hx)⟩
theorem OwnRow.turns {base : Nat} {e : TypeId} {v : Value} {xs : List Value} (h : OwnRow w base e v xs) (ht : Turns F w w') (hF : ∀ k, v.ownBlock = some k → k ∉ F) : OwnRow w' base e v xs := by
  refine ⟨h.1, ?_⟩
  rcases h.2 with hn | ⟨g, cap, cur, rfl, hbg, hg, rest⟩
  · exact .inl hn
  · exact .inr ⟨g, cap, cur, rfl, hbg, (ht.block g (Array.getElem?_eq_some_iff.1 hg).1 (hF g rfl)).trans hg, rest⟩
end

/-- A slice of elements of k cells each: it holds xs. -/
def RowsAt (k : Nat) (w : World) (v : Value) (xs : List (List Value)) : Prop :=
  ∃ A c, v = .slice A xs.length c ∧ xs.length ≤ c ∧ c ≤ maxLen ∧ (∀ x ∈ xs, x.length = k) ∧
    (0 < xs.length → ∃ b off, A = some ⟨b, off, none⟩ ∧ b < w.heap.size ∧ ∀ i x, xs[i]? = some x → w.rangeAt b (off + i * k) x) ∧ (A = none → c = 0)

/-- What is known of a slice type whose elements are k cells each. -/
structure ElemK (P : Program) (t e : TypeId) (z : Value) (k bytes : Nat) : Prop where
  ht : P.underlying t = some (.slice e)
  hi : (P.info? e).map (fun i => (i.zero, i.size, i.bytes)) = some (some z, k, bytes)
  hz : z.cells.size = k
  hk : 0 < k
  hb : bytes ≤ 64
  hs : ∀ W, (sizeOf e).run P W = .ok k W

section
variable {k : Nat} {w w' : World} {v : Value} {xs : List (List Value)} {F : List Nat}

theorem RowsAt.turns (h : RowsAt k w v xs) (ht : Turns F w w') (hF : ∀ b, v.ownBlock = some b → b ∉ F) : RowsAt k w' v xs := by
  obtain ⟨A, c, h1, h2, h3, h4, h5, h6⟩ := h
  refine ⟨A, c, h1, h2, h3, h4, fun hl => ?_, h6⟩
  obtain ⟨b, off, h7, h8, h9⟩ := h5 hl
  have hb : b ∉ F := hF b (by rw [h1, h7]; rfl)
  exact ⟨b, off, h7, Nat.lt_of_lt_of_le h8 ht.size, fun i x hx j u hu => (ht.cell (a := ⟨b, off + i * k + j, none⟩) h8 hb).trans (h9 i x hx j u hu)⟩
theorem RowsAt.below (h : RowsAt k w v xs) (hb : Below w.heap.size w w') : RowsAt k w' v xs := h.turns (F := []) (.of_below hb) (by simp)
theorem RowsAt.drew (h : RowsAt k w v xs) : RowsAt k w.drew v xs := h

theorem RowsAt.le (h : RowsAt k w v xs) : (xs.length : Int) ≤ 9223372036854775807 := by
  obtain ⟨A, c, _, h2, h3, _⟩ := h
  unfold maxLen at h3; omega
theorem RowsAt.wide (h : RowsAt k w v xs) : ∀ x ∈ xs, x.length = k := by obtain ⟨A, c, _, _, _, h4, _⟩ := h; exact h4

theorem RowsAt.len (h : RowsAt k w v xs) {P : Program} {t e ty : TypeId} (ht : P.underlying t = some (.slice e)) (W : World) : (Builtin.len_ #[t] ty #[v]).run P W = .ok (.int .i64 (xs.length : Nat)) W := by
  obtain ⟨A, c, rfl, _⟩ := h
  have he : P.elem t = e := by simp [Program.elem, ht]
  exact run_len_slice (P := P) W t ty A xs.length c (by rw [he]; exact ht)

/-- An element's address, and its cells. -/
theorem RowsAt.index (h : RowsAt k w v xs) {P : Program} {t e : TypeId} (ht : P.underlying t = some (.slice e)) (hs : ∀ W, (sizeOf e).run P W = .ok k W) {i : Nat} {x : List Value} (hi : xs[i]? = some x) :
    ∃ b off, (∀ W, (Instr.indexAt t v (.int .i64 (i : Int))).run P W = .ok (.pointer (some ⟨b, off, none⟩)) W) ∧ w.rangeAt b off x ∧ b < w.heap.size ∧ v.ownBlock = some b := by
  have hlt := (List.getElem?_eq_some_iff.1 hi).1
  obtain ⟨A, c, rfl, h2, h3, h4, h5, _⟩ := h
  obtain ⟨b, off, rfl, hb, hc⟩ := h5 (by omega)
  have he : P.elem t = e := by simp [Program.elem, ht]
  refine ⟨b, off + i * k, fun W => ?_, hc i x hi, hb, rfl⟩
  rw [run_indexAt_slice (P := P) W t _ xs.length c .i64 (i : Int) (by rw [he]; exact ht), if_pos (by omega), he, hs]
  simp [Result.andThen, addr_at]

/-- The first so many elements. -/
theorem RowsAt.upto (h : RowsAt k w v xs) {P : Program} {t e : TypeId} (ht : P.underlying t = some (.slice e)) (hs : ∀ W, (sizeOf e).run P W = .ok k W) {m : Nat} (hm : m ≤ xs.length) :
    ∃ v', (∀ W, (Instr.slice t v none (some (.int .i64 (m : Int))) none).run P W = .ok v' W) ∧ RowsAt k w v' (xs.take m) ∧ (∀ b, v'.ownBlock = some b → v.ownBlock = some b) := by
  obtain ⟨A, c, rfl, h2, h3, h4, h5, h6⟩ := h
  have he : P.elem t = e := by simp [Program.elem, ht]
  refine ⟨sliced A 0 m c k, fun W => ?_, ?_, ?_⟩
  · rw [run_slice_h (P := P) W t A xs.length c (by rw [he]; exact ht) .i64 (m : Int) (by omega) (by omega), he, hs]
    simp [Result.andThen]
  · refine ⟨if c = 0 then A else A.map (·.add (0 * k)), c, by rw [sliced, List.length_take, Nat.min_eq_left hm]; simp, by rw [List.length_take]; omega, h3, fun x hx => h4 x (List.mem_of_mem_take hx), fun hl => ?_, fun hn => ?_⟩
    · rw [List.length_take] at hl
      obtain ⟨b, off, rfl, h8, h9⟩ := h5 (by omega)
      rw [if_neg (by omega)]
      refine ⟨b, off, by simp [addr_at], h8, fun i x hx => ?_⟩
      rw [List.getElem?_take] at hx
      split at hx
      · exact h9 _ x hx
      · cases hx
    · split at hn
      · assumption
      · exact h6 (by cases A <;> simp_all)
  · intro b hb
    unfold sliced at hb
    cases A with
    | none => split at hb <;> simp [Value.ownBlock] at hb
    | some a => split at hb <;> simp_all [Value.ownBlock, Addr.add]
end

/-- A slice of the call's own. -/
def OwnRows (w : World) (base : Nat) (e : TypeId) (k : Nat) (v : Value) (xs : List (List Value)) : Prop := w.ownsRow base e k v xs.length xs.flatten ∧ ∀ x ∈ xs, x.length = k

theorem flat_at {k : Nat} : ∀ (xs : List (List Value)), (∀ x ∈ xs, x.length = k) → ∀ (i j : Nat) (x : List Value) (u : Value), xs[i]? = some x → x[j]? = some u → xs.flatten[i * k + j]? = some u
  | [], _, i, j, x, u, hx, _ => by simp at hx
  | y :: t, h, 0, j, x, u, hx, hu => by
    simp at hx; subst hx
    have hj := (List.getElem?_eq_some_iff.1 hu).1
    rw [List.flatten_cons, Nat.zero_mul, Nat.zero_add, List.getElem?_append_left hj]
    exact hu
  | y :: t, h, i + 1, j, x, u, hx, hu => by
    have hy := h y (by simp)
    have ih := flat_at t (fun z hz => h z (by simp [hz])) i j x u (by simpa using hx) hu
    rw [List.flatten_cons, List.getElem?_append_right (by rw [hy, Nat.add_mul]; omega)]
    rw [hy, show (i + 1) * k + j - k = i * k + j by rw [Nat.add_mul]; omega]
    exact ih

theorem flat_len {k : Nat} : ∀ (xs : List (List Value)), (∀ x ∈ xs, x.length = k) → xs.flatten.length = xs.length * k
  | [], _ => by simp
  | y :: t, h => by
    rw [List.flatten_cons, List.length_append, h y (by simp), flat_len t (fun z hz => h z (by simp [hz])), List.length_cons, Nat.add_mul]; omega

section
variable {k base : Nat} {w w' : World} {e : TypeId} {v : Value} {xs : List (List Value)} {F : List Nat}

theorem OwnRows.none_ (w : World) (base : Nat) (e : TypeId) (k : Nat) : OwnRows w base e k (.slice none 0 0) [] := ⟨World.ownsRow_nil w base e k, by simp⟩

theorem OwnRows.rows (h : OwnRows w base e k v xs) : RowsAt k w v xs := by
  obtain ⟨h, hw⟩ := h
  rcases h.2 with ⟨rfl, hl⟩ | ⟨g, cap, cur, rfl, hb, hg, hnc, hcm, _⟩
  · have : xs = [] := List.eq_nil_of_length_eq_zero hl
    subst this
    exact ⟨none, 0, rfl, Nat.le_refl _, Nat.zero_le _, by simp, fun hh => absurd hh (by simp), fun _ => rfl⟩
  · refine ⟨some ⟨g, 0, none⟩, cap, rfl, hnc, hcm, hw, fun hl => ⟨g, 0, rfl, (Array.getElem?_eq_some_iff.1 hg).1, fun i x hx j u hu => ?_⟩, fun hh => by cases hh⟩
    have := World.ownsRow.cells h (g := g) rfl (i * k + j) u (flat_at xs hw i j x u hx hu)
    rw [addr_at] at this
    rw [Nat.zero_add]
    rwa [Nat.zero_add] at this

theorem OwnRows.block (h : OwnRows w base e k v xs) : ∀ b, v.ownBlock = some b → base ≤ b ∧ b < w.heap.size := World.ownsRow.lt h.1
theorem OwnRows.lower {B : Nat} (h : OwnRows w B e k v xs) (hB : base ≤ B) : OwnRows w base e k v xs := by
  refine ⟨⟨h.1.1, ?_⟩, h.2⟩
  rcases h.1.2 with hn | ⟨g, cap, cur, rfl, hbg, rest⟩
  · exact .inl hn
  · exact .inr ⟨g, cap, cur, rfl, Nat.le_trans hB hbg, rest⟩
theorem OwnRows.turns (h : OwnRows w base e k v xs) (ht : Turns F w w') (hF : ∀ b, v.ownBlock = some b → b ∉ F) : OwnRows w' base e k v xs := by
  refine ⟨⟨h.1.1, ?_⟩, h.2⟩
  rcases h.1.2 with hn | ⟨g, cap, cur, rfl, hbg, hg, rest⟩
  · exact .inl hn
  · exact .inr ⟨g, cap, cur, rfl, hbg, (ht.block g (Array.getElem?_eq_some_iff.1 hg).1 (hF g rfl)).trans hg, rest⟩
theorem OwnRows.below (h : OwnRows w base e k v xs) (hb : Below w.heap.size w w') : OwnRows w' base e k v xs := h.turns (F := []) (.of_below hb) (by simp)
theorem OwnRows.alloc (h : OwnRows w base e k v xs) (o : Obj) : OwnRows (w.alloc o) base e k v xs := ⟨World.ownsRow.alloc h.1 o, h.2⟩
theorem OwnRows.drew (h : OwnRows w base e k v xs) : OwnRows w.drew base e k v xs := h

/-- Where append's row lies: where the elder lay, or in a new block. -/
theorem run_append_where {P : Program} {t : TypeId} {z : Value} {bytes : Nat} (E : ElemK P t e z k bytes) (ty : TypeId) (hown : w.ownsRow base e k v xs.length xs.flatten) {ad : Addr} {m c : Nat} {news : List Value} (hm : 0 < m) (hl : news.length = m * k)
    (hc : ∀ j u, news[j]? = some u → w.cell? (ad.add j) = some u) (h1 : ∀ u ∈ news, u.oneCell' = true) (h63 : xs.length + m ≤ maxLen) (hb : (xs.length + m) * bytes ≤ 140737488355328) {v' : Value}
    (hr : (Builtin.append_ #[t, t] ty #[v, .slice (some ad) m c]).run P w = .ok v' w') : ∀ b, v'.ownBlock = some b → v.ownBlock = some b ∨ w.heap.size ≤ b := by
  obtain ⟨i0, hi0, hz0, hz1, hz2⟩ := info_parts E.hi
  have hsm : xs.length + m ≤ 9223372036854775807 := by simp only [maxLen] at h63; omega
  subst hz1 hz2
  rcases hown.2 with ⟨rfl, h0⟩ | ⟨g, cap, cur, rfl, _, hg, hnc, hcm, hcs, htake⟩
  · have h2 := run_append_nil (P := P) w t ty e i0 z E.ht hi0 hz0 ad m c news hl hc hm (by omega) (by rw [h0, Nat.zero_add] at hb; omega)
    rw [hr] at h2
    injection h2 with h2 _
    intro b hb'
    rw [h2] at hb'
    simp [Value.ownBlock] at hb'
    exact .inr (by omega)
  · by_cases hroom : xs.length + m ≤ cap
    · have h2 := run_append_room (P := P) w t ty e i0 E.ht hi0 g xs.length cap cur hg ad m c news hl hc h1 hroom (by rw [hl, hcs, ← Nat.add_mul]; exact Nat.mul_le_mul_right _ hroom)
      rw [hr] at h2
      injection h2 with h2 _
      intro b hb'
      rw [h2] at hb'
      exact .inl (by simpa [Value.ownBlock] using hb')
    · have holds := World.ownsRow.cells hown (g := g) rfl
      have h2 := run_append_grow (P := P) w t ty e i0 z E.ht hi0 hz0 ⟨g, 0, none⟩ xs.length cap xs.flatten hown.1 holds ad m c news hl hc (by omega) (by omega) (growslice_fits (by omega) hb)
      rw [hr] at h2
      injection h2 with h2 _
      intro b hb'
      rw [h2] at hb'
      simp [Value.ownBlock] at hb'
      exact .inr (by omega)

/-- append(v, x...), run: v the call's own, x any slice. -/
theorem run_append_rows {P : Program} {t : TypeId} {z : Value} {bytes : Nat} (E : ElemK P t e z k bytes) (ty : TypeId) (base : Nat) {x : Value} {M : List (List Value)}
    (hown : OwnRows w base e k v xs) (hr : RowsAt k w x M) (hM : 0 < M.length) (h1 : ∀ y ∈ M, ∀ u ∈ y, u.oneCell' = true) (hle : (xs.length + M.length) * 64 ≤ 140737488355328) (hbase : base ≤ w.heap.size) :
    ∃ A m c w', (Builtin.append_ #[t, t] ty #[v, x]).run P w = .ok (.slice A m c) w' ∧ OwnRows w' base e k (.slice A m c) (xs ++ M) ∧ Turns v.ownBlock.toList w w' ∧ (∀ b, (Value.slice A m c).ownBlock = some b → v.ownBlock = some b ∨ w.heap.size ≤ b) := by
  obtain ⟨i0, hi0, hz0, hz1, hz2⟩ := info_parts E.hi
  have hwM := hr.wide
  obtain ⟨A, c, rfl, _, hcm, _, hc, _⟩ := hr
  obtain ⟨b, off, rfl, _, hcell⟩ := hc hM
  have hb8 : (xs.length + M.length) * bytes ≤ 140737488355328 := Nat.le_trans (Nat.mul_le_mul_left _ E.hb) hle
  have hnews : ∀ j u, M.flatten[j]? = some u → w.cell? ((⟨b, off, none⟩ : Addr).add j) = some u := by
    intro j u hu
    have hj : j < M.length * k := by have := (List.getElem?_eq_some_iff.1 hu).1; rwa [flat_len M hwM] at this
    have hk := E.hk
    have hdiv : j / k < M.length := Nat.div_lt_of_lt_mul (by rw [Nat.mul_comm]; exact hj)
    have hmod : j % k < k := Nat.mod_lt _ hk
    have hlen : (M[j / k]).length = k := hwM _ (List.getElem_mem hdiv)
    have h2 := flat_at M hwM (j / k) (j % k) M[j / k] (M[j / k][j % k]'(by omega)) (List.getElem?_eq_getElem hdiv) (List.getElem?_eq_getElem (by omega))
    have h3 : j / k * k + j % k = j := by rw [Nat.mul_comm]; exact Nat.div_add_mod j k
    rw [h3, hu] at h2
    injection h2 with h2
    have := hcell (j / k) M[j / k] (List.getElem?_eq_getElem hdiv) (j % k) _ (List.getElem?_eq_getElem (by omega))
    rw [addr_at, h2, ← this, Nat.add_assoc, h3]
  have hone : ∀ u ∈ M.flatten, u.oneCell' = true := by
    intro u hu
    obtain ⟨y, hy, hu⟩ := List.mem_flatten.1 hu
    exact h1 y hy u hu
  obtain ⟨v', w', hr, h2, h3, _⟩ := run_append_own (P := P) w base t ty e i0 z k bytes E.ht hi0 hz0 hz1 hz2 E.hz E.hk v xs.length xs.flatten hown.1 ⟨b, off, none⟩ M.length c M.flatten (flat_len M hwM) hnews hone (by unfold maxLen; omega) hb8 hbase
  have hwhere := run_append_where E ty hown.1 hM (flat_len M hwM) hnews hone (by unfold maxLen; omega) hb8 hr
  have hown2 : OwnRows w' base e k v' (xs ++ M) := by
    refine ⟨?_, fun y hy => ?_⟩
    · rw [List.length_append, List.flatten_append]; exact h2
    · rcases List.mem_append.1 hy with hy | hy
      · exact hown.2 y hy
      · exact hwM y hy
  obtain ⟨A', c', hv', _⟩ := hown2.rows
  rw [hv'] at hr hown2 hwhere
  exact ⟨A', _, c', w', hr, hown2, Turns.of_grown h3 (fun q hq => .inl (by rw [hq]; simp)), hwhere⟩

/-- As an operation. -/
theorem append_rows {P : Program} {t : TypeId} {z : Value} {bytes : Nat} (E : ElemK P t e z k bytes) {ops : Array Oper} {rest : List Oper} {o : Oper} {a : Act} {Q : Exit → Act → World → Prop} (hgd : o.guard = none) (sv sx : Operand)
    (ho : o.op = .call { callee := .builtin .append, args := #[sv, sx], argTypes := #[t, t] }) (base : Nat) {x : Value} {M : List (List Value)}
    (hs : a.eval sv = v) (hown : OwnRows w base e k v xs) (hx : a.eval sx = x) (hr : RowsAt k w x M) (hM : 0 < M.length) (h1 : ∀ y ∈ M, ∀ u ∈ y, u.oneCell' = true) (hle : (xs.length + M.length) * 64 ≤ 140737488355328) (hbase : base ≤ w.heap.size)
    (h : ∀ v' w', OwnRows w' base e k v' (xs ++ M) → Turns v.ownBlock.toList w w' → (∀ b, v'.ownBlock = some b → v.ownBlock = some b ∨ w.heap.size ≤ b) → wpList P ops Q rest (a.put o.dst v') w') : wpList P ops Q (o :: rest) a w := by
  obtain ⟨A, m, c, w', hr, h2, h3, h4⟩ := run_append_rows E o.type base hown hr hM h1 hle hbase
  refine wpList_plain hgd fun K hK => ?_
  unfold Oper.wp execOp
  simp only [ho, resolve, invoke, builtin, Sem.run_bind, Sem.run_pure, Result.andThen_ok, List.map_toArray, List.map_cons, List.map_nil, hs, hx, hr]
  exact hK _ _ (h _ w' h2 h3 h4)

/-- As a step of a region that draws its order. -/
theorem step_append_rows {P : Program} {t : TypeId} {z : Value} {bytes : Nat} (E : ElemK P t e z k bytes) {ops : Array Oper} {o : Oper} {a : Act} {K : Act → World → Prop} {Q : Exit → Act → World → Prop} {D : Prop} (hgd : o.guard = none) (sv sx : Operand)
    (ho : o.op = .call { callee := .builtin .append, args := #[sv, sx], argTypes := #[t, t] }) (base : Nat) {x : Value} {M : List (List Value)}
    (hs : a.eval sv = v) (hown : OwnRows w base e k v xs) (hx : a.eval sx = x) (hr : RowsAt k w x M) (hM : 0 < M.length) (h1 : ∀ y ∈ M, ∀ u ∈ y, u.oneCell' = true) (hle : (xs.length + M.length) * 64 ≤ 140737488355328) (hbase : base ≤ w.heap.size)
    (h : ∀ A m c w', OwnRows w' base e k (.slice A m c) (xs ++ M) → Turns v.ownBlock.toList w w' → (∀ b, (Value.slice A m c).ownBlock = some b → v.ownBlock = some b ∨ w.heap.size ≤ b) → K (a.put o.dst (.slice A m c)) w') : if Region.wanted o (yielded ops a.tmps) = true then Oper.wp P o a w K Q else D := by
  have hw : Region.wanted o (yielded ops a.tmps) = true := by simp [Region.wanted, hgd]
  rw [if_pos hw]
  obtain ⟨A, m, c, w', hr, h2, h3, h4⟩ := run_append_rows E o.type base hown hr hM h1 hle hbase
  unfold Oper.wp execOp
  simp only [ho, resolve, invoke, builtin, Sem.run_bind, Sem.run_pure, Result.andThen_ok, List.map_toArray, List.map_cons, List.map_nil, hs, hx, hr]
  exact h A m c w' h2 h3 h4

/-- One element in a new block. -/
theorem rows_box (w : World) (e : TypeId) (x : List Value) (hk : x.length = k) (cs : Array Value) (hcs : cs.toList = x) : RowsAt k (w.alloc (.cells cs e)) (.slice (some ⟨w.heap.size, 0, none⟩) 1 1) [x] := by
  refine ⟨some ⟨w.heap.size, 0, none⟩, 1, rfl, Nat.le_refl _, by decide, by simpa using hk, fun _ => ⟨w.heap.size, 0, rfl, by simp, fun i y hy j u hu => ?_⟩, fun h => by cases h⟩
  have hi : i = 0 := by have := (List.getElem?_eq_some_iff.1 hy).1; simpa using this
  subst hi
  simp at hy
  subst hy
  have hb : (w.alloc (.cells cs e)).heap[w.heap.size]? = some (.cells cs e (0, 0)) := heap_alloc_new w _
  rw [cell_of_row _ w.heap.size _ cs e (0, 0) hb, ← Array.getElem?_toList, hcs]
  simpa using hu
end
end Go.Proofs.Ytpkiapjcilapoaa
