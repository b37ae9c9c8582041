/-
  append of bytes, wherever they lie, onto a row of the call's own; cuts of slices of bytes.
-/
import Derived.Test.YtllkknbkmcdkaaaVaBytes
import Derived.Laws.AppendOwnNone
namespace Go.Proofs.Ytllkknbkmcdkaaa
open Go.RowKit Go.Sort

section
variable {w : World} {v x : Value} {L M : List Nat}

theorem grown_below {w' : World} {base : Nat} (hown : Own w base v L) (hg : w.grownBy w' v.ownBlock) (hbase : base ≤ w.heap.size) : Below base w w' :=
  (Below.refl _ _).grown hg hbase fun k hk => (World.ownsRow.lt hown k hk).1

/-- append(v, x...), v the call's own, x any slice of bytes. -/
theorem append_bytes {ops : Array Oper} {rest : List Oper} {o : Oper} {a : Act} {Q : Exit → Act → World → Prop} (hgd : o.guard = none) (sv sx : Operand)
    (ho : o.op = .call { callee := .builtin .append, args := #[sv, sx], argTypes := #[24, 24] }) (base : Nat)
    (hs : a.eval sv = v) (hown : Own w base v L) (hx : a.eval sx = x) (hb : BytesAt w x M) (hle : L.length + M.length ≤ 140737488355328) (hbase : base ≤ w.heap.size)
    (h : ∀ v' w', Own w' base v' (L ++ M) → Below base w w' → wpList Try.prog ops Q rest (a.put o.dst v') w') : wpList Try.prog ops Q (o :: rest) a w := by
  obtain ⟨i0, hi0, hz0, hz1, hz2⟩ := info_parts info_u8
  obtain ⟨A, c, rfl, _, _, _, hc, h0⟩ := hb
  rcases A with _ | ad
  · have hM : M = [] := by
      cases M with
      | nil => rfl
      | cons y t => obtain ⟨_, _, hh, _⟩ := hc (by simp); cases hh
    subst hM
    obtain rfl := h0 rfl
    refine wpList_append_own_none hgd sv sx 24 ho base 5 i0 1 Try.underlying24 hi0 v L.length (bvals L) hs hown hx ?_
    exact h v w (by simpa using hown) (Below.refl _ _)
  · refine wpList_append_own w hgd sv sx 24 ho base 5 i0 (.int .u8 0) 1 1 Try.underlying24 hi0 hz0 hz1 hz2 rfl (by decide) v L.length (bvals L) hs hown ad M.length c (bvals M) hx (by simp [bvals]) ?_ (bvals_one M) (by unfold maxLen; omega) (by omega) hbase ?_
    · intro j u hu
      have hj : j < M.length := by
        rcases Nat.lt_or_ge j M.length with hh | hh
        · exact hh
        · rw [List.getElem?_eq_none (by simpa [bvals] using hh)] at hu; cases hu
      obtain ⟨b, off, he, _, hcell⟩ := hc (by omega)
      injection he with he
      subst he
      rw [add_at, hcell j hj]
      simp [bvals, List.getElem?_eq_getElem hj] at hu
      simp [List.getD, List.getElem?_eq_getElem hj, ← hu, bval]
    · intro v' w' h1 h2 _
      exact h v' w' (by simpa [Own, bvals_append] using h1) (grown_below hown h2 hbase)

/-- The same, the row told: where something is held by then. -/
theorem append_bytes_at {ops : Array Oper} {rest : List Oper} {o : Oper} {a : Act} {Q : Exit → Act → World → Prop} (hgd : o.guard = none) (sv sx : Operand)
    (ho : o.op = .call { callee := .builtin .append, args := #[sv, sx], argTypes := #[24, 24] }) (base : Nat)
    (hs : a.eval sv = v) (hown : Own w base v L) (hx : a.eval sx = x) (hb : BytesAt w x M) (hle : L.length + M.length ≤ 140737488355328) (hbase : base ≤ w.heap.size)
    (R : List Nat) (N : Nat) (hR : L ++ M = R) (hN : R.length = N) (hpos : 0 < N)
    (h : ∀ g c w', Own w' base (.slice (some ⟨g, 0, none⟩) N c) R → (N : Int) ≤ (c : Nat) → (c : Int) ≤ 9223372036854775807 → base ≤ g → Below base w w' →
      wpList Try.prog ops Q rest (a.put o.dst (.slice (some ⟨g, 0, none⟩) N c)) w') : wpList Try.prog ops Q (o :: rest) a w := by
  refine append_bytes hgd sv sx ho base hs hown hx hb hle hbase fun v' w' h1 h2 => ?_
  rw [hR] at h1
  rcases h1.2 with ⟨rfl, hl⟩ | ⟨g, cap, cur, he, hbg, hg, hnc, hcm, _⟩
  · omega
  · rw [hN] at he
    subst he
    exact h g cap w' h1 (by omega) (by unfold maxLen at hcm; omega) hbg h2
end

/-- One byte in a new block. -/
theorem bytes_box (w : World) (b : Nat) (hb : b < 256) : BytesAt (w.alloc (.cells #[.int .u8 (b : Int)] 5)) (.slice (some ⟨w.heap.size, 0, none⟩) 1 1) [b] := by
  refine ⟨some ⟨w.heap.size, 0, none⟩, 1, rfl, Nat.le_refl _, by decide, by simpa using hb, fun _ => ⟨w.heap.size, 0, rfl, by simp, fun i hi => ?_⟩, fun h => by cases h⟩
  obtain rfl : i = 0 := by simpa using hi
  go_simp

/-- What `[]byte{}` makes. -/
theorem own_made (w : World) (e : Obj) (he : e = .cells #[] 5) : Own (w.alloc e) w.heap.size (.slice (some ⟨w.heap.size, 0, none⟩) 0 0) [] := by
  subst he
  exact World.ownsRow_made w #[] 0 (Nat.le_refl _) (Nat.zero_le _) rfl

theorem Own.below {w w' : World} {base B : Nat} {v : Value} {l : List Nat} (h : Own w base v l) (hb : Below B w w') (hB : ∀ k, v.ownBlock = some k → k < B) : Own w' base v l := by
  refine ⟨h.1, ?_⟩
  rcases h.2 with hn | ⟨g, cap, cur, rfl, hbg, hg, rest⟩
  · exact .inl hn
  · exact .inr ⟨g, cap, cur, rfl, hbg, (hb.block g (hB g rfl)).trans hg, rest⟩

/-- The first bytes of a slice of bytes. -/
theorem BytesAt.upto {w : World} {A : Option Addr} {n c : Nat} {l : List Nat} (h : BytesAt w (.slice A n c) l) (k : Nat) (hk : k ≤ l.length) : BytesAt w (.slice A k c) (l.take k) := by
  obtain ⟨A', c', he, h2, h3, h4, h5, h6⟩ := h
  injection he with h7 h8 h9
  subst h7 h9
  refine ⟨A, c, by rw [List.length_take, Nat.min_eq_left hk], by rw [List.length_take]; omega, h3, fun x hx => h4 x (List.mem_of_mem_take hx), fun hl => ?_, h6⟩
  rw [List.length_take] at hl
  obtain ⟨b, off, h10, h11, h12⟩ := h5 (by omega)
  refine ⟨b, off, h10, h11, fun i hi => ?_⟩
  rw [List.length_take] at hi
  rw [h12 i (by omega)]
  simp [List.getD, show i < k by omega]

/-- The bytes from a place on, the place before the capacity's end. -/
theorem BytesAt.from_ {w : World} {b off n c : Nat} {l : List Nat} (h : BytesAt w (.slice (some ⟨b, off, none⟩) n c) l) (k : Nat) (hk : k ≤ l.length) : BytesAt w (.slice (some ⟨b, off + k, none⟩) (l.length - k) (c - k)) (l.drop k) := by
  obtain ⟨A', c', he, h2, h3, h4, h5, h6⟩ := h
  injection he with h7 h8 h9
  subst h7 h9
  refine ⟨some ⟨b, off + k, none⟩, c - k, by rw [List.length_drop], by rw [List.length_drop]; omega, by unfold maxLen at *; omega, fun x hx => h4 x (List.mem_of_mem_drop hx), fun hl => ?_, fun hh => by cases hh⟩
  rw [List.length_drop] at hl
  obtain ⟨b', off', h10, h11, h12⟩ := h5 (by omega)
  injection h10 with h10
  injection h10 with h13 h14
  subst h13 h14
  refine ⟨b, off + k, rfl, h11, fun i hi => ?_⟩
  rw [List.length_drop] at hi
  have := h12 (k + i) (by omega)
  rw [Nat.add_assoc, this]
  simp [List.getD]
end Go.Proofs.Ytllkknbkmcdkaaa
