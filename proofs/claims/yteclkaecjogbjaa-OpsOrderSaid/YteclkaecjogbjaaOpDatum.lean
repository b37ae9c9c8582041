/-
  An operation: its twenty-six cells, two held against each other, one in a block of its own, whole and in parts.
-/
import Derived.Test.YteclkaecjogbjaaOpVec
import Derived.Laws.StructEq
namespace Go.Proofs.Yteclkaecjogbjaa
open Go.RowKit Go.Sort

structure OpV where
  n : Int
  r : Int
  deps : Nat → Int
  kind : Int
  rn : Int
  rr : Int
  side : Int
  ch : Int
  un : Int
  ur : Int
  key : ByteArray
  name : ByteArray
  value : ByteArray
  fn : Int
  fr : Int
  fa : Bool
  tn : Int
  tr : Int
  ta : Bool

/-- The cells of an operation. -/
def OpC (o : OpV) : Array Value := #[.int .i64 o.n, .int .i64 o.r, .int .i64 (o.deps 0), .int .i64 (o.deps 1), .int .i64 (o.deps 2), .int .i64 (o.deps 3), .int .i64 (o.deps 4), .int .i64 (o.deps 5), .int .i64 (o.deps 6), .int .i64 (o.deps 7), .int .i64 o.kind, .int .i64 o.rn, .int .i64 o.rr, .int .i64 o.side, .int .i64 o.ch, .int .i64 o.un, .int .i64 o.ur, .string o.key, .string o.name, .string o.value, .int .i64 o.fn, .int .i64 o.fr, .bool o.fa, .int .i64 o.tn, .int .i64 o.tr, .bool o.ta]

def eqS (a b a' b' : Int) : Bool := a == a' && b == b'
def eqA (n r : Int) (x : Bool) (n' r' : Int) (x' : Bool) : Bool := eqS n r n' r' && x == x'
def eqOp (a b : OpV) : Bool := eqS a.n a.r b.n b.r && (eqV a.deps b.deps && (a.kind == b.kind && (eqS a.rn a.rr b.rn b.rr && (a.side == b.side && (a.ch == b.ch && (eqS a.un a.ur b.un b.ur && (a.key.toList == b.key.toList && (a.name.toList == b.name.toList && (a.value.toList == b.value.toList && (eqA a.fn a.fr a.fa b.fn b.fr b.fa && eqA a.tn a.tr a.ta b.tn b.tr b.ta))))))))))

theorem OpC_size (o : OpV) : (OpC o).size = 26 := rfl
theorem OpC_one (o : OpV) : (OpC o).all (·.oneCell') = true := by simp [OpC, Value.oneCell']
theorem infoO : (Try.prog.info? 31).map (·.size) = some 26 := by kernel_rfl
theorem infoS : (Try.prog.info? 23).map (·.size) = some 2 := by kernel_rfl
theorem infoA : (Try.prog.info? 29).map (·.size) = some 3 := by kernel_rfl

theorem fieldsS : (Try.prog.fieldsOf 23).toList.map (fun f => (f.name == "_", f.type, f.offset)) = [(false, 3, 0), (false, 3, 1)] := by kernel_rfl
theorem fieldsA : (Try.prog.fieldsOf 29).toList.map (fun f => (f.name == "_", f.type, f.offset)) = [(false, 23, 0), (false, 4, 2)] := by kernel_rfl
theorem fieldsO : (Try.prog.fieldsOf 31).toList.map (fun f => (f.name == "_", f.type, f.offset)) = [(false, 23, 0), (false, 25, 2), (false, 26, 10), (false, 23, 11), (false, 27, 13), (false, 3, 14), (false, 23, 15), (false, 9, 17), (false, 9, 18), (false, 9, 19), (false, 29, 20), (false, 29, 23)] := by kernel_rfl

/-- The fields of a struct, as '==' goes over them. -/
def eqAll (P : Program) (d : Nat) (xs ys : Array Value) (w : World) : List (Bool × TypeId × Nat) → Result Bool
  | [] => .ok true w
  | (skip, t, off) :: fs => if skip = true then eqAll P d xs ys w fs else
      ((part t xs off).run P w).andThen fun a w1 => ((part t ys off).run P w1).andThen fun b w2 => ((Op.equalIn d t a b).run P w2).andThen fun r w3 => if r = true then eqAll P d xs ys w3 fs else .ok false w3
theorem eqFields_all (P : Program) (d : Nat) (xs ys : Array Value) : ∀ (fs : List Field) (w : World), (Op.eqFields d xs ys fs).run P w = eqAll P d xs ys w (fs.map fun f => (f.name == "_", f.type, f.offset))
  | [], w => by simp [Op.eqFields, eqAll]
  | f :: fs, w => by
    have ih := eqFields_all P d xs ys fs
    simp only [Op.eqFields, List.map_cons, eqAll, Sem.run_bind, Sem.run_ite, ne_eq, beq_iff_eq]
    by_cases h : f.name = "_"
    · simp [h, ih]
    · simp only [h, not_false_eq_true, if_true, if_false]
      congr 1
      funext a w1
      congr 1
      funext b w2
      congr 1
      funext r w3
      cases r <;> simp [ih]

theorem eqAll_cons {P : Program} {d : Nat} {xs ys : Array Value} {w : World} {t : TypeId} {off : Nat} {fs : List (Bool × TypeId × Nat)} {a b : Value} {r r' : Bool}
    (ha : (part t xs off).run P w = .ok a w) (hb : (part t ys off).run P w = .ok b w) (he : (Op.equalIn d t a b).run P w = .ok r w) (hf : eqAll P d xs ys w fs = .ok r' w) :
    eqAll P d xs ys w ((false, t, off) :: fs) = .ok (r && r') w := by
  simp only [eqAll, ha, hb, he, Result.andThen_ok, Bool.false_eq_true, if_false]
  cases r
  · rfl
  · simpa using hf
theorem eqAll_last {P : Program} {d : Nat} {xs ys : Array Value} {w : World} {t : TypeId} {off : Nat} {a b : Value} {r : Bool}
    (ha : (part t xs off).run P w = .ok a w) (hb : (part t ys off).run P w = .ok b w) (he : (Op.equalIn d t a b).run P w = .ok r w) :
    eqAll P d xs ys w [(false, t, off)] = .ok r w := by
  have := eqAll_cons (fs := []) ha hb he rfl
  rw [this]; simp

theorem run_eqS (d : Nat) (a b a' b' : Int) (w : World) : (Op.equalIn (d + 2) 23 (.agg #[.int .i64 a, .int .i64 b]) (.agg #[.int .i64 a', .int .i64 b'])).run Try.prog w = .ok (eqS a b a' b') w := by
  rw [run_equalIn_struct w (d + 1) 23 _ _ Try.underlying23 (by kernel_rfl), eqFields_all, fieldsS]
  exact eqAll_cons (a := .int .i64 a) (b := .int .i64 a') (run_part_plain w (by kernel_rfl) rfl) (run_part_plain w (by kernel_rfl) rfl) (run_equalIn_int w d _ _ _ _ _ Try.underlying3)
    (eqAll_last (a := .int .i64 b) (b := .int .i64 b') (run_part_plain w (by kernel_rfl) rfl) (run_part_plain w (by kernel_rfl) rfl) (run_equalIn_int w d _ _ _ _ _ Try.underlying3))

theorem run_eqA (d : Nat) (a b a' b' : Int) (x x' : Bool) (w : World) : (Op.equalIn (d + 3) 29 (.agg #[.int .i64 a, .int .i64 b, .bool x]) (.agg #[.int .i64 a', .int .i64 b', .bool x'])).run Try.prog w = .ok (eqA a b x a' b' x') w := by
  rw [run_equalIn_struct w (d + 2) 29 _ _ Try.underlying29 (by kernel_rfl), eqFields_all, fieldsA]
  have hp : ∀ (n r : Int) (y : Bool) (W : World), (part 23 #[.int .i64 n, .int .i64 r, .bool y] 0).run Try.prog W = .ok (.agg #[.int .i64 n, .int .i64 r]) W := fun n r y W => by show _ = _; kernel_rfl
  exact eqAll_cons (hp a b x w) (hp a' b' x' w) (run_eqS d _ _ _ _ w)
    (eqAll_last (a := .bool x) (b := .bool x') (run_part_plain w (by kernel_rfl) rfl) (run_part_plain w (by kernel_rfl) rfl) (run_equalIn_bool' w (d + 1) _ _ _ Try.underlying4))

/-- '==' on two vectors, at whatever depth. -/
theorem run_eqVecAt (d : Nat) (f g : Nat → Int) (w : World) : (Op.equalIn (d + 2) 25 (.agg (V f)) (.agg (V g))).run Try.prog w = .ok (eqV f g) w := by
  have hi : ∃ i, Try.prog.info? 3 = some i := by
    have := info3
    cases h : Try.prog.info? 3 with
    | none => rw [h] at this; simp at this
    | some i => exact ⟨i, rfl⟩
  obtain ⟨i, hi⟩ := hi
  rw [run_equalIn_array w (d + 1) (V f) (V g) Try.underlying25 hi]
  rw [cells3]
  have hp : ∀ (h : Nat → Int) (k : Nat) (W : World), k < 8 → (part 3 (V h) (k * 1)).run Try.prog W = .ok (.int .i64 (h k)) W := fun h k W hk => by
    rw [Nat.mul_one]
    exact run_part_plain W (by kernel_rfl) (V_get h k hk)
  have hq : ∀ (a b : Int) (W : World), (Op.equalIn (d + 1) 3 (.int .i64 a) (.int .i64 b)).run Try.prog W = .ok (a == b) W := fun a b W => run_equalIn_int W d _ _ _ _ _ Try.underlying3
  have key : ∀ (is : List Nat), (∀ k ∈ is, k < 8) → (Op.eqItems (d + 1) 3 1 (V f) (V g) is).run Try.prog w = .ok (is.all fun k => f k == g k) w := by
    intro is
    induction is with
    | nil => intro _; simp [Op.eqItems]
    | cons k is ih =>
      intro hk
      simp only [Op.eqItems, Sem.run_bind, hp _ k _ (hk k (by simp)), hq, Result.andThen_ok, List.all_cons]
      cases h : f k == g k
      · simp
      · simpa using ih fun j hj => hk j (by simp [hj])
  rw [key _ (by simp [List.mem_range])]
  have he : ((List.range 8).all fun k => f k == g k) = eqV f g := by
    rw [Bool.eq_iff_iff, eqV_iff]
    simp [List.all_eq_true]
  rw [he]

theorem part_vec (o : OpV) (W : World) : (part 25 (OpC o) 2).run Try.prog W = .ok (.agg (V o.deps)) W := by show _ = _; kernel_rfl
theorem part_id (o : OpV) (W : World) : (part 23 (OpC o) 0).run Try.prog W = .ok (.agg #[.int .i64 o.n, .int .i64 o.r]) W := by show _ = _; kernel_rfl
theorem part_ref (o : OpV) (W : World) : (part 23 (OpC o) 11).run Try.prog W = .ok (.agg #[.int .i64 o.rn, .int .i64 o.rr]) W := by show _ = _; kernel_rfl
theorem part_under (o : OpV) (W : World) : (part 23 (OpC o) 15).run Try.prog W = .ok (.agg #[.int .i64 o.un, .int .i64 o.ur]) W := by show _ = _; kernel_rfl
theorem part_from (o : OpV) (W : World) : (part 29 (OpC o) 20).run Try.prog W = .ok (.agg #[.int .i64 o.fn, .int .i64 o.fr, .bool o.fa]) W := by show _ = _; kernel_rfl
theorem part_to (o : OpV) (W : World) : (part 29 (OpC o) 23).run Try.prog W = .ok (.agg #[.int .i64 o.tn, .int .i64 o.tr, .bool o.ta]) W := by show _ = _; kernel_rfl

theorem plainK : Try.prog.plainKey 26 = true := by kernel_rfl
theorem plainSd : Try.prog.plainKey 27 = true := by kernel_rfl
theorem plainI : Try.prog.plainKey 3 = true := by kernel_rfl
theorem plainStr : Try.prog.plainKey 9 = true := by kernel_rfl

theorem stoodO : Try.prog.stoodInHeld 31 = false := by kernel_rfl
set_option maxRecDepth 20000 in
/-- '==' on two operations. -/
theorem run_eqOp (a b : OpV) (w : World) : (Op.equalIn 10000 31 (.agg (OpC a)) (.agg (OpC b))).run Try.prog w = .ok (eqOp a b) w := by
  rw [run_equalIn_struct w 9999 31 _ _ Try.underlying31 stoodO, eqFields_all, fieldsO]
  have hi := fun (t : TypeId) (k k' : IntKind) (x y : Int) (h : Try.prog.underlying t = some (.int k')) => run_equalIn_int (P := Try.prog) w 9998 t k k' x y h
  have hs := fun (x y : ByteArray) => run_equalIn_string (P := Try.prog) w 9998 9 x y Try.underlying9
  exact eqAll_cons (part_id a w) (part_id b w) (run_eqS 9997 _ _ _ _ w)
    (eqAll_cons (part_vec a w) (part_vec b w) (run_eqVecAt 9997 _ _ w)
    (eqAll_cons (a := .int .i64 a.kind) (b := .int .i64 b.kind) (run_part_plain w plainK rfl) (run_part_plain w plainK rfl) (hi _ _ _ _ _ Try.underlying26)
    (eqAll_cons (part_ref a w) (part_ref b w) (run_eqS 9997 _ _ _ _ w)
    (eqAll_cons (a := .int .i64 a.side) (b := .int .i64 b.side) (run_part_plain w plainSd rfl) (run_part_plain w plainSd rfl) (hi _ _ _ _ _ Try.underlying27)
    (eqAll_cons (a := .int .i64 a.ch) (b := .int .i64 b.ch) (run_part_plain w plainI rfl) (run_part_plain w plainI rfl) (hi _ _ _ _ _ Try.underlying3)
    (eqAll_cons (part_under a w) (part_under b w) (run_eqS 9997 _ _ _ _ w)
    (eqAll_cons (a := .string a.key) (b := .string b.key) (run_part_plain w plainStr rfl) (run_part_plain w plainStr rfl) (hs _ _)
    (eqAll_cons (a := .string a.name) (b := .string b.name) (run_part_plain w plainStr rfl) (run_part_plain w plainStr rfl) (hs _ _)
    (eqAll_cons (a := .string a.value) (b := .string b.value) (run_part_plain w plainStr rfl) (run_part_plain w plainStr rfl) (hs _ _)
    (eqAll_cons (part_from a w) (part_from b w) (run_eqA 9996 _ _ _ _ _ _ w)
    (eqAll_last (part_to a w) (part_to b w) (run_eqA 9996 _ _ _ _ _ _ w))))))))))))

end Go.Proofs.Yteclkaecjogbjaa
