/- The plain mathematics of checks and frames: no program in it. -/
import Derived.Test.YtijggjgdepjjgaaPlain
namespace Go.Proofs.Ytijggjgdepjjgaa
open Go.Lib

/-- the check, carried on from h -/
def chk (h : Nat) : List UInt8 → Nat
  | [] => h
  | c :: r => chk ((h * 263 + c.toNat + 7) % 4294967291) r
theorem chk_append (a b : List UInt8) : ∀ h, chk h (a ++ b) = chk (chk h a) b := by
  induction a with
  | nil => intro h; rfl
  | cons c a ih => intro h; rw [List.cons_append, chk, ih, chk]
theorem chk_lt (l : List UInt8) : ∀ h, h < 4294967291 → chk h l < 4294967291 := by
  induction l with
  | nil => intro h hh; exact hh
  | cons c a ih => intro h hh; rw [chk]; exact ih _ (by omega)
theorem step_inj {h h' c : Nat} (a : h < 4294967291) (b : h' < 4294967291) (e : (h * 263 + c + 7) % 4294967291 = (h' * 263 + c + 7) % 4294967291) : h = h' := by omega
theorem chk_inj (l : List UInt8) : ∀ h h', h < 4294967291 → h' < 4294967291 → chk h l = chk h' l → h = h' := by
  induction l with
  | nil => intro h h' _ _ e; exact e
  | cons c a ih =>
    intro h h' p q e
    rw [chk, chk] at e
    exact step_inj p q (ih _ _ (by omega) (by omega) e)
/-- one byte another: another check -/
theorem chk_set (l : List UInt8) : ∀ (h j : Nat) (hj : j < l.length) (c : UInt8), h < 4294967291 → c ≠ l[j] → chk h (l.set j c) ≠ chk h l := by
  induction l with
  | nil => intro h j hj; simp at hj
  | cons d a ih =>
    intro h j hj c hh hc
    cases j with
    | zero =>
      rw [List.set_cons_zero, chk, chk]
      intro e
      have := chk_inj a _ _ (by omega) (by omega) e
      have hd := d.toNat_lt
      have hc2 := c.toNat_lt
      apply hc
      rw [List.getElem_cons_zero]
      apply UInt8.toNat_inj.1
      omega
    | succ j =>
      rw [List.set_cons_succ, chk, chk]
      exact ih _ j (by simpa using hj) c (by omega) (by simpa using hc)
theorem chk_drop (l : List UInt8) (h k : Nat) (hk : k < l.length) : chk h (l.drop k) = chk ((h * 263 + l[k].toNat + 7) % 4294967291) (l.drop (k + 1)) := by
  rw [List.drop_eq_getElem_cons hk, chk]

/-- four bytes, the highest first -/
def be4 (h : Nat) : List UInt8 := [(h / 16777216).toUInt8, (h / 65536).toUInt8, (h / 256).toUInt8, h.toUInt8]
theorem be4_len (h : Nat) : (be4 h).length = 4 := rfl
theorem be4_inj {h h' : Nat} (a : h < 4294967296) (b : h' < 4294967296) (e : be4 h = be4 h') : h = h' := by
  unfold be4 at e
  simp only [List.cons.injEq, and_true] at e
  obtain ⟨e1, e2, e3, e4⟩ := e
  have f1 := congrArg UInt8.toNat e1
  have f2 := congrArg UInt8.toNat e2
  have f3 := congrArg UInt8.toNat e3
  have f4 := congrArg UInt8.toNat e4
  simp [UInt8.toNat_ofNat'] at f1 f2 f3 f4
  omega

/-- the check of a frame of l -/
def fchk (l : List UInt8) : Nat := chk (chk 1 (uvarint l.length)) l
theorem fchk_lt (l : List UInt8) : fchk l < 4294967291 := chk_lt _ _ (chk_lt _ _ (by decide))
/-- the frame of l -/
def frameOf (l : List UInt8) : List UInt8 := if l.length ≤ 700 then uvarint l.length ++ (be4 (fchk l) ++ l) else []
theorem frameOf_yes {l : List UInt8} (h : l.length ≤ 700) : frameOf l = uvarint l.length ++ (be4 (fchk l) ++ l) := by unfold frameOf; rw [if_pos h]
theorem frameOf_no {l : List UInt8} (h : 700 < l.length) : frameOf l = [] := by unfold frameOf; rw [if_neg (by omega)]
theorem uv700 {n : Nat} (h : n ≤ 700) : (uvarint n).length ≤ 2 := uvarint_length 1 n (by simp; omega)
theorem frameOf_len {l : List UInt8} (h : l.length ≤ 700) : (frameOf l).length = (uvarint l.length).length + 4 + l.length := by
  rw [frameOf_yes h, List.length_append, List.length_append, be4_len]; omega
theorem frameOf_le (l : List UInt8) : (frameOf l).length ≤ 706 := by
  by_cases h : l.length ≤ 700
  · rw [frameOf_len h]; have := uv700 h; omega
  · rw [frameOf_no (by omega)]; simp

/-- what bytes begin with: the frame's text, what is behind -/
def unfB (n : Nat) (r : List UInt8) : Bool := decide (n ≤ 700 ∧ n + 4 ≤ r.length) && (r.take 4 == be4 (chk (chk 1 (uvarint n)) ((r.drop 4).take n)))
def unf (l : List UInt8) : Option (List UInt8 × List UInt8) :=
  match tk 0 0 l with
  | some (n, r) => if unfB n r = true then some ((r.drop 4).take n, r.drop (4 + n)) else none
  | none => none
theorem unf_none {l : List UInt8} (h : tk 0 0 l = none) : unf l = none := by unfold unf; rw [h]
theorem unf_some {l r : List UInt8} {n : Nat} (h : tk 0 0 l = some (n, r)) (hb : unfB n r = true) : unf l = some ((r.drop 4).take n, r.drop (4 + n)) := by unfold unf; rw [h]; simp [hb]
theorem unf_not {l r : List UInt8} {n : Nat} (h : tk 0 0 l = some (n, r)) (hb : unfB n r = false) : unf l = none := by unfold unf; rw [h]; simp [hb]
theorem unfB_long {n : Nat} {r : List UInt8} (h : 700 < n ∨ r.length < n + 4) : unfB n r = false := by unfold unfB; rw [decide_eq_false (by omega)]; rfl
theorem unfB_check {n : Nat} {r : List UInt8} (h1 : n ≤ 700) (h2 : n + 4 ≤ r.length) : unfB n r = (r.take 4 == be4 (chk (chk 1 (uvarint n)) ((r.drop 4).take n))) := by unfold unfB; rw [decide_eq_true ⟨h1, h2⟩]; rfl

/-- what was taken are the bytes that Put tells -/
theorem tk_split : ∀ (l : List UInt8) (m : List UInt8) (acc n : Nat) (r : List UInt8), acc = val m → (∀ b ∈ m, 128 ≤ b.toNat) → tk m.length acc l = some (n, r) → m ++ l = uvarint n ++ r := by
  intro l
  induction l with
  | nil => intro m acc n r _ _ h; cases h
  | cons b l ih =>
    intro m acc n r hv hm h
    rw [tk] at h
    split at h
    · cases h
    · split at h
      · rename_i hb
        split at h
        · rename_i h1
          simp only [Option.some.injEq, Prod.mk.injEq] at h
          obtain ⟨rfl, rfl⟩ := h
          have e : acc + b.toNat * 2 ^ (7 * m.length) = val (m ++ [b]) := by rw [val_snoc, ← hv, Nat.mod_eq_of_lt hb]
          rw [e, uvarint_val m b hm hb (by
            by_cases h0 : b.toNat = 0
            · right
              have : m.length = 0 := by omega
              exact List.eq_nil_of_length_eq_zero this
            · exact .inl h0)]
          simp
        · cases h
      · rename_i hb
        have := ih (m ++ [b]) (acc + b.toNat % 128 * 2 ^ (7 * m.length)) n r (by rw [val_snoc, ← hv]) (by
          intro x hx
          rcases List.mem_append.1 hx with h' | h'
          · exact hm x h'
          · simp at h'; subst h'; omega) (by rw [List.length_append]; exact h)
        simpa using this
theorem tk_uv {l r : List UInt8} {n : Nat} (h : tk 0 0 l = some (n, r)) : l = uvarint n ++ r := tk_split l [] 0 n r rfl (by simp) h

theorem unf_frame {l : List UInt8} (h : l.length ≤ 700) (r : List UInt8) : unf (frameOf l ++ r) = some (l, r) := by
  have ht : tk 0 0 (frameOf l ++ r) = some (l.length, be4 (fchk l) ++ l ++ r) := by
    rw [frameOf_yes h, List.append_assoc]; exact tk_put (by omega) _
  have e1 : (be4 (fchk l) ++ l ++ r).take 4 = be4 (fchk l) := by
    rw [List.append_assoc, List.take_append_of_le_length (by rw [be4_len]; omega), List.take_of_length_le (by rw [be4_len]; omega)]
  have e2 : (be4 (fchk l) ++ l ++ r).drop 4 = l ++ r := by
    rw [List.append_assoc]; exact List.drop_left' (be4_len _)
  have e3 : ((be4 (fchk l) ++ l ++ r).drop 4).take l.length = l := by rw [e2]; exact List.take_left' rfl
  rw [unf_some ht (by rw [unfB_check h (by simp [be4_len]; omega), e1, e3]; unfold fchk; simp), e3]
  congr 2
  rw [← List.drop_drop, e2]; exact List.drop_left' rfl

/-- one byte of the check or the text another one -/
theorem unf_hurt {l : List UInt8} (h : l.length ≤ 700) (r : List UInt8) (k : Nat) (c : UInt8) (hk0 : (frameOf l).length - l.length - 4 ≤ k) (hk : k < (frameOf l).length) (hc : c ≠ (frameOf l)[k]) :
    unf ((frameOf l).set k c ++ r) = none := by
  have hl := frameOf_len h
  have hbl : (be4 (fchk l) ++ l).length = 4 + l.length := by rw [List.length_append, be4_len]
  obtain ⟨j, rfl⟩ : ∃ j, k = (uvarint l.length).length + j := ⟨k - (uvarint l.length).length, by omega⟩
  have hj : j < (be4 (fchk l) ++ l).length := by omega
  have hc' : c ≠ (be4 (fchk l) ++ l)[j] := by
    intro e; apply hc; rw [e]
    have h1 : (frameOf l)[(uvarint l.length).length + j]? = (be4 (fchk l) ++ l)[j]? := by
      rw [frameOf_yes h, List.getElem?_append_right (by omega)]; congr 1; omega
    have h2 := List.getElem?_eq_getElem hk
    rw [h1, List.getElem?_eq_getElem hj] at h2
    exact Option.some.inj h2
  have es : (frameOf l).set ((uvarint l.length).length + j) c = uvarint l.length ++ (be4 (fchk l) ++ l).set j c := by
    rw [frameOf_yes h, List.set_append_right _ _ (by omega)]
    congr 2; omega
  have ht : tk 0 0 ((frameOf l).set ((uvarint l.length).length + j) c ++ r) = some (l.length, (be4 (fchk l) ++ l).set j c ++ r) := by
    rw [es, List.append_assoc]; exact tk_put (by omega) _
  refine unf_not ht ?_
  rw [unfB_check h (by rw [List.length_append, List.length_set, hbl]; omega)]
  by_cases hj4 : j < 4
  · have e0 : (be4 (fchk l) ++ l).set j c = (be4 (fchk l)).set j c ++ l := List.set_append_left _ _ (by rw [be4_len]; omega)
    have e1 : ((be4 (fchk l) ++ l).set j c ++ r).take 4 = (be4 (fchk l)).set j c := by
      rw [e0, List.append_assoc]; exact List.take_left' (by rw [List.length_set, be4_len])
    have e2 : (((be4 (fchk l) ++ l).set j c ++ r).drop 4).take l.length = l := by
      rw [e0, List.append_assoc, List.drop_left' (by rw [List.length_set, be4_len])]; exact List.take_left' rfl
    rw [e1, e2]
    show ((be4 (fchk l)).set j c == be4 (fchk l)) = false
    rw [beq_eq_false_iff_ne]
    intro e
    apply hc'
    rw [List.getElem_append_left (by rw [be4_len]; omega)]
    have := List.getElem_set_self (l := be4 (fchk l)) (i := j) (a := c) (by rw [List.length_set, be4_len]; omega)
    simp only [e] at this
    exact this.symm
  · have hjl : j - 4 < l.length := by omega
    have e0 : (be4 (fchk l) ++ l).set j c = be4 (fchk l) ++ l.set (j - 4) c := by
      rw [List.set_append_right _ _ (by rw [be4_len]; omega), be4_len]
    have e1 : ((be4 (fchk l) ++ l).set j c ++ r).take 4 = be4 (fchk l) := by
      rw [e0, List.append_assoc]; exact List.take_left' (be4_len _)
    have e2 : (((be4 (fchk l) ++ l).set j c ++ r).drop 4).take l.length = l.set (j - 4) c := by
      rw [e0, List.append_assoc, List.drop_left' (be4_len _)]; exact List.take_left' (by rw [List.length_set])
    rw [e1, e2, beq_eq_false_iff_ne]
    intro e
    have hP := chk_lt (uvarint l.length) 1 (by decide)
    refine chk_set l (chk 1 (uvarint l.length)) (j - 4) hjl c hP ?_ (be4_inj (by have := chk_lt (l.set (j - 4) c) _ hP; omega) (by have := chk_lt l _ hP; omega) e.symm)
    intro e'
    apply hc'
    rw [List.getElem_append_right (by rw [be4_len]; omega), e']
    simp only [be4_len]

theorem unf_torn {l : List UInt8} (h : l.length ≤ 700) (k : Nat) (hk : k < (frameOf l).length) : unf ((frameOf l).take k) = none := by
  have hl := frameOf_len h
  rw [frameOf_yes h]
  by_cases hk1 : k < (uvarint l.length).length
  · rw [List.take_append_of_le_length (by omega)]
    exact unf_none (tk_open _ _ _ (uvarint_init _ _ hk1))
  · rw [List.take_append, List.take_of_length_le (by omega)]
    refine unf_not (tk_put (by omega) _) (unfB_long (.inr ?_))
    rw [List.length_take, List.length_append, be4_len]; omega

theorem conv_four {P : Program} (w : World) (src dst e : TypeId) (x0 x1 x2 x3 : Int) (hs : P.underlying src = some (.slice e)) (he : P.underlying e = some (.int .u8)) (hd : P.underlying dst = some .string)
    (a0 : 0 ≤ x0 ∧ x0 < 256) (a1 : 0 ≤ x1 ∧ x1 < 256) (a2 : 0 ≤ x2 ∧ x2 < 256) (a3 : 0 ≤ x3 ∧ x3 < 256) :
    (convert src dst (.slice (some ⟨w.heap.size, 0, none⟩) 4 4)).run P (w.alloc (.cells #[.int .u8 x0, .int .u8 x1, .int .u8 x2, .int .u8 x3] e)) = .ok (S [UInt8.ofNat x0.toNat, UInt8.ofNat x1.toNat, UInt8.ofNat x2.toNat, UInt8.ofNat x3.toNat]) (w.alloc (.cells #[.int .u8 x0, .int .u8 x1, .int .u8 x2, .int .u8 x3] e)) := by
  refine run_convert_bytes_back (w.alloc (.cells #[.int .u8 x0, .int .u8 x1, .int .u8 x2, .int .u8 x3] e)) src dst e ⟨w.heap.size, 0, none⟩ 4 [UInt8.ofNat x0.toNat, UInt8.ofNat x1.toNat, UInt8.ofNat x2.toNat, UInt8.ofNat x3.toNat] hs he hd ?_
  intro j hj
  have ex : ∀ x : Int, 0 ≤ x ∧ x < 256 → ((UInt8.ofNat x.toNat).toNat : Int) = x := by intro x hx; simp [UInt8.toNat_ofNat']; omega
  have hj4 : j = 0 ∨ j = 1 ∨ j = 2 ∨ j = 3 := by simp at hj; omega
  rcases hj4 with rfl | rfl | rfl | rfl
  · simp only [List.getElem_cons_zero, ex _ a0]; simp [Addr.add]
  · simp only [List.getElem_cons_succ, List.getElem_cons_zero, ex _ a1]; simp [Addr.add]
  · simp only [List.getElem_cons_succ, List.getElem_cons_zero, ex _ a2]; simp [Addr.add]
  · simp only [List.getElem_cons_succ, List.getElem_cons_zero, ex _ a3]; simp [Addr.add]
theorem be4_S {h : Nat} {x0 x1 x2 x3 : Int} (e0 : x0 = (h : Int) / 16777216 % 256) (e1 : x1 = (h : Int) / 65536 % 256) (e2 : x2 = (h : Int) / 256 % 256) (e3 : x3 = (h : Int) % 256) :
    [UInt8.ofNat x0.toNat, UInt8.ofNat x1.toNat, UInt8.ofNat x2.toNat, UInt8.ofNat x3.toNat] = be4 h := by
  have k : ∀ (n : Nat) (x : Int), x = (n : Int) % 256 → UInt8.ofNat x.toNat = n.toUInt8 := by
    intro n x hx
    apply UInt8.toNat_inj.1
    simp [UInt8.toNat_ofNat']; omega
  unfold be4
  rw [k _ _ (e0.trans (by rw [Int.natCast_ediv]; rfl)), k _ _ (e1.trans (by rw [Int.natCast_ediv]; rfl)), k _ _ (e2.trans (by rw [Int.natCast_ediv]; rfl)), k _ _ e3]

end Go.Proofs.Ytijggjgdepjjgaa
