/- ops and messages as bytes: the plain mathematics -/
import Derived.Test.YtnkinbobnhdpaaaDoorKNum
import Derived.Test.YtnkinbobnhdpaaaDoorOPure
namespace Go.Proofs.YtnkinbobnhdpaaaDoor
open Go.RowKit Go.Lib

/-- numbers as bytes, one behind the other -/
def encI (n : Int) : List UInt8 := uvarint n.toNat
def encL : List Int → List UInt8
  | [] => []
  | n :: r => encI n ++ encL r
theorem encL_append (a b : List Int) : encL (a ++ b) = encL a ++ encL b := by
  induction a with
  | nil => rfl
  | cons x a ih => show encI x ++ encL (a ++ b) = _; rw [ih]; show _ = (encI x ++ encL a) ++ _; rw [List.append_assoc]
def El.nums (e : El) : List Int := [e.s, e.q, e.i]
def elsB (l : List El) : List UInt8 := l.flatMap fun e => encL e.nums
theorem elsB_append (a b : List El) : elsB (a ++ b) = elsB a ++ elsB b := by unfold elsB; simp
theorem elsB_one (e : El) : elsB [e] = encL e.nums := by unfold elsB; simp
def txB (s : ByteArray) : List UInt8 := uvarint s.size ++ s.data.toList
/-- an op's bytes -/
def opB (o : OpD) : List UInt8 :=
  encL [o.site, o.seq, o.kind] ++ (if o.kind = 2 then encL [o.of, o.num, o.gen] else ((encL o.after.nums ++ txB o.text) ++ encL [(o.gone.length : Int)]) ++ elsB o.gone)
theorem encI_len (n : Int) (h : n ≤ 268435456) : (encI n).length ≤ 5 := by
  have := uvarint_length 4 n.toNat (by simp; omega)
  unfold encI; omega
theorem encL_len : ∀ (l : List Int), (∀ n ∈ l, n ≤ 268435456) → (encL l).length ≤ 5 * l.length
  | [], _ => by simp [encL]
  | x :: r, h => by
    have h1 := encI_len x (h x (by simp))
    have h2 := encL_len r (fun n hn => h n (by simp [hn]))
    show (encI x ++ encL r).length ≤ _
    rw [List.length_append, List.length_cons]; omega

/-- what is left to be taken; none: something was not there -/
abbrev St := Option (List UInt8)
def rd : St → Int × St
  | none => (0, none)
  | some l => match Nb.tk 0 0 l with
    | some (n, r) => ((n : Int), some r)
    | none => (0, none)
def rdT : St → ByteArray × St
  | none => (⟨#[]⟩, none)
  | some l => match Nb.tkText l with
    | some (t, r) => (⟨t.toArray⟩, some r)
    | none => (⟨#[]⟩, none)
def rdE (st : St) : El × St := (⟨(rd st).1, (rd (rd st).2).1, (rd (rd (rd st).2).2).1⟩, (rd (rd (rd st).2).2).2)
def rdEs : Nat → St → List El × St
  | 0, st => ([], st)
  | n + 1, st => ((rdEs n st).1 ++ [(rdE (rdEs n st).2).1], (rdE (rdEs n st).2).2)
/-- how many come next, at most so many -/
def rdN (most : Int) (st : St) : Int × St := if most < (rd st).1 then (0, none) else rd st
/-- three numbers -/
def rd3 (st : St) : (Int × Int × Int) × St := (((rd st).1, (rd (rd st).2).1, (rd (rd (rd st).2).2).1), (rd (rd (rd st).2).2).2)
def rdOp (st : St) : OpD × St :=
  let h := rd3 st
  if h.1.2.2 = 1 then
    let e := rdE h.2
    let t := rdT e.2
    let n := rdN 200 t.2
    let g := rdEs n.1.toNat n.2
    (⟨h.1.1, h.1.2.1, h.1.2.2, e.1, t.1, g.1, 0, 0, 0⟩, g.2)
  else if h.1.2.2 = 2 then
    let x := rd3 h.2
    (⟨h.1.1, h.1.2.1, h.1.2.2, ⟨0, 0, 0⟩, ⟨#[]⟩, [], x.1.1, x.1.2.1, x.1.2.2⟩, x.2)
  else (⟨h.1.1, h.1.2.1, h.1.2.2, ⟨0, 0, 0⟩, ⟨#[]⟩, [], 0, 0, 0⟩, h.2)
/-- the op that bytes begin with, that may be; what is behind -/
def tkOp (st : St) : Option (OpD × List UInt8) :=
  match rdOp st with
  | (o, some r) => if okOp o = true then some (o, r) else none
  | (_, none) => none

theorem rd_none : rd none = (0, none) := rfl
theorem rd_range (st : St) : 0 ≤ (rd st).1 ∧ (rd st).1 ≤ 268435456 := by
  unfold rd
  split
  · simp
  · split
    · rename_i n r h
      have := (Nb.tk_len _ _ _ _ _ h).1
      exact ⟨by simp, by simp; omega⟩
    · simp
/-- no more than so many bytes are left -/
def StLe (B : Nat) (st : St) : Prop := ∀ l, st = some l → l.length ≤ B
theorem rd_le {B : Nat} {st : St} (h : StLe B st) : StLe B (rd st).2 := by
  intro l hl
  unfold rd at hl
  split at hl
  · cases hl
  · rename_i l0
    split at hl
    · rename_i n r hk
      simp only [Option.some.injEq] at hl
      subst hl
      have := (Nb.tk_len _ _ _ _ _ hk).2
      have := h l0 rfl
      omega
    · cases hl
theorem rdT_le {B : Nat} {st : St} (h : StLe B st) : StLe B (rdT st).2 := by
  intro l hl
  unfold rdT at hl
  split at hl
  · cases hl
  · rename_i l0
    split at hl
    · rename_i t r hk
      simp only [Option.some.injEq] at hl
      subst hl
      unfold Nb.tkText at hk
      split at hk
      · rename_i n r0 hk0
        have h1 := (Nb.tk_len _ _ _ _ _ hk0).2
        have h2 := h l0 rfl
        split at hk
        · simp only [Option.some.injEq, Prod.mk.injEq] at hk
          rw [← hk.2, List.length_drop]; omega
        · cases hk
      · cases hk
    · cases hl
theorem rdT_size {B : Nat} {st : St} (h : StLe B st) : (rdT st).1.size ≤ B := by
  unfold rdT
  split
  · exact Nat.zero_le _
  · rename_i l0
    split
    · rename_i t r hk
      have h2 := h l0 rfl
      unfold Nb.tkText at hk
      split at hk
      · rename_i n r0 hk0
        have h1 := (Nb.tk_len _ _ _ _ _ hk0).2
        split at hk
        · simp only [Option.some.injEq, Prod.mk.injEq] at hk
          show t.toArray.size ≤ B
          rw [← hk.1, List.size_toArray, List.length_take]; omega
        · cases hk
      · cases hk
    · exact Nat.zero_le _
theorem rdE_le {B : Nat} {st : St} (h : StLe B st) : StLe B (rdE st).2 := rd_le (rd_le (rd_le h))
theorem rd3_le {B : Nat} {st : St} (h : StLe B st) : StLe B (rd3 st).2 := rd_le (rd_le (rd_le h))
theorem rdEs_le {B : Nat} {st : St} (h : StLe B st) : ∀ n, StLe B (rdEs n st).2
  | 0 => h
  | n + 1 => rdE_le (rdEs_le h n)
theorem rdEs_len (st : St) : ∀ n, (rdEs n st).1.length = n
  | 0 => rfl
  | n + 1 => by show ((rdEs n st).1 ++ [_]).length = _; rw [List.length_append, rdEs_len st n]; rfl
theorem rdN_le {B : Nat} {m : Int} {st : St} (h : StLe B st) : StLe B (rdN m st).2 := by
  unfold rdN
  split
  · intro l hl; cases hl
  · exact rd_le h
theorem rdN_range (m : Int) (hm : 0 ≤ m) (st : St) : 0 ≤ (rdN m st).1 ∧ (rdN m st).1 ≤ m := by
  have := rd_range st
  unfold rdN
  split
  · exact ⟨Int.le_refl _, hm⟩
  · exact ⟨this.1, by omega⟩
theorem StLe.none {B : Nat} : StLe B none := fun _ h => by cases h
theorem rdOp_le {B : Nat} {st : St} (h : StLe B st) : StLe B (rdOp st).2 := by
  unfold rdOp
  simp only
  split
  · exact rdEs_le (rdN_le (rdT_le (rdE_le (rd3_le h)))) _
  · split
    · exact rd3_le (rd3_le h)
    · exact rd3_le h
/-- once it is bad it stays so -/
theorem rdEs_none : ∀ n, (rdEs n none).2 = none
  | 0 => rfl
  | n + 1 => by show (rdE (rdEs n none).2).2 = none; rw [rdEs_none n]; rfl
theorem rdEs_bad {st : St} {k : Nat} (h : (rdEs k st).2 = none) : ∀ n, k ≤ n → (rdEs n st).2 = none
  | 0, hn => by have : k = 0 := by omega
                subst this; exact h
  | n + 1, hn => by
    by_cases e : k = n + 1
    · subst e; exact h
    · show (rdE (rdEs n st).2).2 = none
      rw [rdEs_bad h n (by omega)]; rfl

/-- a message -/
structure MsD where
  kind : Int
  site : Int
  nonce : Int
  known : Int
  seq : Int
  err : Int
  ops : List OpD
def MsD.head (m : MsD) : List Int := [m.kind, m.site, m.nonce, m.known, m.seq, m.err, (m.ops.length : Int)]
def opsB (l : List OpD) : List UInt8 := l.flatMap opB
theorem opsB_append (a b : List OpD) : opsB (a ++ b) = opsB a ++ opsB b := by unfold opsB; simp
theorem opsB_one (o : OpD) : opsB [o] = opB o := by unfold opsB; simp
def msB (m : MsD) : List UInt8 := encL m.head ++ opsB m.ops
def z0 (x : Int) : Bool := decide (x = 0)
/-- the fields' ranges -/
def fieldsOk (kind site nonce known seq err : Int) (n : Nat) : Bool :=
  if kind = 1 then z0 site && (btw nonce 1 268435456 && (z0 known && (z0 seq && (z0 err && decide (n = 0)))))
  else if kind = 2 then btw site 1 8 && (btw nonce 1 268435456 && (z0 known && (z0 seq && (z0 err && decide (n = 0)))))
  else if kind = 3 then btw site 1 8 && (z0 nonce && (btw known 0 40 && (z0 seq && (z0 err && decide (n = 0)))))
  else if kind = 4 then btw site 1 8 && (z0 nonce && (btw known 0 40 && (z0 seq && (z0 err && decide (n = 1)))))
  else if kind = 5 then z0 site && (z0 nonce && (btw known 0 40 && (z0 seq && (z0 err && decide (n ≤ 4)))))
  else if kind = 6 then btw site 1 8 && (z0 nonce && (z0 known && (btw seq 1 268435456 && (btw err 1 8 && decide (n = 0)))))
  else false
def MsD.fields (m : MsD) : Bool := fieldsOk m.kind m.site m.nonce m.known m.seq m.err m.ops.length
def okMs (m : MsD) : Bool := m.fields && m.ops.all okOp

def rdOps : Nat → St → List OpD × St
  | 0, st => ([], st)
  | n + 1, st => ((rdOps n st).1 ++ [(rdOp (rdOps n st).2).1], (rdOp (rdOps n st).2).2)
theorem rdOps_le {B : Nat} {st : St} (h : StLe B st) : ∀ n, StLe B (rdOps n st).2
  | 0 => h
  | n + 1 => rdOp_le (rdOps_le h n)
theorem rdOps_len (st : St) : ∀ n, (rdOps n st).1.length = n
  | 0 => rfl
  | n + 1 => by show ((rdOps n st).1 ++ [_]).length = _; rw [List.length_append, rdOps_len st n]; rfl
/-- six numbers -/
def rd6 (st : St) : (Int × Int × Int × Int × Int × Int) × St :=
  (((rd3 st).1.1, (rd3 st).1.2.1, (rd3 st).1.2.2, (rd3 (rd3 st).2).1.1, (rd3 (rd3 st).2).1.2.1, (rd3 (rd3 st).2).1.2.2), (rd3 (rd3 st).2).2)
theorem rd6_le {B : Nat} {st : St} (h : StLe B st) : StLe B (rd6 st).2 := rd3_le (rd3_le h)
def rdMs (st : St) : MsD × St :=
  let h := rd6 st
  let n := rdN 4 h.2
  let g := rdOps n.1.toNat n.2
  (⟨h.1.1, h.1.2.1, h.1.2.2.1, h.1.2.2.2.1, h.1.2.2.2.2.1, h.1.2.2.2.2.2, g.1⟩, g.2)
/-- the message whose bytes these are -/
def tkMs (l : List UInt8) : Option MsD :=
  match rdMs (some l) with
  | (m, some []) => if okMs m = true then some m else none
  | _ => none

/-- the page's: ops that may be, one behind the other -/
def tkOps : Nat → St → Option (List OpD × List UInt8)
  | 0, none => none
  | 0, some l => some ([], l)
  | n + 1, st => match tkOps n st with
    | some (L, r) => match tkOp (some r) with
      | some (o, r2) => some (L ++ [o], r2)
      | none => none
    | none => none
theorem tkOp_some {st : St} {o : OpD} {r : List UInt8} : tkOp st = some (o, r) ↔ rdOp st = (o, some r) ∧ okOp o = true := by
  unfold tkOp
  constructor
  · intro h
    split at h
    · rename_i o' r' h0
      split at h
      · rename_i h1
        simp only [Option.some.injEq, Prod.mk.injEq] at h
        obtain ⟨rfl, rfl⟩ := h
        exact ⟨h0, h1⟩
      · cases h
    · cases h
  · rintro ⟨h0, h1⟩
    rw [h0]; simp [h1]
theorem tkOps_some (st : St) : ∀ (n : Nat) (L : List OpD) (r : List UInt8), tkOps n st = some (L, r) ↔ rdOps n st = (L, some r) ∧ L.all okOp = true
  | 0, L, r => by
    cases st with
    | none => simp [tkOps, rdOps]
    | some l =>
      simp only [tkOps, rdOps, Option.some.injEq, Prod.mk.injEq]
      constructor
      · rintro ⟨rfl, rfl⟩; exact ⟨⟨rfl, rfl⟩, rfl⟩
      · rintro ⟨⟨rfl, rfl⟩, _⟩; exact ⟨rfl, rfl⟩
  | n + 1, L, r => by
    have ih := tkOps_some st n
    constructor
    · intro h
      rw [tkOps] at h
      split at h
      · rename_i L0 r0 h0
        obtain ⟨h1, h2⟩ := (ih L0 r0).1 h0
        split at h
        · rename_i o r2 h3
          obtain ⟨h4, h5⟩ := tkOp_some.1 h3
          simp only [Option.some.injEq, Prod.mk.injEq] at h
          obtain ⟨rfl, rfl⟩ := h
          refine ⟨?_, by simp [List.all_append, h2, h5]⟩
          show ((rdOps n st).1 ++ [(rdOp (rdOps n st).2).1], (rdOp (rdOps n st).2).2) = _
          rw [h1]; simp only; rw [h4]
        · cases h
      · cases h
    · rintro ⟨h1, h2⟩
      have h1' : ((rdOps n st).1 ++ [(rdOp (rdOps n st).2).1], (rdOp (rdOps n st).2).2) = (L, some r) := h1
      simp only [Prod.mk.injEq] at h1'
      obtain ⟨e1, e2⟩ := h1'
      subst e1
      simp only [List.all_append, Bool.and_eq_true, List.all_cons, List.all_nil, Bool.and_true] at h2
      cases hs : (rdOps n st).2 with
      | none => rw [hs] at e2; cases e2
      | some l0 =>
        have h3 : tkOps n st = some ((rdOps n st).1, l0) := (ih _ _).2 ⟨by rw [← hs], h2.1⟩
        rw [hs] at e2 h2
        have h4 : tkOp (some l0) = some ((rdOp (some l0)).1, r) := tkOp_some.2 ⟨by rw [← e2], h2.2⟩
        rw [tkOps, h3]; simp only; rw [h4]
theorem tkMs_some {l : List UInt8} {m : MsD} : tkMs l = some m ↔ rdMs (some l) = (m, some []) ∧ okMs m = true := by
  unfold tkMs
  constructor
  · intro h
    split at h
    · rename_i m' h0
      split at h
      · rename_i h1
        simp only [Option.some.injEq] at h
        subst h
        exact ⟨h0, h1⟩
      · cases h
    · cases h
  · rintro ⟨h0, h1⟩
    rw [h0]; simp [h1]
/-- the page's taking of a message: n ops that may be, nothing behind -/
def qMs (l : List UInt8) : Option MsD :=
  let h := rd6 (some l)
  let n := rd h.2
  match tkOps n.1.toNat n.2 with
  | some (L, []) => if okMs ⟨h.1.1, h.1.2.1, h.1.2.2.1, h.1.2.2.2.1, h.1.2.2.2.2.1, h.1.2.2.2.2.2, L⟩ = true then some ⟨h.1.1, h.1.2.1, h.1.2.2.1, h.1.2.2.2.1, h.1.2.2.2.2.1, h.1.2.2.2.2.2, L⟩ else none
  | _ => none
theorem okMs_ops {m : MsD} (h : okMs m = true) : m.ops.length ≤ 4 ∧ m.ops.all okOp = true := by
  unfold okMs at h
  rw [Bool.and_eq_true] at h
  refine ⟨?_, h.2⟩
  have h1 := h.1
  unfold MsD.fields fieldsOk at h1
  generalize m.ops.length = n at *
  repeat' split at h1
  all_goals first | (simp only [Bool.and_eq_true, decide_eq_true_eq] at h1; omega) | cases h1
theorem rdOps_none : ∀ n, (rdOps n none).2 = none
  | 0 => rfl
  | n + 1 => by
    show (rdOp (rdOps n none).2).2 = none
    rw [rdOps_none n]
    unfold rdOp
    have e : (rd3 none).1.2.2 = 0 := rfl
    simp only [e]
    rfl
theorem qMs_eq (l : List UInt8) : qMs l = tkMs l := by
  have key : ∀ m, qMs l = some m ↔ tkMs l = some m := by
    intro m
    rw [tkMs_some]
    unfold qMs rdMs
    simp only
    generalize rd6 (some l) = h
    obtain ⟨⟨a, b, c, d, e, f⟩, st⟩ := h
    simp only
    have hr := rd_range st
    unfold rdN
    generalize rd st = n at *
    obtain ⟨n, st2⟩ := n
    simp only at hr ⊢
    constructor
    · intro h
      split at h
      · rename_i L h0
        split at h
        · rename_i h1
          simp only [Option.some.injEq] at h
          subst h
          obtain ⟨h2, h3⟩ := (tkOps_some _ _ _ _).1 h0
          have h4 := okMs_ops h1
          have hl : L.length = n.toNat := by have := rdOps_len st2 n.toNat; rw [h2] at this; exact this
          simp only at h4
          rw [if_neg (by omega)]
          exact ⟨by rw [h2], h1⟩
        · cases h
      · cases h
    · rintro ⟨h, h1⟩
      by_cases hn : 4 < n
      · rw [if_pos hn] at h
        have h5 := congrArg Prod.snd h
        simp only [rdOps_none] at h5
        cases h5
      · rw [if_neg hn] at h
        simp only [Prod.mk.injEq] at h
        obtain ⟨rfl, h6⟩ := h
        have h7 : tkOps n.toNat st2 = some ((rdOps n.toNat st2).1, []) := (tkOps_some _ _ _ _).2 ⟨by rw [← h6], (okMs_ops h1).2⟩
        rw [h7]
        simp only
        rw [if_pos h1]
  cases h : tkMs l with
  | none =>
    cases h2 : qMs l with
    | none => rfl
    | some m => rw [(key m).1 h2] at h; cases h
  | some m => exact (key m).2 h
end Go.Proofs.YtnkinbobnhdpaaaDoor
