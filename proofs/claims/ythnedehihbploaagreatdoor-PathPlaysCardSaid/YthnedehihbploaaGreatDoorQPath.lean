/- The steps of an op on a row: which they are; the runes of a text made of runes. Pure. -/
import Derived.Test.YthnedehihbploaaGreatDoorEPure
import Derived.Test.YthnedehihbploaaGreatDoorPSort
import Derived.Shelf.SlGeneric
import Derived.Shelf.SlLaysE0
import Derived.Shelf.SlicesQ.Reverse
import Derived.Test.YthnedehihbploaaGreatDoorRPage
import Derived.Test.YthnedehihbploaaGreatDoorRGo
import Derived.Test.YthnedehihbploaaGreatDoorDIdle
namespace Go.Proofs.YthnedehihbploaaGreatDoor
open Go.RowKit Go.Lib

/-- what was encoded, decoded, is what was written -/
theorem decodeN_one {n b0 b1 b2 b3 : Nat} (h : b0 < 128) : decodeN n b0 b1 b2 b3 = (b0, 1) := by unfold decodeN; rw [if_pos h]
theorem encN_two {n r b2 b3 : Nat} (h1 : 128 ≤ r) (h2 : r ≤ 2047) (hn : 1 < n) : decodeN n (192 + r / 64) (128 + r % 64) b2 b3 = (r, 2) := by
  unfold decodeN
  rw [if_neg (by omega), if_pos ⟨by omega, hn, by omega⟩, if_pos (by omega)]
  congr 1
  omega
theorem encN_three {n r b3 : Nat} (h1 : 2048 ≤ r) (h2 : r < 55296 ∨ (57344 ≤ r ∧ r ≤ 65535)) (hn : 2 < n) : decodeN n (224 + r / 4096) (128 + r / 64 % 64) (128 + r % 64) b3 = (r, 3) := by
  have e : (224 + r / 4096) % 16 * 4096 + (128 + r / 64 % 64) % 64 * 64 + (128 + r % 64) % 64 = r := by omega
  unfold decodeN
  rw [if_neg (by omega), if_neg (by omega), if_pos ⟨by omega, ⟨by omega, by omega⟩, hn, by omega⟩, e, if_pos (by omega)]
theorem encN_four {n r : Nat} (h1 : 65536 ≤ r) (h2 : r ≤ 1114111) (hn : 3 < n) : decodeN n (240 + r / 262144) (128 + r / 4096 % 64) (128 + r / 64 % 64) (128 + r % 64) = (r, 4) := by
  have e : (240 + r / 262144) % 8 * 262144 + (128 + r / 4096 % 64) % 64 * 4096 + (128 + r / 64 % 64) % 64 * 64 + (128 + r % 64) % 64 = r := by omega
  unfold decodeN
  rw [if_neg (by omega), if_neg (by omega), if_neg (by omega), if_pos ⟨by omega, ⟨by omega, by omega⟩, ⟨by omega, by omega⟩, hn, by omega⟩, e, if_pos (by omega)]
theorem get_mid (A E Z : List UInt8) (k : Nat) (hk : k < E.length) : (⟨(A ++ E ++ Z).toArray⟩ : ByteArray).get! (A.length + k) = E[k] := by
  show ((A ++ E ++ Z).toArray)[A.length + k]! = _
  have hlt : A.length + k < (A ++ E ++ Z).toArray.size := by simp; omega
  rw [getElem!_pos ((A ++ E ++ Z).toArray) (A.length + k) hlt]
  simp only [List.getElem_toArray]
  rw [List.getElem_append_left (by simp; omega), List.getElem_append_right (by omega)]
  congr 1
  omega
theorem enc_get {A Z : List UInt8} {r : Int} {k : Nat} {b : Nat} (h : (Lib.encodeRuneZ r)[k]? = some (b : Int)) (hb : b < 256) : ((⟨(A ++ Lib.encodeRune r ++ Z).toArray⟩ : ByteArray).get! (A.length + k)).toNat = b := by
  have h2 : (Lib.encodeRune r)[k]? = some ((b : Int).toNat.toUInt8) := by simp [Lib.encodeRune, h]
  obtain ⟨hk, hv⟩ := List.getElem?_eq_some_iff.1 h2
  rw [get_mid A _ Z k hk, hv]
  simp
  omega
theorem decode_enc (A Z : List UInt8) (r : Int) (hr : okR r = true) : Utf8.decode ⟨(A ++ Lib.encodeRune r ++ Z).toArray⟩ A.length = (r.toNat, (Lib.encodeRune r).length) := by
  have h := okR_of hr
  have hsz : (⟨(A ++ Lib.encodeRune r ++ Z).toArray⟩ : ByteArray).size = A.length + (Lib.encodeRune r).length + Z.length := by
    show ((A ++ Lib.encodeRune r ++ Z).toArray).size = _
    simp
    omega
  have hlen : (Lib.encodeRune r).length = (Lib.encodeRuneZ r).length := by simp [Lib.encodeRune]
  obtain ⟨n, rfl⟩ : ∃ n : Nat, r = n := ⟨r.toNat, by omega⟩
  rw [Lib.decode_at, hsz]
  by_cases h1 : n ≤ 127
  · have hz : Lib.encodeRuneZ (n : Int) = [(n : Int)] := encodeRuneZ_one (by omega) (by omega)
    have g0 := enc_get (A := A) (Z := Z) (r := n) (k := 0) (b := n) (by rw [hz]; rfl) (by omega)
    rw [Nat.add_zero] at g0
    rw [g0, decodeN_one (by omega), hlen, hz]
    rfl
  by_cases h2 : n ≤ 2047
  · have hz : Lib.encodeRuneZ (n : Int) = [192 + (n : Int) / 64, 128 + (n : Int) % 64] := encodeRuneZ_two (by omega) (by omega)
    have g0 := enc_get (A := A) (Z := Z) (r := n) (k := 0) (b := 192 + n / 64) (by rw [hz]; simp) (by omega)
    have g1 := enc_get (A := A) (Z := Z) (r := n) (k := 1) (b := 128 + n % 64) (by rw [hz]; simp) (by omega)
    rw [Nat.add_zero] at g0
    rw [g0, g1, hlen, hz, encN_two (by omega) h2 (by simp; omega)]
    rfl
  by_cases h3 : n ≤ 65535
  · have hz : Lib.encodeRuneZ (n : Int) = [224 + (n : Int) / 4096, 128 + (n : Int) / 64 % 64, 128 + (n : Int) % 64] := encodeRuneZ_three (by omega)
    have g0 := enc_get (A := A) (Z := Z) (r := n) (k := 0) (b := 224 + n / 4096) (by rw [hz]; simp) (by omega)
    have g1 := enc_get (A := A) (Z := Z) (r := n) (k := 1) (b := 128 + n / 64 % 64) (by rw [hz]; simp) (by omega)
    have g2 := enc_get (A := A) (Z := Z) (r := n) (k := 2) (b := 128 + n % 64) (by rw [hz]; simp) (by omega)
    rw [Nat.add_zero] at g0
    rw [g0, g1, g2, hlen, hz, encN_three (by omega) (by omega) (by simp; omega)]
    rfl
  · have hz : Lib.encodeRuneZ (n : Int) = [240 + (n : Int) / 262144, 128 + (n : Int) / 4096 % 64, 128 + (n : Int) / 64 % 64, 128 + (n : Int) % 64] := encodeRuneZ_four (by omega) (by omega)
    have g0 := enc_get (A := A) (Z := Z) (r := n) (k := 0) (b := 240 + n / 262144) (by rw [hz]; simp) (by omega)
    have g1 := enc_get (A := A) (Z := Z) (r := n) (k := 1) (b := 128 + n / 4096 % 64) (by rw [hz]; simp) (by omega)
    have g2 := enc_get (A := A) (Z := Z) (r := n) (k := 2) (b := 128 + n / 64 % 64) (by rw [hz]; simp) (by omega)
    have g3 := enc_get (A := A) (Z := Z) (r := n) (k := 3) (b := 128 + n % 64) (by rw [hz]; simp) (by omega)
    rw [Nat.add_zero] at g0
    rw [g0, g1, g2, g3, hlen, hz, encN_four (by omega) (by omega) (by simp; omega)]
    rfl
theorem enc_pos (r : Int) : 1 ≤ (Lib.encodeRune r).length := by
  have := (Lib.encodeRuneZ_length r).1
  simpa [Lib.encodeRune] using this
theorem rnsFrom_mk : ∀ (L : List Int) (A : List UInt8) (f : Nat), (∀ r ∈ L, okR r = true) → (Go.Proofs.YthnedehihbploaaGreatDoor.mk L).length ≤ f → rnsFrom ⟨(A ++ Go.Proofs.YthnedehihbploaaGreatDoor.mk L).toArray⟩ f A.length = L
  | [], A, f, _, _ => by
    rw [mk_nil, List.append_nil]
    refine rnsFrom_end _ f _ ?_
    show ¬ A.length < A.toArray.size
    simp
  | r :: L, A, f, h, hf => by
    rw [mk_cons, List.length_append] at hf
    have hp := enc_pos r
    obtain ⟨g, rfl⟩ : ∃ g, f = g + 1 := ⟨f - 1, by omega⟩
    have hr := h r (by simp)
    have hr0 := okR_of hr
    have hlt : A.length < (⟨(A ++ Go.Proofs.YthnedehihbploaaGreatDoor.mk (r :: L)).toArray⟩ : ByteArray).size := by
      show _ < ((A ++ Go.Proofs.YthnedehihbploaaGreatDoor.mk (r :: L)).toArray).size
      rw [mk_cons]
      simp
      omega
    rw [rnsFrom_step _ g _ hlt]
    have hd := decode_enc A (Go.Proofs.YthnedehihbploaaGreatDoor.mk L) r hr
    rw [show A ++ Go.Proofs.YthnedehihbploaaGreatDoor.mk (r :: L) = A ++ Lib.encodeRune r ++ Go.Proofs.YthnedehihbploaaGreatDoor.mk L from by rw [mk_cons, List.append_assoc], hd]
    have ih := rnsFrom_mk L (A ++ Lib.encodeRune r) g (fun x hx => h x (by simp [hx])) (by omega)
    rw [List.length_append] at ih
    simp only
    rw [ih]
    congr 1
    omega
theorem rns_mk (L : List Int) (h : ∀ r ∈ L, okR r = true) : rns ⟨(Go.Proofs.YthnedehihbploaaGreatDoor.mk L).toArray⟩ = L := by
  have := rnsFrom_mk L [] (Go.Proofs.YthnedehihbploaaGreatDoor.mk L).length h (Nat.le_refl _)
  simpa [rns, ByteArray.size] using this
/-- the runes of a row's text -/
theorem rns_doc {l : List OpD} (h : okRow l) : rns ⟨(docT l).toArray⟩ = visR l := rns_mk _ (visR_ok h)
theorem docT_le {l : List OpD} (h : okRow l) : (docT l).length ≤ 800 := by
  have h1 := mk_length (visR l)
  have h2 := visE_le h
  rw [visR_len] at h1
  unfold docT
  omega
theorem visR_get {l : List OpD} {i : Nat} (h : i < (visE l).length) : (visR l)[i]'(by rw [visR_len]; exact h) = rnE l (visE l)[i] := by simp [visR]
theorem visE_more_ord {l : List OpD} (o : OpD) {e : El} (h : e ∈ visE l) : e ∈ ordE (l ++ [o]) := ord_more o (visE_ord h)
/-- with an op more the rune of what was written is as it was -/
theorem rnE_old {l : List OpD} {o : OpD} (h : okRow (l ++ [o])) {e : El} (he : e ∈ ordE l) : rnE (l ++ [o]) e = rnE l e := by
  obtain ⟨h0, ht⟩ := eRow_snoc h
  unfold rnE
  rw [rnP_snoc (erow_nm h0) (tk_goes ht).2, if_neg]
  rintro ⟨h1, h2⟩
  obtain ⟨hk, _⟩ := ord_edit h0 he
  rcases erow_nm h0 e.s e.q with ⟨g1, _⟩ | ⟨p, _, _, g3, _⟩
  · omega
  · rw [h1, h2, (tk_goes ht).2] at g3
    omega

/-- a step -/
structure Pr where
  k : Int
  at_ : Int
  r : Int
  s : Int
  deriving DecidableEq, Inhabited
def Pr.v (p : Pr) : Value := .agg #[.int .i64 p.k, .int .i64 p.at_, .int .i32 p.r, .int .i64 p.s]
def Pr.cs (p : Pr) : List Value := [.int .i64 p.k, .int .i64 p.at_, .int .i32 p.r, .int .i64 p.s]
/-- of an element at a place: the step, if it is chosen -/
def pk1 (v : List El) (c : El → Bool) (g : Nat → Pr) (i : Nat) : List Pr := match v[i]? with | some e => if c e then [g i] else [] | none => []
/-- the steps of the chosen from i on -/
def sg (v : List El) (c : El → Bool) (g : Nat → Pr) (i : Nat) : List Pr := ((List.range v.length).drop i).flatMap (pk1 v c g)
/-- and of the first n -/
def pk (v : List El) (c : El → Bool) (g : Nat → Pr) (n : Nat) : List Pr := (List.range n).flatMap (pk1 v c g)
theorem pk1_at {v : List El} {i : Nat} (h : i < v.length) (c : El → Bool) (g : Nat → Pr) : pk1 v c g i = if c v[i] then [g i] else [] := by
  unfold pk1
  rw [List.getElem?_eq_getElem h]
theorem pk_zero (v : List El) (c : El → Bool) (g : Nat → Pr) : pk v c g 0 = [] := rfl
theorem pk_succ (v : List El) (c : El → Bool) (g : Nat → Pr) (n : Nat) : pk v c g (n + 1) = pk v c g n ++ pk1 v c g n := by
  unfold pk
  rw [List.range_succ, List.flatMap_append]
  simp
theorem sg_end (v : List El) (c : El → Bool) (g : Nat → Pr) : sg v c g v.length = [] := by
  unfold sg
  rw [List.drop_eq_nil_of_le (by simp)]
  rfl
theorem sg_step {v : List El} {i : Nat} (h : i < v.length) (c : El → Bool) (g : Nat → Pr) : sg v c g i = pk1 v c g i ++ sg v c g (i + 1) := by
  unfold sg
  rw [List.drop_eq_getElem_cons (by simpa using h), List.flatMap_cons]
  simp
theorem sg_pk (v : List El) (c : El → Bool) (g : Nat → Pr) : sg v c g 0 = pk v c g v.length := rfl
theorem pk1_rev (v : List El) (c : El → Bool) (g : Nat → Pr) (i : Nat) : (pk1 v c g i).reverse = pk1 v c g i := by
  unfold pk1
  cases v[i]? with
  | none => rfl
  | some e => simp only; split <;> rfl
theorem sg_rev {v : List El} {i : Nat} (h : i < v.length) (c : El → Bool) (g : Nat → Pr) : (sg v c g i).reverse = (sg v c g (i + 1)).reverse ++ pk1 v c g i := by
  rw [sg_step h, List.reverse_append, pk1_rev]
theorem pk1_len (v : List El) (c : El → Bool) (g : Nat → Pr) (i : Nat) : (pk1 v c g i).length ≤ 1 := by
  unfold pk1
  cases v[i]? with
  | none => simp
  | some e => simp only; split <;> simp
theorem pk_len (v : List El) (c : El → Bool) (g : Nat → Pr) : ∀ n, (pk v c g n).length ≤ n
  | 0 => by simp [pk]
  | n + 1 => by
    rw [pk_succ, List.length_append]
    have := pk_len v c g n
    have := pk1_len v c g n
    omega
theorem pk_congr {v : List El} {c : El → Bool} {g g' : Nat → Pr} (h : ∀ i, i < v.length → g i = g' i) : ∀ n, n ≤ v.length → pk v c g n = pk v c g' n
  | 0, _ => rfl
  | n + 1, hn => by
    rw [pk_succ, pk_succ, pk_congr h n (by omega), pk1_at hn, pk1_at hn, h n hn]
/-- does the row lack an element? -/
def lk (v : List El) (e : El) : Bool := !decide (e ∈ v)
/-- the steps of what is seen ahead, and of what is seen behind -/
def gOut (l : List OpD) (s : Int) (i : Nat) : Pr := ⟨2, i, ((visR l)[i]?).getD 0, s⟩
def gIn (l : List OpD) (s : Int) (i : Nat) : Pr := ⟨1, i, ((visR l)[i]?).getD 0, s⟩
def outP (l : List OpD) (o : OpD) : List Pr := (pk (visE l) (lk (visE (l ++ [o]))) (gOut l o.site) (visE l).length).reverse
def inP (l : List OpD) (o : OpD) : List Pr := pk (visE (l ++ [o])) (lk (visE l)) (gIn (l ++ [o]) o.site) (visE (l ++ [o])).length
def pathP (l : List OpD) (o : OpD) : List Pr := outP l o ++ inP l o
theorem gOut_is {l : List OpD} {o : OpD} (h : okRow (l ++ [o])) (s : Int) {i : Nat} (hi : i < (visE l).length) : gOut l s i = ⟨2, i, rnE (l ++ [o]) (visE l)[i], s⟩ := by
  unfold gOut
  rw [List.getElem?_eq_getElem (by rw [visR_len]; exact hi), Option.getD_some, visR_get hi, rnE_old h (visE_ord (List.getElem_mem hi))]
theorem gIn_is {l : List OpD} (s : Int) {i : Nat} (hi : i < (visE l).length) : gIn l s i = ⟨1, i, rnE l (visE l)[i], s⟩ := by
  unfold gIn
  rw [List.getElem?_eq_getElem (by rw [visR_len]; exact hi), Option.getD_some, visR_get hi]
theorem outP_len {l : List OpD} (h : okRow l) (o : OpD) : (outP l o).length ≤ 200 := by
  unfold outP
  rw [List.length_reverse]
  exact Nat.le_trans (pk_len _ _ _ _) (visE_le h)
theorem inP_len {l : List OpD} {o : OpD} (h : okRow (l ++ [o])) : (inP l o).length ≤ 200 := Nat.le_trans (pk_len _ _ _ _) (visE_le h)
end Go.Proofs.YthnedehihbploaaGreatDoor
/- a slice of steps; slices.Reverse at steps; lectionaryref0.EqPrims -/
namespace Go.Proofs
open Go.Shelf
/-- slices.Reverse at steps, laid at this dump in the shelf's form -/
def Tryz.revP_ren : Go.Shelf.Ren := ⟨fun | 35 => 48 | n => n, fun | 22 => 33 | 23 => 44 | 3 => 3 | 4 => 4 | 0 => 0 | n => n, fun | n => n⟩
theorem Tryz.revP : Go.Proofs.SlLaysE0.n35 Tryz.prog Tryz.revP_ren := {
  mixed := by kernel_rfl
  f35 := ⟨Tryz.f48.name, by decide, Tryz.func48.trans (congrArg some (by kernel_rfl))⟩
  t0 := Tryz.underlying0
  a0 := Tryz.isAgg0
  z0 := Tryz.sizeOf0
  v0 := Tryz.zeroValue0
  t3 := Tryz.underlying3
  a3 := Tryz.isAgg3
  z3 := Tryz.sizeOf3
  v3 := Tryz.zeroValue3
  t4 := Tryz.underlying4
  a4 := Tryz.isAgg4
  z4 := Tryz.sizeOf4
  v4 := Tryz.zeroValue4
  t22 := Tryz.underlying33
  a22 := Tryz.isAgg33
  z22 := Tryz.sizeOf33
  v22 := Tryz.zeroValue33 }
end Go.Proofs
namespace Go.Proofs.YthnedehihbploaaGreatDoor
open Go.RowKit Go.Lib Go.Sort

theorem Tryz.infoPrim : (Tryz.prog.info? 44).map (fun i => (i.zero, i.size, i.bytes)) = some (some (.agg #[.int .i64 0, .int .i64 0, .int .i32 0, .int .i64 0]), 4, 32) := by kernel_rfl
/-- steps as cells -/
def pcs (l : List Pr) : List Value := l.flatMap Pr.cs
theorem pcs_nil : pcs [] = [] := rfl
theorem pcs_append (a b : List Pr) : pcs (a ++ b) = pcs a ++ pcs b := by simp [pcs]
theorem pcs_length (l : List Pr) : (pcs l).length = 4 * l.length := by
  induction l with
  | nil => rfl
  | cons e l ih => show (Pr.cs e ++ pcs l).length = _; rw [List.length_append, ih, List.length_cons]; show 4 + _ = _; omega
theorem pcs_get (l : List Pr) (j c : Nat) (h : j < l.length) (hc : c < 4) : (pcs l)[j * 4 + c]? = (Pr.cs l[j])[c]? := by
  induction l generalizing j with
  | nil => exact absurd h (by simp)
  | cons e l ih =>
    show (Pr.cs e ++ pcs l)[j * 4 + c]? = _
    cases j with
    | zero =>
      rw [List.getElem?_append_left (by show 0 * 4 + c < 4; omega)]
      simp
    | succ j =>
      rw [List.getElem?_append_right (by show 4 ≤ _; omega)]
      have : (j + 1) * 4 + c - (Pr.cs e).length = j * 4 + c := by show (j + 1) * 4 + c - 4 = _; omega
      rw [this, ih j (by simpa using h)]
      simp
theorem pcs_one1 (e : Pr) : ∀ u ∈ Pr.cs e, u.oneCell' = true := by
  intro u hu
  unfold Pr.cs at hu
  simp only [List.mem_cons, List.not_mem_nil, or_false] at hu
  rcases hu with rfl | rfl | rfl | rfl <;> rfl
theorem pcs_one (l : List Pr) : ∀ u ∈ pcs l, u.oneCell' = true := by
  intro u hu
  obtain ⟨e, _, he⟩ := List.mem_flatMap.1 hu
  exact pcs_one1 e u he
/-- a slice of steps that may be read -/
structure PrimsAt (w : World) (a : Option Addr) (l : List Pr) : Prop where
  cell : ∀ j (h : j < l.length), ∃ b off, a = some ⟨b, off, none⟩ ∧ b < w.heap.size ∧ w.cell? ⟨b, off + j * 4, none⟩ = some (.int .i64 l[j].k) ∧ w.cell? ⟨b, off + j * 4 + 1, none⟩ = some (.int .i64 l[j].at_) ∧ w.cell? ⟨b, off + j * 4 + 2, none⟩ = some (.int .i32 l[j].r) ∧ w.cell? ⟨b, off + j * 4 + 3, none⟩ = some (.int .i64 l[j].s)
theorem PrimsAt.below {w w' : World} {a : Option Addr} {l : List Pr} (h : PrimsAt w a l) (hb : Below w.heap.size w w') : PrimsAt w' a l :=
  ⟨fun j hj => by
    obtain ⟨b, off, h1, h2, h3, h4, h5, h6⟩ := h.cell j hj
    exact ⟨b, off, h1, Nat.lt_of_lt_of_le h2 hb.size, (hb.cell (p := ⟨b, off + j * 4, none⟩) h2).trans h3, (hb.cell (p := ⟨b, off + j * 4 + 1, none⟩) h2).trans h4, (hb.cell (p := ⟨b, off + j * 4 + 2, none⟩) h2).trans h5, (hb.cell (p := ⟨b, off + j * 4 + 3, none⟩) h2).trans h6⟩⟩
theorem PrimsAt.nil {w : World} (a : Option Addr) : PrimsAt w a [] := ⟨fun j hj => absurd hj (by simp)⟩
theorem prims_own {w : World} {base : Nat} {v : Value} {l : List Pr} (h : w.ownsRow base 44 4 v l.length (pcs l)) :
    ∃ a cap, v = .slice a l.length cap ∧ PrimsAt w a l ∧ l.length ≤ cap ∧ cap ≤ maxLen ∧ (a = none → l.length = 0 ∧ cap = 0) := by
  rcases h.2 with ⟨hv, h0⟩ | ⟨g, cap, cur, hv, hg, hh, hc, hm, hcs, ht⟩
  · exact ⟨none, 0, by rw [hv, h0], by rw [List.eq_nil_of_length_eq_zero h0]; exact PrimsAt.nil none, by omega, by omega, fun _ => ⟨h0, rfl⟩⟩
  · refine ⟨_, cap, hv, ⟨fun j hj => ⟨g, 0, rfl, (Array.getElem?_eq_some_iff.1 hh).1, ?_, ?_, ?_, ?_⟩⟩, hc, hm, fun h => by cases h⟩
    all_goals subst hv
    · rw [Nat.zero_add, h.cellAt (j * 4) (by omega)]
      exact pcs_get l j 0 hj (by decide)
    · rw [Nat.zero_add, h.cellAt (j * 4 + 1) (by omega)]
      exact pcs_get l j 1 hj (by decide)
    · rw [Nat.zero_add, h.cellAt (j * 4 + 2) (by omega)]
      exact pcs_get l j 2 hj (by decide)
    · rw [Nat.zero_add, h.cellAt (j * 4 + 3) (by omega)]
      exact pcs_get l j 3 hj (by decide)
theorem prims_news {w : World} {a : Option Addr} {l : List Pr} (h : PrimsAt w a l) : ∀ ad, a = some ad → ∀ j u, (pcs l)[j]? = some u → w.cell? (ad.add j) = some u := by
  intro ad had j u hu
  have hj : j < (pcs l).length := (List.getElem?_eq_some_iff.1 hu).1
  rw [pcs_length] at hj
  have hk : j / 4 < l.length := by omega
  obtain ⟨b, off, ha, hb, c0, c1, c2, c3⟩ := h.cell (j / 4) hk
  rw [had] at ha
  obtain rfl := Option.some.inj ha
  have hget : (pcs l)[j]? = (Pr.cs l[j / 4])[j % 4]? := by
    have h9 := pcs_get l (j / 4) (j % 4) hk (by omega)
    rw [show j / 4 * 4 + j % 4 = j from by omega] at h9
    exact h9
  rw [hget] at hu
  rw [Addr.add_lit]
  have h3 : j % 4 = 0 ∨ j % 4 = 1 ∨ j % 4 = 2 ∨ j % 4 = 3 := by omega
  unfold Pr.cs at hu
  rcases h3 with h3 | h3 | h3 | h3
  · rw [h3] at hu
    rw [show off + j = off + j / 4 * 4 from by omega, c0]
    exact hu
  · rw [h3] at hu
    rw [show off + j = off + j / 4 * 4 + 1 from by omega, c1]
    exact hu
  · rw [h3] at hu
    rw [show off + j = off + j / 4 * 4 + 2 from by omega, c2]
    exact hu
  · rw [h3] at hu
    rw [show off + j = off + j / 4 * 4 + 3 from by omega, c3]
    exact hu
theorem cell_prim_new (w : World) (e : Pr) (t : TypeId) : ∀ j u, (Pr.cs e)[j]? = some u → (w.alloc (.cells #[.int .i64 e.k, .int .i64 e.at_, .int .i32 e.r, .int .i64 e.s] t)).cell? ((⟨w.heap.size, 0, none⟩ : Addr).add j) = some u := by
  intro j u hu
  rw [Addr.add_lit, Nat.zero_add, World.cell?_alloc_new]
  rw [← hu]
  show (#[Value.int .i64 e.k, .int .i64 e.at_, .int .i32 e.r, .int .i64 e.s] : Array Value)[j]? = [Value.int .i64 e.k, .int .i64 e.at_, .int .i32 e.r, .int .i64 e.s][j]?
  simp
/-- new memory that holds steps -/
def OwnPP (l : List Pr) (w : World) (e : Ending) (w' : World) : Prop := ∃ v, e = .returned v ∧ w'.ownsRow w.heap.size 44 4 v l.length (pcs l) ∧ Below w.heap.size w w'

theorem flat_pcs (l : List Pr) : (flatK Pr.cs 4 l.toArray).toList = pcs l := by
  apply List.ext_getElem?
  intro t
  by_cases ht : t < l.length * 4
  · have h1 : (flatK Pr.cs 4 l.toArray)[t]! = (Pr.cs l.toArray[t / 4]!)[t % 4]! := get_flatK _ _ _ _ (by simpa using ht)
    have hj : t / 4 < l.length := by omega
    have hc : t % 4 < 4 := Nat.mod_lt _ (by decide)
    have h2 := pcs_get l (t / 4) (t % 4) hj hc
    have h3 : t / 4 * 4 + t % 4 = t := by omega
    rw [h3] at h2
    rw [h2]
    have h4 : l.toArray[t / 4]! = l[t / 4] := by rw [getElem!_pos l.toArray (t / 4) (by simpa using hj)]; simp
    rw [h4] at h1
    have h5 : t < (flatK Pr.cs 4 l.toArray).size := by simpa using ht
    rw [getElem!_pos _ t h5] at h1
    have h6 : t % 4 < (Pr.cs l[t / 4]).length := hc
    rw [getElem!_pos _ (t % 4) h6] at h1
    rw [List.getElem?_eq_getElem h6, ← h1]
    simp
  · rw [List.getElem?_eq_none (by simp; omega), List.getElem?_eq_none (by rw [pcs_length]; omega)]
theorem holdsP_own {w : World} {g : Nat} {cur : Array Value} {e : TypeId} {l : List Pr} (hb : w.heap[g]? = some (.cells cur e (0, 0))) (ht : cur.toList.take (l.length * 4) = pcs l) : HoldsK Pr.cs 4 w g 0 l.toArray := by
  intro j hj
  have hj' : j < l.length * 4 := by simpa using hj
  refine ⟨?_, by simp [World.frozen?, hb]⟩
  have h1 : (cur.toList.take (l.length * 4))[j]? = (pcs l)[j]? := by rw [ht]
  rw [List.getElem?_take_of_lt hj'] at h1
  simp only [World.cell?, hb, Nat.zero_add]
  simp only [Option.isSome_none, Bool.false_eq_true, if_false]
  rw [← Array.getElem?_toList, h1, ← flat_pcs]
  have h5 : j < (flatK Pr.cs 4 l.toArray).size := by simpa using hj'
  rw [getElem!_pos _ j h5]
  simp
theorem heap_putP {w : World} {g n : Nat} {cur : Array Value} {e : TypeId} {fr : Nat × Nat} (d : Array Pr) (hb : w.heap[g]? = some (.cells cur e fr)) :
    (putRowK Pr.cs 4 (Sort.ahead w n) g 0 d).heap[g]? = some (.cells (putCells id 0 (flatK Pr.cs 4 d) cur) e fr) := by
  unfold putRowK
  simp [putRow, mapBlock, Sort.ahead, Array.getElem?_modify, hb, onCells]
theorem grownBy_putP {w : World} {g n : Nat} (d : Array Pr) : w.grownBy (putRowK Pr.cs 4 (Sort.ahead w n) g 0 d) (some g) := by
  refine ⟨rfl, rfl, rfl, by simp [putRowK], fun k hk hne => ?_⟩
  unfold putRowK
  have : g ≠ k := fun e => hne (by rw [e])
  simp [putRow, mapBlock, Sort.ahead, Array.getElem?_modify, this]
theorem take_putP (cur : Array Value) (l : List Pr) (h : l.length * 4 ≤ cur.size) : (putCells id 0 (flatK Pr.cs 4 l.toArray) cur).toList.take (l.length * 4) = pcs l := by
  apply List.ext_getElem?
  intro j
  by_cases hj : j < l.length * 4
  · rw [List.getElem?_take_of_lt hj, Array.getElem?_toList, ← flat_pcs]
    have h5 : j < (flatK Pr.cs 4 l.toArray).size := by simpa using hj
    simp only [putCells, Array.getElem?_mapIdx, Nat.zero_le, Nat.zero_add, h5, and_self, if_true, Nat.sub_zero, id]
    rw [Array.getElem?_eq_getElem (show j < cur.size by omega), getElem!_pos _ j h5]
    simp
  · rw [List.getElem?_take_eq_none (by omega), List.getElem?_eq_none (by rw [pcs_length]; omega)]
/-- turned round, in the row -/
def RevPost (base B : Nat) (w0 : World) (a : Option Addr) (cap n : Nat) (l : List Pr) (e : Ending) (w' : World) : Prop :=
  e = .returned (.tuple #[]) ∧ w'.ownsRow base 44 4 (.slice a n cap) n (pcs l.reverse) ∧ Below B w0 w'
theorem pReverse_any (a : Option Addr) (cap n base B : Nat) (l : List Pr) (w0 w : World) (hown : w.ownsRow base 44 4 (.slice a n cap) n (pcs l)) (hn : l.length = n) (hB : B ≤ base) (hBw : B ≤ w.heap.size) (hb : Below B w0 w) (hl : n ≤ 1000000) :
    Calls Tryz.prog 48 #[.slice a n cap] w (RevPost base B w0 a cap n l) := by
  subst hn
  rcases hown.2 with ⟨hv, h0⟩ | ⟨g, cap', cur, hv, hg, hh, hnc, hcm, hcs, ht⟩
  · simp only [Value.slice.injEq] at hv
    obtain ⟨rfl, _, rfl⟩ := hv
    have h1 : l = [] := List.eq_nil_of_length_eq_zero h0
    subst h1
    refine Calls.mono (AnyQ.slices_Reverse_empty Tryz.revP none 0 w) ?_
    rintro e w' ⟨rfl, rfl⟩
    exact ⟨rfl, hown, hb⟩
  · simp only [Value.slice.injEq] at hv
    obtain ⟨rfl, _, rfl⟩ := hv
    have hcon := AnyQ.slices_Reverse Tryz.revP 4 Tryz.isAgg44 Tryz.sizeOf44 Pr.cs (fun _ => rfl) pcs_one1 g 0 cap l.toArray w (holdsP_own hh ht) (by simp; omega)
    rw [List.size_toArray] at hcon
    refine Calls.mono hcon ?_
    rintro e w' ⟨rfl, n, rfl⟩
    have hlen : l.reverse.length = l.length := List.length_reverse
    have ht2 := take_putP cur l.reverse (by rw [hlen]; omega)
    rw [hlen] at ht2
    rw [show l.toArray.reverse = l.reverse.toArray from by simp]
    refine ⟨rfl, ⟨by rw [pcs_length, hlen]; omega, .inr ⟨g, cap, _, rfl, hg, heap_putP _ hh, hnc, hcm, by simp [putCells, hcs], ht2⟩⟩, ?_⟩
    exact hb.grown (grownBy_putP _) hBw (fun k hk => by cases hk; omega)

end Go.Proofs.YthnedehihbploaaGreatDoor
/- path: a hand's steps, what a view lacks, the steps of the chosen -/
namespace Go.Proofs.YthnedehihbploaaGreatDoor
open Go.RowKit Go.Lib Go.Sort

def StepPost (k at_ r s : Int) (w : World) (e : Ending) (w' : World) : Prop := e = .returned (.agg #[.int .i64 k, .int .i64 at_, .int .i32 r, .int .i64 s]) ∧ Below w.heap.size w w'
theorem hOut_any (s at_ r : Int) (w : World) : Calls Tryz.prog 47 #[.int .i64 s, .int .i64 at_, .int .i32 r] w (StepPost 2 at_ r s w) := by
  go_enter Tryz.func47, Tryz.ntmps47
  go_wp2
  refine bodyPost_ret (v := .agg #[.int .i64 2, .int .i64 at_, .int .i32 r, .int .i64 s]) (by simp [results, Tryz.results47, go_sem]) rfl ⟨rfl, ?_⟩
  exact (Below.refl _ _).alloc (Nat.le_refl _) _
theorem hIn_any (s at_ r : Int) (w : World) : Calls Tryz.prog 49 #[.int .i64 s, .int .i64 at_, .int .i32 r] w (StepPost 1 at_ r s w) := by
  go_enter Tryz.func49, Tryz.ntmps49
  go_wp2
  refine bodyPost_ret (v := .agg #[.int .i64 1, .int .i64 at_, .int .i32 r, .int .i64 s]) (by simp [results, Tryz.results49, go_sem]) rfl ⟨rfl, ?_⟩
  exact (Below.refl _ _).alloc (Nat.le_refl _) _
set_option maxRecDepth 100000 in
set_option maxHeartbeats 1000000 in
theorem vLacks_any (a b : Option Addr) (n c m d : Nat) (l : List El) (e : El) (w : World) (h : ElemsAt w a l) (hn : l.length = n) (hl : n ≤ 1000000) : Calls Tryz.prog 46 #[.agg #[.slice a n c, .slice b m d], e.v] w (BoB (lk l e) w) := by
  have HC := Lib.hid (fun wx (hx : Below w.heap.size w wx) => (show Calls Tryz.prog 82 #[.slice a n c, e.v] wx (BoB (decide (e ∈ l)) wx) from by
    have := Contains_any a c l e wx (h.below hx) (by omega)
    rwa [hn] at this))
  unfold lk
  generalize decide (e ∈ l) = x at *
  obtain ⟨es, eq, ei⟩ := e
  unfold El.v at HC ⊢
  unfold BoB at HC
  simp only at HC ⊢
  have HB0 := Lib.hid (((Below.refl w.heap.size w).alloc (Nat.le_refl _) (.cells #[.slice a n c, .slice b m d] 89)).alloc (by simp) (.cells #[.int .i64 es, .int .i64 eq, .int .i64 ei] 37))
  clear h hn hl
  go_enter Tryz.func46, Tryz.ntmps46
  go_wp2_with (first | (go_at_call 82; refine (HC.out _ HB0.out).mono ?_; rintro x1 w1 ⟨rfl, hb1⟩; have HB1 := Lib.hid hb1; clear hb1) | fail)
  go_ret
  exact ⟨rfl, HB0.out.trans (HB1.out.mono HB0.out.size)⟩
set_option maxRecDepth 100000 in
set_option maxHeartbeats 4000000 in
theorem vEach_out (a b a2 b2 : Option Addr) (n c d n2 c2 m2 d2 : Nat) (v v2 : List El) (rs : List Int) (s : Int) (w : World) (h : ElemsAt w a v) (hn : v.length = n) (hr : RunesAt w b rs) (hrn : rs.length = n) (h2 : ElemsAt w a2 v2) (hn2 : v2.length = n2) (hl : n ≤ 1000) (hl2 : n2 ≤ 1000) :
    Calls Tryz.prog 45 #[.agg #[.slice a n c, .slice b n d], .func (.func 46) #[.agg #[.slice a2 n2 c2, .slice b2 m2 d2]] #[], .func (.func 47) #[.int .i64 s] #[]] w (OwnPP (pk v (lk v2) (fun i => ⟨2, i, (rs[i]?).getD 0, s⟩) n) w) := by
  obtain ⟨i0, hi, hz0, hz1, hz2⟩ := info_parts Tryz.infoPrim
  have HE := Lib.hid h
  have HR := Lib.hid hr
  have HN := Lib.hid hn
  have HRN := Lib.hid hrn
  have HLK := Lib.hid (fun (e : El) wx (hx : Below w.heap.size w wx) => vLacks_any a2 b2 n2 c2 m2 d2 v2 e wx (h2.below hx) hn2 (by omega))
  have HST := Lib.hid (fun (at_ r : Int) wx => hOut_any s at_ r wx)
  unfold StepPost at HST
  unfold BoB at HLK
  have HB0 := Lib.hid ((Below.refl w.heap.size w).alloc (Nat.le_refl _) (.cells #[.slice a n c, .slice b n d] 89))
  have hc0 : (w.alloc (.cells #[.slice a n c, .slice b n d] 89)).cell? ⟨w.heap.size, 0, none⟩ = some (.slice a n c) := by simp
  have hc1 : (w.alloc (.cells #[.slice a n c, .slice b n d] 89)).cell? ⟨w.heap.size, 1, none⟩ = some (.slice b n d) := by simp
  have hz : (w.alloc (.cells #[.slice a n c, .slice b n d] 89)).heap.size = w.heap.size + 1 := by simp
  have hga : ∀ k e, v[k]? = some e → k < n := fun k e hk => by have := (List.getElem?_eq_some_iff.1 hk).1; omega
  clear h hr hn hrn h2 hn2
  go_enter Tryz.func45, Tryz.ntmps45
  have HGA := Lib.hid hga
  clear hga
  go_wp2_with fail
  generalize hW : w.alloc (.cells #[.slice a n c, .slice b n d] 89) = W0 at *
  have HZ := Lib.hid hz
  have HC1 := Lib.hid hc1
  clear hz hW hc0 hc1
  go_loopw [7, 13] (fun s7 s13 wr => ∃ k : Nat, k ≤ n ∧ s13 = .int .i64 k ∧ wr.ownsRow (w.heap.size + 1) 44 4 s7 (pk v (lk v2) (fun i => ⟨2, i, (rs[i]?).getD 0, s⟩) k).length (pcs (pk v (lk v2) (fun i => ⟨2, i, (rs[i]?).getD 0, s⟩) k)) ∧ Below W0.heap.size W0 wr) (fun _ s13 _ => n - (RowKit.intOf s13).toNat)
  case atStart => exact ⟨0, Nat.zero_le _, rfl, World.ownsRow_nil _ _ _ _, Below.refl _ _⟩
  case round =>
    obtain ⟨k, hk, rfl, hown, hbel⟩ := hrel
    have HOW := Lib.hid hown
    have HBE := Lib.hid hbel
    have HBW := Lib.hid (HB0.out.trans (hbel.mono HB0.out.size))
    have hzr : w.heap.size + 1 ≤ wr.heap.size := by rw [← HZ.out]; exact hbel.size
    clear hown
    by_cases hlt : k < n
    · have hkl : k < v.length := by rw [HN.out]; exact hlt
      have hkr : k < rs.length := by rw [HRN.out]; exact hlt
      obtain ⟨eb, eo, rfl, heb, x0, x1, x2⟩ := (HE.out.below HBW.out).cell k hkl
      have HSU := Lib.hid (pk_succ v (lk v2) (fun i => ⟨2, i, (rs[i]?).getD 0, s⟩) k)
      have HP1 := Lib.hid (pk1_at hkl (lk v2) (fun i => ⟨2, i, (rs[i]?).getD 0, s⟩))
      have HPL := Lib.hid (pk_len v (lk v2) (fun i => ⟨2, i, (rs[i]?).getD 0, s⟩) k)
      obtain ⟨rb, ro, hra, hrb, y0⟩ := HR.out.cell k hkr
      have HY := Lib.hid (fun wx (hx : Below w.heap.size w wx) => And.intro ((hx.cell (p := ⟨rb, ro + k, none⟩) hrb).trans y0) (Nat.lt_of_lt_of_le hrb hx.size))
      have HRK := Lib.hid (show (rs[k]?).getD 0 = rs[k] from by rw [List.getElem?_eq_getElem hkr]; rfl)
      subst hra
      generalize rs[k] = r at *
      have HBX := Lib.hid (BoxE.new wr v[k])
      have HBA := Lib.hid ((Below.refl wr.heap.size wr).alloc (Nat.le_refl _) (.cells #[.int .i64 (v[k]).s, .int .i64 (v[k]).q, .int .i64 (v[k]).i] 37))
      generalize hP0 : pk v (lk v2) (fun i => ⟨2, i, (rs[i]?).getD 0, s⟩) k = P0 at *
      generalize hP1 : pk v (lk v2) (fun i => ⟨2, i, (rs[i]?).getD 0, s⟩) (k + 1) = P1 at *
      clear hP0 hkr
      have HP9 := Lib.hid hP1
      clear hP1
      have HCL := Lib.hid (fun wx (hx : Below w.heap.size w wx) => HLK.out v[k] wx hx)
      generalize v[k] = e at *
      clear hkl y0 hrb
      obtain ⟨es, eq, ei⟩ := e
      unfold El.v at HCL
      simp only at x0 x1 x2 HBX HBA HCL HP1
      cases hck : lk v2 ⟨es, eq, ei⟩
      · rw [hck] at HCL HP1
        clear hck hbel
        go_wp2_with (first | (go_at_call 46; refine (HCL.out _ (HBW.out.trans (HBA.out.mono HBW.out.size))).mono ?_; rintro x5 w5 ⟨rfl, hb5⟩; have HB5 := Lib.hid (HBA.out.trans (hb5.mono HBA.out.size)); clear hb5) | fail)
        go_roundw
        case rel => exact ⟨k + 1, by omega, by go_num, by
          have h9 := owns_belE HOW.out HB5.out
          rw [HP9.out, HSU.out, HP1.out]
          simpa using h9, HBE.out.trans (HB5.out.mono HBE.out.size)⟩
        case measure => simp [RowKit.intOf]; omega
      · rw [hck] at HCL HP1
        have c2 : P0.length + 1 ≤ maxLen := by have := HPL.out; unfold maxLen; omega
        have c3 : (P0.length + 1) * 32 ≤ 140737488355328 := by have := HPL.out; omega
        clear hck hbel
        go_wp2_with (first
          | (go_at_call 46; refine (HCL.out _ (HBW.out.trans (HBA.out.mono HBW.out.size))).mono ?_; rintro x5 w5 ⟨rfl, hb5⟩; have HB5 := Lib.hid (HBA.out.trans (hb5.mono HBA.out.size)); have HBE5 := Lib.hid (HBE.out.trans (HB5.out.mono HBE.out.size)); obtain ⟨y0, hyl⟩ := HY.out w5 (HBW.out.trans (HB5.out.mono HBW.out.size)); have z1 := (HBE5.out.cell (p := ⟨w.heap.size, 1, none⟩) (Nat.lt_of_lt_of_eq (Nat.lt_succ_self w.heap.size) HZ.out.symm)).trans HC1.out; have hzl : w.heap.size < w5.heap.size := (by have := HBE5.out.size; rw [HZ.out] at this; omega); clear hb5)
          | (go_at_call 47; refine (HST.out _ _ _).mono ?_; rintro x6 w6 ⟨rfl, hb6⟩; have HB6 := Lib.hid (HB5.out.trans (hb6.mono HB5.out.size)); have HBE6 := Lib.hid (HBE.out.trans (HB6.out.mono HBE.out.size)); have hz6 : w.heap.size + 1 ≤ w6.heap.size := (by have := HBE6.out.size; rw [HZ.out] at this; omega); have HOW6 := Lib.hid (owns_belE HOW.out HB6.out); clear hb6 y0 hyl z1 hzl)
          | (at_builtin; refine wpList_append_own _ rfl _ _ 33 rfl (w.heap.size + 1) 44 i0 (.agg #[.int .i64 0, .int .i64 0, .int .i32 0, .int .i64 0]) 4 32 Tryz.underlying33 hi hz0 ‹_› hz2 rfl (by decide) _ _ _ rfl (HOW6.out.alloc _) ⟨w6.heap.size, 0, none⟩ 1 1 (Pr.cs ⟨2, k, r, s⟩) rfl rfl (cell_prim_new _ ⟨2, k, r, s⟩ _) (pcs_one1 ⟨2, k, r, s⟩) c2 c3 (by simp; omega) ?_; intro v8 w8 hown8 hgrow8 _; have HB8 := Lib.hid ((HBE6.out.alloc HBE6.out.size _).grown hgrow8 (by have := HBE6.out.size; simp; omega) (fun q hq => by rw [HZ.out]; exact own_ge HOW6.out q hq)); have HOW8 := Lib.hid hown8; clear hown8 hgrow8)
          | fail)
        go_roundw
        case rel => exact ⟨k + 1, by omega, by go_num, by
          have h9 := HOW8.out
          rw [HP9.out, HSU.out, HP1.out, HRK.out, if_pos trivial, pcs_append, List.length_append]
          have e1 : pcs [(⟨2, (k : Int), r, s⟩ : Pr)] = Pr.cs ⟨2, k, r, s⟩ := by simp [pcs]
          rw [e1]
          exact h9, HB8.out⟩
        case measure => simp [RowKit.intOf]; omega
    · have h0 : k = n := by omega
      have HO := Lib.hid (owns_base HOW.out (Nat.le_succ w.heap.size))
      subst h0
      clear hbel
      go_wp2
      go_ret
      exact ⟨_, rfl, HO.out, HBW.out⟩
set_option maxRecDepth 100000 in
set_option maxHeartbeats 4000000 in
theorem vEach_in (a b a2 b2 : Option Addr) (n c d n2 c2 m2 d2 : Nat) (v v2 : List El) (rs : List Int) (s : Int) (w : World) (h : ElemsAt w a v) (hn : v.length = n) (hr : RunesAt w b rs) (hrn : rs.length = n) (h2 : ElemsAt w a2 v2) (hn2 : v2.length = n2) (hl : n ≤ 1000) (hl2 : n2 ≤ 1000) :
    Calls Tryz.prog 45 #[.agg #[.slice a n c, .slice b n d], .func (.func 46) #[.agg #[.slice a2 n2 c2, .slice b2 m2 d2]] #[], .func (.func 49) #[.int .i64 s] #[]] w (OwnPP (pk v (lk v2) (fun i => ⟨1, i, (rs[i]?).getD 0, s⟩) n) w) := by
  obtain ⟨i0, hi, hz0, hz1, hz2⟩ := info_parts Tryz.infoPrim
  have HE := Lib.hid h
  have HR := Lib.hid hr
  have HN := Lib.hid hn
  have HRN := Lib.hid hrn
  have HLK := Lib.hid (fun (e : El) wx (hx : Below w.heap.size w wx) => vLacks_any a2 b2 n2 c2 m2 d2 v2 e wx (h2.below hx) hn2 (by omega))
  have HST := Lib.hid (fun (at_ r : Int) wx => hIn_any s at_ r wx)
  unfold StepPost at HST
  unfold BoB at HLK
  have HB0 := Lib.hid ((Below.refl w.heap.size w).alloc (Nat.le_refl _) (.cells #[.slice a n c, .slice b n d] 89))
  have hc0 : (w.alloc (.cells #[.slice a n c, .slice b n d] 89)).cell? ⟨w.heap.size, 0, none⟩ = some (.slice a n c) := by simp
  have hc1 : (w.alloc (.cells #[.slice a n c, .slice b n d] 89)).cell? ⟨w.heap.size, 1, none⟩ = some (.slice b n d) := by simp
  have hz : (w.alloc (.cells #[.slice a n c, .slice b n d] 89)).heap.size = w.heap.size + 1 := by simp
  have hga : ∀ k e, v[k]? = some e → k < n := fun k e hk => by have := (List.getElem?_eq_some_iff.1 hk).1; omega
  clear h hr hn hrn h2 hn2
  go_enter Tryz.func45, Tryz.ntmps45
  have HGA := Lib.hid hga
  clear hga
  go_wp2_with fail
  generalize hW : w.alloc (.cells #[.slice a n c, .slice b n d] 89) = W0 at *
  have HZ := Lib.hid hz
  have HC1 := Lib.hid hc1
  clear hz hW hc0 hc1
  go_loopw [7, 13] (fun s7 s13 wr => ∃ k : Nat, k ≤ n ∧ s13 = .int .i64 k ∧ wr.ownsRow (w.heap.size + 1) 44 4 s7 (pk v (lk v2) (fun i => ⟨1, i, (rs[i]?).getD 0, s⟩) k).length (pcs (pk v (lk v2) (fun i => ⟨1, i, (rs[i]?).getD 0, s⟩) k)) ∧ Below W0.heap.size W0 wr) (fun _ s13 _ => n - (RowKit.intOf s13).toNat)
  case atStart => exact ⟨0, Nat.zero_le _, rfl, World.ownsRow_nil _ _ _ _, Below.refl _ _⟩
  case round =>
    obtain ⟨k, hk, rfl, hown, hbel⟩ := hrel
    have HOW := Lib.hid hown
    have HBE := Lib.hid hbel
    have HBW := Lib.hid (HB0.out.trans (hbel.mono HB0.out.size))
    have hzr : w.heap.size + 1 ≤ wr.heap.size := by rw [← HZ.out]; exact hbel.size
    clear hown
    by_cases hlt : k < n
    · have hkl : k < v.length := by rw [HN.out]; exact hlt
      have hkr : k < rs.length := by rw [HRN.out]; exact hlt
      obtain ⟨eb, eo, rfl, heb, x0, x1, x2⟩ := (HE.out.below HBW.out).cell k hkl
      have HSU := Lib.hid (pk_succ v (lk v2) (fun i => ⟨1, i, (rs[i]?).getD 0, s⟩) k)
      have HP1 := Lib.hid (pk1_at hkl (lk v2) (fun i => ⟨1, i, (rs[i]?).getD 0, s⟩))
      have HPL := Lib.hid (pk_len v (lk v2) (fun i => ⟨1, i, (rs[i]?).getD 0, s⟩) k)
      obtain ⟨rb, ro, hra, hrb, y0⟩ := HR.out.cell k hkr
      have HY := Lib.hid (fun wx (hx : Below w.heap.size w wx) => And.intro ((hx.cell (p := ⟨rb, ro + k, none⟩) hrb).trans y0) (Nat.lt_of_lt_of_le hrb hx.size))
      have HRK := Lib.hid (show (rs[k]?).getD 0 = rs[k] from by rw [List.getElem?_eq_getElem hkr]; rfl)
      subst hra
      generalize rs[k] = r at *
      have HBX := Lib.hid (BoxE.new wr v[k])
      have HBA := Lib.hid ((Below.refl wr.heap.size wr).alloc (Nat.le_refl _) (.cells #[.int .i64 (v[k]).s, .int .i64 (v[k]).q, .int .i64 (v[k]).i] 37))
      generalize hP0 : pk v (lk v2) (fun i => ⟨1, i, (rs[i]?).getD 0, s⟩) k = P0 at *
      generalize hP1 : pk v (lk v2) (fun i => ⟨1, i, (rs[i]?).getD 0, s⟩) (k + 1) = P1 at *
      clear hP0 hkr
      have HP9 := Lib.hid hP1
      clear hP1
      have HCL := Lib.hid (fun wx (hx : Below w.heap.size w wx) => HLK.out v[k] wx hx)
      generalize v[k] = e at *
      clear hkl y0 hrb
      obtain ⟨es, eq, ei⟩ := e
      unfold El.v at HCL
      simp only at x0 x1 x2 HBX HBA HCL HP1
      cases hck : lk v2 ⟨es, eq, ei⟩
      · rw [hck] at HCL HP1
        clear hck hbel
        go_wp2_with (first | (go_at_call 46; refine (HCL.out _ (HBW.out.trans (HBA.out.mono HBW.out.size))).mono ?_; rintro x5 w5 ⟨rfl, hb5⟩; have HB5 := Lib.hid (HBA.out.trans (hb5.mono HBA.out.size)); clear hb5) | fail)
        go_roundw
        case rel => exact ⟨k + 1, by omega, by go_num, by
          have h9 := owns_belE HOW.out HB5.out
          rw [HP9.out, HSU.out, HP1.out]
          simpa using h9, HBE.out.trans (HB5.out.mono HBE.out.size)⟩
        case measure => simp [RowKit.intOf]; omega
      · rw [hck] at HCL HP1
        have c2 : P0.length + 1 ≤ maxLen := by have := HPL.out; unfold maxLen; omega
        have c3 : (P0.length + 1) * 32 ≤ 140737488355328 := by have := HPL.out; omega
        clear hck hbel
        go_wp2_with (first
          | (go_at_call 46; refine (HCL.out _ (HBW.out.trans (HBA.out.mono HBW.out.size))).mono ?_; rintro x5 w5 ⟨rfl, hb5⟩; have HB5 := Lib.hid (HBA.out.trans (hb5.mono HBA.out.size)); have HBE5 := Lib.hid (HBE.out.trans (HB5.out.mono HBE.out.size)); obtain ⟨y0, hyl⟩ := HY.out w5 (HBW.out.trans (HB5.out.mono HBW.out.size)); have z1 := (HBE5.out.cell (p := ⟨w.heap.size, 1, none⟩) (Nat.lt_of_lt_of_eq (Nat.lt_succ_self w.heap.size) HZ.out.symm)).trans HC1.out; have hzl : w.heap.size < w5.heap.size := (by have := HBE5.out.size; rw [HZ.out] at this; omega); clear hb5)
          | (go_at_call 49; refine (HST.out _ _ _).mono ?_; rintro x6 w6 ⟨rfl, hb6⟩; have HB6 := Lib.hid (HB5.out.trans (hb6.mono HB5.out.size)); have HBE6 := Lib.hid (HBE.out.trans (HB6.out.mono HBE.out.size)); have hz6 : w.heap.size + 1 ≤ w6.heap.size := (by have := HBE6.out.size; rw [HZ.out] at this; omega); have HOW6 := Lib.hid (owns_belE HOW.out HB6.out); clear hb6 y0 hyl z1 hzl)
          | (at_builtin; refine wpList_append_own _ rfl _ _ 33 rfl (w.heap.size + 1) 44 i0 (.agg #[.int .i64 0, .int .i64 0, .int .i32 0, .int .i64 0]) 4 32 Tryz.underlying33 hi hz0 ‹_› hz2 rfl (by decide) _ _ _ rfl (HOW6.out.alloc _) ⟨w6.heap.size, 0, none⟩ 1 1 (Pr.cs ⟨1, k, r, s⟩) rfl rfl (cell_prim_new _ ⟨1, k, r, s⟩ _) (pcs_one1 ⟨1, k, r, s⟩) c2 c3 (by simp; omega) ?_; intro v8 w8 hown8 hgrow8 _; have HB8 := Lib.hid ((HBE6.out.alloc HBE6.out.size _).grown hgrow8 (by have := HBE6.out.size; simp; omega) (fun q hq => by rw [HZ.out]; exact own_ge HOW6.out q hq)); have HOW8 := Lib.hid hown8; clear hown8 hgrow8)
          | fail)
        go_roundw
        case rel => exact ⟨k + 1, by omega, by go_num, by
          have h9 := HOW8.out
          rw [HP9.out, HSU.out, HP1.out, HRK.out, if_pos trivial, pcs_append, List.length_append]
          have e1 : pcs [(⟨1, (k : Int), r, s⟩ : Pr)] = Pr.cs ⟨1, k, r, s⟩ := by simp [pcs]
          rw [e1]
          exact h9, HB8.out⟩
        case measure => simp [RowKit.intOf]; omega
    · have h0 : k = n := by omega
      have HO := Lib.hid (owns_base HOW.out (Nat.le_succ w.heap.size))
      subst h0
      clear hbel
      go_wp2
      go_ret
      exact ⟨_, rfl, HO.out, HBW.out⟩
end Go.Proofs.YthnedehihbploaaGreatDoor
/- path.look, path.Of, where both rows may be -/
namespace Go.Proofs.YthnedehihbploaaGreatDoor
open Go.RowKit Go.Lib Go.Sort

theorem ElemsAt.setP {w : World} {a : Option Addr} {l : List El} {b c : Nat} {v : Value} (h : ElemsAt w a l) (hne : ∀ ad, a = some ad → ad.block ≠ b) : ElemsAt (w.setCell ⟨b, c, none⟩ v) a l :=
  ⟨fun j hj => by
    obtain ⟨b1, off, h1, h2, h3, h4, h5⟩ := h.cell j hj
    have hb : b1 ≠ b := hne _ h1
    have hc : ∀ o, (w.setCell ⟨b, c, none⟩ v).cell? ⟨b1, o, none⟩ = w.cell? ⟨b1, o, none⟩ := fun o => by
      unfold World.cell?
      simp only [set_other hb]
    exact ⟨b1, off, h1, by rw [World.size_setCell]; exact h2, (hc _).trans h3, (hc _).trans h4, (hc _).trans h5⟩⟩
theorem RunesAt.setP {w : World} {a : Option Addr} {l : List Int} {b c : Nat} {v : Value} (h : RunesAt w a l) (hne : ∀ ad, a = some ad → ad.block ≠ b) : RunesAt (w.setCell ⟨b, c, none⟩ v) a l :=
  ⟨fun j hj => by
    obtain ⟨b1, off, h1, h2, h3⟩ := h.cell j hj
    have hb : b1 ≠ b := hne _ h1
    refine ⟨b1, off, h1, by rw [World.size_setCell]; exact h2, ?_⟩
    unfold World.cell? at h3 ⊢
    simp only [set_other hb]
    exact h3, h.i32⟩
theorem cells2 {w : World} {b : Nat} {t : TypeId} {c0 c1 : Value} (h : w.heap[b]? = some (.cells #[c0, c1] t (0, 0))) :
    w.cell? ⟨b, 0, none⟩ = some c0 ∧ w.cell? ⟨b, 1, none⟩ = some c1 ∧ (∀ c, w.frozen? ⟨b, c, none⟩ = false) ∧ b < w.heap.size := by
  refine ⟨?_, ?_, fun c => ?_, (Array.getElem?_eq_some_iff.1 h).1⟩
  all_goals first | (simp [World.cell?, h]; done) | (simp [World.frozen?, h])
/-- what a look tells -/
def LookPost (V : List El) (R : List Int) (nv : Nat) (w : World) (e : Ending) (w' : World) : Prop := ∃ a1 c1 a2 c2, e = .returned (.tuple #[.agg #[.slice a1 nv c1, .slice a2 nv c2], .int .i64 0]) ∧ ElemsAt w' a1 V ∧ RunesAt w' a2 R ∧ Below w.heap.size w w'
set_option maxRecDepth 100000 in
set_option maxHeartbeats 4000000 in
theorem pLook_ok (a : Option Addr) (cap : Nat) (l : List OpR) (w : World) (h : OpsAt w a l) (hr : rowP (OpR.os l)) : Calls Tryz.prog 43 #[.slice a l.length cap] w (LookPost (visE (OpR.os l)) (visR (OpR.os l)) (visE (OpR.os l)).length w) := by
  have HV := Lib.hid (fun wx (hx : Below w.heap.size w wx) => dVis_ok a cap l wx (h.below hx) hr)
  have HT := Lib.hid (fun wx (hx : Below w.heap.size w wx) => dText_ok a cap l wx (h.below hx) hr)
  have HRN := Lib.hid (rns_doc hr.2)
  have HDL := Lib.hid (docT_le hr.2)
  have HRL := Lib.hid (visR_len (OpR.os l))
  unfold VisPost at HV
  unfold TextPost at HT
  generalize docT (OpR.os l) = T at *
  generalize visR (OpR.os l) = R at *
  generalize visE (OpR.os l) = V at *
  obtain ⟨nv, hnv⟩ : ∃ n, V.length = n := ⟨_, rfl⟩
  have HNV := Lib.hid hnv
  rw [hnv] at HRL ⊢
  obtain ⟨n, hn⟩ : ∃ n, l.length = n := ⟨_, rfl⟩
  rw [hn] at HV HT ⊢
  clear h hr hn hnv
  have HQ0 := Lib.hid (show (w.alloc (.cells #[.slice none 0 0, .slice none 0 0] 89)).heap[w.heap.size]? = some (.cells #[.slice none 0 0, .slice none 0 0] 89) from heap_alloc_new _ _)
  have HB0 := Lib.hid (show Below w.heap.size w (w.alloc (.cells #[.slice none 0 0, .slice none 0 0] 89)) from (Below.refl _ _).alloc (Nat.le_refl _) _)
  have HS0 := Lib.hid (show (w.alloc (.cells #[.slice none 0 0, .slice none 0 0] 89)).heap.size = w.heap.size + 1 by simp)
  go_enter Tryz.func43, Tryz.ntmps43
  go_wp2_with (first
    | (go_at_call 37; refine (HV.out _ HB0.out).mono ?_; rintro x1 w1 ⟨v1, rfl, hown1, hb1⟩; obtain ⟨a1, c1, hv1, he1, _⟩ := elems_own hown1; rw [HNV.out] at hv1; subst hv1; have HN1 := Lib.hid (show ∀ ad, a1 = some ad → ad.block ≠ w.heap.size from fun ad had => by have := (hown1.lt ad.block (by subst had; rfl)).1; rw [HS0.out] at this; omega); have HE1 := Lib.hid he1; have HB1 := Lib.hid hb1; clear hown1 he1 hb1)
    | (go_at_call 9; refine (HT.out _ (HB0.out.trans (HB1.out.mono HB0.out.size))).mono ?_; rintro x2 w2 ⟨rfl, hb2⟩; have HB2 := Lib.hid (HB1.out.trans (hb2.mono HB1.out.size)); have HE2 := Lib.hid (HE1.out.below hb2); obtain ⟨cv, w7, hcv, hrv, hb7⟩ := conv_runes w2 ⟨T.toArray⟩ (by have := HDL.out; show T.toArray.size ≤ 60000; simp; omega); rw [HRN.out] at hcv hrv; rw [HRL.out] at hcv; have HB7 := Lib.hid (HB2.out.trans (hb7.mono HB2.out.size)); have HE7 := Lib.hid (HE2.out.below hb7); have HR7 := Lib.hid hrv; have hz2 : w.heap.size < w2.heap.size := (by have := HB2.out.size; rw [HS0.out] at this; omega); have HN7 := Lib.hid (show ∀ ad, (some ⟨w2.heap.size, 0, none⟩ : Option Addr) = some ad → ad.block ≠ w.heap.size from fun ad had => by cases had; simp only; omega); have hq7 := (HB7.out.block w.heap.size (by rw [HS0.out]; omega)).trans HQ0.out; obtain ⟨p0, p1, pf, pl⟩ := cells2 hq7; clear hb2 hrv hb7 hq7 hz2)
    | fail)
  refine bodyPost_ret (v := .tuple #[.agg #[.slice a1 nv c1, .slice (some ⟨w2.heap.size, 0, none⟩) nv cv], .int .i64 0]) (by simp [results, Tryz.results43, go_sem, p0, p1]) rfl ⟨a1, c1, _, cv, rfl, ?_, ?_, ?_⟩
  · exact (HE7.out.setP HN1.out).setP HN1.out
  · exact (HR7.out.setP HN7.out).setP HN7.out
  · exact ((HB0.out.trans (HB7.out.mono HB0.out.size)).setCell (Nat.le_refl _) _).setCell (Nat.le_refl _) _
structure BoxV (w : World) (b : Nat) (v0 v1 : Value) : Prop where
  lt : b < w.heap.size
  c0 : w.cell? ⟨b, 0, none⟩ = some v0
  c1 : w.cell? ⟨b, 1, none⟩ = some v1
theorem BoxV.new (w : World) (v0 v1 : Value) (t : TypeId) : BoxV (w.alloc (.cells #[v0, v1] t)) w.heap.size v0 v1 := by
  refine ⟨by simp, ?_, ?_⟩
  all_goals
    rw [World.cell?_alloc_new]
    rfl
theorem BoxV.step {w w' : World} {b : Nat} {v0 v1 : Value} (h : BoxV w b v0 v1) (hb : Below w.heap.size w w') : BoxV w' b v0 v1 :=
  ⟨Nat.lt_of_lt_of_le h.lt hb.size, (hb.cell (p := ⟨b, 0, none⟩) h.lt).trans h.c0, (hb.cell (p := ⟨b, 1, none⟩) h.lt).trans h.c1⟩
theorem wpList_append_fromP {P : Program} {w : World} {ops : Array Oper} {rest : List Oper} {o : Oper} {a : Act} {Q : Exit → Act → World → Prop} (hgd : o.guard = none) (s x : Operand) (t : TypeId)
    (ho : o.op = .call { callee := .builtin .append, args := #[s, x], argTypes := #[t, t] })
    (base : Nat) (e : TypeId) (i : TypeInfo) (z : Value) (size bytes : Nat) (ht : P.underlying t = some (.slice e)) (hi : P.info? e = some i) (hz : i.zero = some z)
    (hsize : i.size = size) (hby : i.bytes = bytes) (hzs : z.cells.size = size) (hsz : 0 < size)
    (v : Value) (n : Nat) (xs : List Value) (hs : a.eval s = v) (hown : w.ownsRow base e size v n xs)
    (ao : Option Addr) (m c : Nat) (news : List Value) (hx : a.eval x = .slice ao m c) (hl : news.length = m * size) (hnone : ao = none → m = 0 ∧ c = 0) (hnews : ∀ ad, ao = some ad → ∀ j u, news[j]? = some u → w.cell? (ad.add j) = some u) (h1 : ∀ u ∈ news, u.oneCell' = true)
    (h63 : n + m ≤ maxLen) (hbytes : (n + m) * bytes ≤ 140737488355328) (hbase : base ≤ w.heap.size)
    (h : ∀ v' w', w'.ownsRow base e size v' (n + m) (xs ++ news) → w.grownBy w' v.ownBlock → wpList P ops Q rest (a.put o.dst v') w') : wpList P ops Q (o :: rest) a w := by
  cases ao with
  | none =>
    obtain ⟨rfl, rfl⟩ := hnone rfl
    obtain rfl : news = [] := List.eq_nil_of_length_eq_zero (by rw [hl]; simp)
    refine wpList_append_own_none hgd s x t ho base e i size ht hi v n xs hs hown hx ?_
    exact h v w (by simpa using hown) (World.grownBy.refl _ _)
  | some ad =>
    refine wpList_append_own _ hgd s x t ho base e i z size bytes ht hi hz hsize hby hzs hsz v n xs hs hown ad m c news hx hl (hnews ad rfl) h1 h63 hbytes hbase ?_
    intro v' w' h2 h3 _
    exact h v' w' h2 h3
/-- what Of tells -/
def OfPost (P : List Pr) (w : World) (e : Ending) (w' : World) : Prop := ∃ v, e = .returned (.tuple #[v, .int .i64 0]) ∧ w'.ownsRow w.heap.size 44 4 v P.length (pcs P) ∧ Below w.heap.size w w'
set_option maxRecDepth 100000 in
set_option maxHeartbeats 8000000 in
theorem pOf_ok (a : Option Addr) (cap : Nat) (l : List OpR) (o : OpD) (oa : Option Addr) (oc : Nat) (w : World) (h : OpsAt w a l) (hc : l.length ≤ cap) (hr : rowP (OpR.os l)) (ho : OpAt w o oa oc) (hn : rowP (OpR.os l ++ [o])) :
    Calls Tryz.prog 12 #[.slice a l.length cap, o.v oa oc] w (OfPost (pathP (OpR.os l) o) w) := by
  obtain ⟨i0, hi, hz0, hz1, hz2⟩ := info_parts Tryz.infoPrim
  have hl40 : l.length ≤ 40 := by have := hr.1; rw [os_len] at this; exact this
  have hos : OpR.os (l ++ [⟨o, oa, oc⟩]) = OpR.os l ++ [o] := by simp [OpR.os]
  have HX := Lib.hid (BoxO.new w o oa oc)
  have HB0 : RowKit.Hid (Below w.heap.size w (w.alloc (o.obj oa oc))) := Lib.hid ((Below.refl _ _).alloc (Nat.le_refl _) _)
  have HLA := Lib.hid (fun wx (hx : Below w.heap.size w wx) => pLook_ok a cap l wx (h.below hx) hr)
  have HLB := Lib.hid (fun (a2 : Option Addr) (c2 : Nat) wx (hx : OpsAt wx a2 (l ++ [⟨o, oa, oc⟩])) => (by
    have h9 := pLook_ok a2 c2 (l ++ [⟨o, oa, oc⟩]) wx hx (by rw [hos]; exact hn)
    rw [hos, List.length_append] at h9
    exact h9 : Calls Tryz.prog 43 #[.slice a2 (l.length + 1) c2] wx (LookPost (visE (OpR.os l ++ [o])) (visR (OpR.os l ++ [o])) (visE (OpR.os l ++ [o])).length wx)))
  have HCC := Lib.hid (fun wx (hx : Below w.heap.size w wx) => concat_one a cap l ⟨o, oa, oc⟩ wx (h.below hx) hc (by omega) (ho.below hx))
  have HPO := Lib.hid (show outP (OpR.os l) o = (pk (visE (OpR.os l)) (lk (visE (OpR.os l ++ [o]))) (fun i => ⟨2, i, ((visR (OpR.os l))[i]?).getD 0, o.site⟩) (visE (OpR.os l)).length).reverse from rfl)
  have HPI := Lib.hid (show inP (OpR.os l) o = pk (visE (OpR.os l ++ [o])) (lk (visE (OpR.os l))) (fun i => ⟨1, i, ((visR (OpR.os l ++ [o]))[i]?).getD 0, o.site⟩) (visE (OpR.os l ++ [o])).length from rfl)
  have HL1 := Lib.hid (outP_len hr.2 o)
  have HL2 := Lib.hid (inP_len hn.2)
  have HV1 := Lib.hid (visE_le hr.2)
  have HV2 := Lib.hid (visE_le hn.2)
  have HR1 := Lib.hid (visR_len (OpR.os l))
  have HR2 := Lib.hid (visR_len (OpR.os l ++ [o]))
  unfold ConOne at HCC
  unfold LookPost at HLA HLB
  unfold pathP
  generalize (l ++ [⟨o, oa, oc⟩] : List OpR) = L at *
  generalize outP (OpR.os l) o = PO at *
  generalize inP (OpR.os l) o = PI at *
  generalize visE (OpR.os l) = VA at *
  generalize visR (OpR.os l) = RA at *
  generalize visE (OpR.os l ++ [o]) = VB at *
  generalize visR (OpR.os l ++ [o]) = RB at *
  obtain ⟨n, hln⟩ : ∃ n, l.length = n := ⟨_, rfl⟩
  obtain ⟨na, hna⟩ : ∃ n, VA.length = n := ⟨_, rfl⟩
  obtain ⟨nb, hnb⟩ : ∃ n, VB.length = n := ⟨_, rfl⟩
  rw [hln] at HLA HLB HCC ⊢
  rw [hna] at HLA HPO HV1 HR1
  rw [hnb] at HLB HPI HV2 HR2
  have HNA := Lib.hid hna
  have HNB := Lib.hid hnb
  clear h hr hl40 hln hn hc ho hos hna hnb
  obtain ⟨site, seq, kind, ⟨es, eq, ei⟩, text, gone, of, num, gen⟩ := o
  unfold OpD.v
  unfold OpD.obj at HB0 HX
  simp only at HX HB0 HCC HPO HPI ⊢
  obtain ⟨gl, hgg⟩ : ∃ gl, gone.length = gl := ⟨_, rfl⟩
  have HGG := Lib.hid hgg
  rw [hgg] at HX HB0 HCC ⊢
  clear hgg
  generalize hwu : (w.alloc (.cells #[.int .i64 site, .int .i64 seq, .int .i64 kind, .int .i64 es, .int .i64 eq, .int .i64 ei, .string text, .slice oa gl oc, .int .i64 of, .int .i64 num, .int .i64 gen] 39)) = wu at *
  have HWU := Lib.hid hwu
  go_enter Tryz.func12, Tryz.ntmps12
  go_upto_region 4 with (first
    | (go_at_call 43; (try rw [hwu]); refine (HLA.out _ HB0.out).mono ?_; rintro x1 w1 ⟨g1, h1, g2, h2, rfl, he1, he2, hb1⟩; have HE1 := Lib.hid he1; have HU1 := Lib.hid he2; have HB1 := Lib.hid hb1; clear hb1 he1 he2)
    | fail)
  have hba := (Below.refl w1.heap.size w1).alloc (Nat.le_refl _) (.cells #[.slice g1 na h1, .slice g2 na h2] 89)
  have hbb := HB1.out.trans (hba.mono HB1.out.size)
  have HBa := Lib.hid (HB0.out.trans (hbb.mono HB0.out.size))
  have HEa := Lib.hid (HE1.out.below hba)
  have HUa := Lib.hid (HU1.out.below hba)
  have HVa := Lib.hid (BoxV.new w1 (.slice g1 na h1) (.slice g2 na h2) 89)
  have hx := HX.out.step hbb
  have HXa := Lib.hid hx
  have d0 := hx.c0
  have d1x := hx.c1
  have d2x := hx.c2
  have d3 := hx.c3
  have d4 := hx.c4
  have d5 := hx.c5
  have d6 := hx.c6
  have d7 := hx.c7
  have d8 := hx.c8
  have d9 := hx.c9
  have da := hx.ca
  have dl := hx.lt
  simp only [HGG.out] at d0 d1x d2x d3 d4 d5 d6 d7 d8 d9 da
  clear hx hba hbb
  generalize w1.alloc (.cells #[.slice g1 na h1, .slice g2 na h2] 89) = wa at *
  generalize w1.heap.size = pa at *
  -- @S
  go_upto_region 8 with (first
    | (go_at_call 44; refine (HCC.out wa HBa.out).mono ?_; rintro x2 w2 ⟨a2, c2, rfl, hops2, hb2⟩; have HO2 := Lib.hid hops2; have HX2 := Lib.hid (HXa.out.step hb2); have HVb := Lib.hid (HVa.out.step hb2); have HE2 := Lib.hid (HEa.out.below hb2); have HU2 := Lib.hid (HUa.out.below hb2); have HB2 := Lib.hid (HBa.out.trans (hb2.mono HBa.out.size)); clear hops2 hb2 d0 d1x d2x d3 d4 d5 d6 d7 d8 d9 da dl)
    | (go_at_call 43; refine (HLB.out a2 c2 w2 HO2.out).mono ?_; rintro x3 w3 ⟨b1, d1, b2, d2, rfl, hf1, hf2, hb3⟩; have HX3 := Lib.hid (HX2.out.step hb3); have HV3 := Lib.hid (HVb.out.step hb3); have HE3 := Lib.hid (HE2.out.below hb3); have HU3 := Lib.hid (HU2.out.below hb3); have HF3 := Lib.hid hf1; have HG3 := Lib.hid hf2; have HB3 := Lib.hid (HB2.out.trans (hb3.mono HB2.out.size)); have f0 := (HX3.out.step ((Below.refl w3.heap.size w3).alloc (Nat.le_refl _) (.cells #[.slice b1 nb d1, .slice b2 nb d2] 89))).c0; have fl := HX3.out.lt; simp only at f0; clear hf1 hf2 hb3)
    | fail)
  clear f0 fl
  have hba := (Below.refl w3.heap.size w3).alloc (Nat.le_refl _) (.cells #[.slice b1 nb d1, .slice b2 nb d2] 89)
  have HB4 := Lib.hid (HB3.out.trans (hba.mono HB3.out.size))
  have HV4 := Lib.hid (HV3.out.step hba)
  have HW4 := Lib.hid (BoxV.new w3 (.slice b1 nb d1) (.slice b2 nb d2) 89)
  have HE4 := Lib.hid (HE3.out.below hba)
  have HU4 := Lib.hid (HU3.out.below hba)
  have HF4 := Lib.hid (HF3.out.below hba)
  have HG4 := Lib.hid (HG3.out.below hba)
  have y0 := HV4.out.c0
  have y1 := HV4.out.c1
  have yl := HV4.out.lt
  have z0 := HW4.out.c0
  have z1 := HW4.out.c1
  have zl := HW4.out.lt
  clear hba
  generalize w3.alloc (.cells #[.slice b1 nb d1, .slice b2 nb d2] 89) = w4 at *
  generalize w3.heap.size = pb at *
  -- @S end
  -- @T
  have HQL := Lib.hid (show PO.length ≤ 200 from HL1.out)
  go_upto_region 10 with (first
    | (go_at_call 45; refine (vEach_out g1 g2 b1 b2 na h1 h2 nb d1 nb d2 VA VB RA site w4 HE4.out HNA.out HU4.out HR1.out HF4.out HNB.out (Nat.le_trans HV1.out (by decide)) (Nat.le_trans HV2.out (by decide))).mono ?_; rintro x8 w8 ⟨v8, rfl, hown8, hb8⟩; obtain ⟨a8, c8, hv8, -⟩ := prims_own hown8; subst hv8; have HO8 := Lib.hid hown8; have HB8 := Lib.hid hb8; clear hown8 hb8)
    | (go_at_call 48; refine (pReverse_any a8 c8 _ _ _ _ w4 w8 HO8.out rfl (Nat.le_refl _) HB8.out.size HB8.out (by have h9 := congrArg List.length HPO.out; rw [List.length_reverse] at h9; have := HQL.out; omega)).mono ?_; rintro x9 w9 ⟨rfl, hown9, hb9⟩; have hlen9 := congrArg List.length HPO.out; rw [List.length_reverse] at hlen9; rw [← HPO.out, ← hlen9] at hown9; have HLEN := Lib.hid hlen9; have HO9 := Lib.hid hown9; have HB9 := Lib.hid hb9; clear hown9 hb9 hlen9 y0 y1 yl z0 z1 zl)
    | fail)
  have HF9 := Lib.hid (HF4.out.below HB9.out)
  have HG9 := Lib.hid (HG4.out.below HB9.out)
  have HE9 := Lib.hid (HE4.out.below HB9.out)
  have s0 := (HV4.out.step HB9.out).c0
  have s1 := (HV4.out.step HB9.out).c1
  have sl := (HV4.out.step HB9.out).lt
  have t0 := (HW4.out.step HB9.out).c0
  have t1 := (HW4.out.step HB9.out).c1
  have tl := (HW4.out.step HB9.out).lt
  have hp1 : PO.length + PI.length ≤ maxLen := by have := HL1.out; have := HL2.out; unfold maxLen; omega
  have hp2 : (PO.length + PI.length) * 32 ≤ 140737488355328 := by have := HL1.out; have := HL2.out; omega
  rw [← HLEN.out]
  go_wp2_with (first
    | (go_at_call 45; refine (vEach_in b1 b2 g1 g2 nb d1 d2 na h1 na h2 VB VA RB site w9 HF9.out HNB.out HG9.out HR2.out HE9.out HNA.out (Nat.le_trans HV2.out (by decide)) (Nat.le_trans HV1.out (by decide))).mono ?_; rintro x10 w10 ⟨v10, rfl, hown10, hb10⟩; rw [← HPI.out] at hown10; obtain ⟨a10, c10, hv10, hp10, -, -, hno10⟩ := prims_own hown10; have HO10 := Lib.hid (owns_belE HO9.out hb10); have HB10 := Lib.hid (HB9.out.trans (hb10.mono HB9.out.size)); have HN10 := Lib.hid (prims_news hp10); have HNO10 := Lib.hid hno10; have HHL := Lib.hid (show w4.heap.size ≤ w10.heap.size from HB10.out.size); subst hv10; clear hown10 hb10 hp10 hno10 s0 s1 sl t0 t1 tl)
    | (at_builtin; refine wpList_append_fromP rfl _ _ 33 rfl w4.heap.size 44 i0 (.agg #[.int .i64 0, .int .i64 0, .int .i32 0, .int .i64 0]) 4 32 Tryz.underlying33 hi hz0 ‹_› hz2 rfl (by decide) _ PO.length (pcs PO) rfl HO10.out a10 PI.length c10 (pcs PI) rfl (by rw [pcs_length]; omega) HNO10.out HN10.out (pcs_one _) hp1 hp2 HHL.out ?_; intro v11 w11 hown11 hg11; have HB11 := Lib.hid (HB10.out.grown hg11 HHL.out (fun q hq => own_ge HO10.out q hq)); have HO11 := Lib.hid hown11; clear hown11 hg11)
    | fail)
  go_ret2
  refine ⟨v11, rfl, ?_, HB4.out.trans (HB11.out.mono HB4.out.size)⟩
  rw [List.length_append, pcs_append]
  exact owns_base HO11.out HB4.out.size
  -- @T end
end Go.Proofs.YthnedehihbploaaGreatDoor
/- path.All, where the row may be -/
namespace Go.Proofs.YthnedehihbploaaGreatDoor
open Go.RowKit Go.Lib Go.Sort

/-- the steps of the first k ops, one's behind the other's -/
def allK (D : List OpD) (k : Nat) : List Pr := (List.range k).flatMap (fun i => match D[i]? with | some o => pathP (D.take i) o | none => [])
theorem allK_zero (D : List OpD) : allK D 0 = [] := rfl
theorem allK_succ {D : List OpD} {k : Nat} (h : k < D.length) : allK D (k + 1) = allK D k ++ pathP (D.take k) D[k] := by
  unfold allK
  rw [List.range_succ, List.flatMap_append]
  simp [List.getElem?_eq_getElem h]
theorem row_upto {D : List OpD} (h : rowP D) {k : Nat} (hk : k < D.length) : rowP (D.take k) ∧ rowP (D.take k ++ [D[k]]) := by
  refine ⟨rowP_take h k, ?_⟩
  rw [← List.take_succ_eq_append_getElem hk]
  exact rowP_take h (k + 1)
theorem pathP_len {l : List OpD} {o : OpD} (h : rowP l) (hn : rowP (l ++ [o])) : (pathP l o).length ≤ 400 := by
  unfold pathP
  rw [List.length_append]
  have := outP_len h.2 o
  have := inP_len hn.2
  omega
theorem allK_len {D : List OpD} (h : rowP D) : ∀ k, k ≤ D.length → (allK D k).length ≤ 400 * k
  | 0, _ => by simp [allK]
  | k + 1, hk => by
    rw [allK_succ hk, List.length_append]
    have := allK_len h k (by omega)
    have := pathP_len (row_upto h hk).1 (row_upto h hk).2
    omega
set_option maxRecDepth 100000 in
set_option maxHeartbeats 8000000 in
theorem pAll_ok (a : Option Addr) (cap : Nat) (l : List OpR) (w : World) (h : OpsAt w a l) (hc : l.length ≤ cap) (hr : rowP (OpR.os l)) :
    Calls Tryz.prog 41 #[.slice a l.length cap] w (OfPost (allK (OpR.os l) l.length) w) := by
  obtain ⟨i0, hi, hz0, hz1, hz2⟩ := info_parts Tryz.infoPrim
  have hl40 : l.length ≤ 40 := by have := hr.1; rw [os_len] at this; exact this
  have HH := Lib.hid h
  have HOF := Lib.hid (fun (k : Nat) (hk : k < l.length) wx (hx : Below w.heap.size w wx) => (by
    have hk2 : k < (OpR.os l).length := by rw [os_len]; exact hk
    have h1 := row_upto hr hk2
    have e1 : OpR.os (l.take k) = (OpR.os l).take k := (os_take l k).symm
    have e2 : (OpR.os l)[k] = l[k].o := by simp [OpR.os]
    rw [e2] at h1
    have htl : (l.take k).length = k := by rw [List.length_take]; omega
    have h9 := pOf_ok a cap (l.take k) l[k].o l[k].a l[k].cap wx ((h.below hx).take k) (by omega) (by rw [e1]; exact h1.1) ((h.below hx).op k hk) (by rw [e1]; exact h1.2)
    rw [htl, e1] at h9
    exact h9 : Calls Tryz.prog 12 #[.slice a k cap, l[k].o.v l[k].a l[k].cap] wx (OfPost (pathP ((OpR.os l).take k) l[k].o) wx)))
  have HSU := Lib.hid (fun (k : Nat) (hk : k < l.length) => (by
    have hk2 : k < (OpR.os l).length := by rw [os_len]; exact hk
    have e2 : (OpR.os l)[k] = l[k].o := by simp [OpR.os]
    have h9 := allK_succ hk2
    rwa [e2] at h9 : allK (OpR.os l) (k + 1) = allK (OpR.os l) k ++ pathP ((OpR.os l).take k) l[k].o))
  have HPL := Lib.hid (fun (k : Nat) (hk : k < l.length) => (by
    have hk2 : k < (OpR.os l).length := by rw [os_len]; exact hk
    have e2 : (OpR.os l)[k] = l[k].o := by simp [OpR.os]
    have h1 := row_upto hr hk2
    rw [e2] at h1
    exact pathP_len h1.1 h1.2 : (pathP ((OpR.os l).take k) l[k].o).length ≤ 400))
  have HAL := Lib.hid (fun k (hk : k ≤ l.length) => allK_len hr k (by rw [os_len]; exact hk))
  unfold OfPost at HOF ⊢
  generalize OpR.os l = D at *
  obtain ⟨n, hln⟩ : ∃ n, l.length = n := ⟨_, rfl⟩
  have HN := Lib.hid hln
  rw [hln] at hc hl40 ⊢
  have hcap : (n : Int) ≤ (cap : Int) := by omega
  clear h hr hln
  go_enter Tryz.func41, Tryz.ntmps41
  go_wp2_with fail
  go_loopw [4, 11] (fun s4 s11 wr => ∃ k : Nat, s11 = .int .i64 k ∧ k ≤ n ∧ wr.ownsRow w.heap.size 44 4 s4 (allK D k).length (pcs (allK D k)) ∧ Below w.heap.size w wr) (fun _ s11 _ => n - (RowKit.intOf s11).toNat)
  case atStart => exact ⟨0, rfl, Nat.zero_le _, World.ownsRow_nil _ _ _ _, Below.refl _ _⟩
  case round =>
    obtain ⟨k, rfl, hk, ho, hb⟩ := hrel
    have HO := Lib.hid ho
    have HB := Lib.hid hb
    by_cases hlt : k < n
    · have hkl : k < l.length := by rw [HN.out]; exact hlt
      obtain ⟨b, off, rfl, hbb, c0, c1, c2, c3, c4, c5, c6, c7, c8, c9, ca⟩ := (HH.out.below hb).cells k hkl
      have HAK := Lib.hid (HAL.out k (by rw [HN.out]; omega))
      have HPK := Lib.hid (HPL.out k hkl)
      have HSK := Lib.hid (HSU.out k hkl)
      have HCL := Lib.hid (fun wx (hx : Below w.heap.size w wx) => HOF.out k hkl wx hx)
      have HBX := Lib.hid (BoxO.new wr l[k].o l[k].a l[k].cap)
      have HBA := Lib.hid ((Below.refl wr.heap.size wr).alloc (Nat.le_refl _) (l[k].o.obj l[k].a l[k].cap))
      generalize allK D k = A0 at *
      generalize pathP (D.take k) l[k].o = PK at *
      generalize l[k] = r at *
      clear hkl ho hb
      have HBU := Lib.hid (HB.out.trans (HBA.out.mono HB.out.size))
      have HOU := Lib.hid (owns_belE HO.out HBA.out)
      obtain ⟨⟨site, seq, kind, ⟨es, eq, ei⟩, text, gone, of, num, gen⟩, ra, rc⟩ := r
      unfold OpD.v at HCL
      unfold OpD.obj at HBX HBA HBU HOU
      simp only at HCL HBX HBA HBU HOU c0 c1 c2 c3 c4 c5 c6 c7 c8 c9 ca
      obtain ⟨gl, hgg⟩ : ∃ gl, gone.length = gl := ⟨_, rfl⟩
      have HGG := Lib.hid hgg
      rw [hgg] at HCL HBX HBA HBU HOU c7
      clear hgg
      go_upto_region 5 with fail
      generalize (wr.alloc (.cells #[.int .i64 site, .int .i64 seq, .int .i64 kind, .int .i64 es, .int .i64 eq, .int .i64 ei, .string text, .slice ra gl rc, .int .i64 of, .int .i64 num, .int .i64 gen] 39)) = wu at *
      generalize wr.heap.size = bx at *
      have HA := Lib.hid (fun (wx : World) (hx : Below wu.heap.size wu wx) => (by
        have h9 := HBX.out.step hx
        have d0 := h9.c0
        have d1 := h9.c1
        have d2 := h9.c2
        have d3 := h9.c3
        have d4 := h9.c4
        have d5 := h9.c5
        have d6 := h9.c6
        have d7 := h9.c7
        have d8 := h9.c8
        have d9 := h9.c9
        have da := h9.ca
        simp only [HGG.out] at d0 d1 d2 d3 d4 d5 d6 d7 d8 d9 da
        exact ⟨d0, d1, d2, d3, d4, d5, d6, d7, d8, d9, da⟩ : wx.cell? ⟨bx, 0, none⟩ = some (.int .i64 site) ∧ wx.cell? ⟨bx, 1, none⟩ = some (.int .i64 seq) ∧ wx.cell? ⟨bx, 2, none⟩ = some (.int .i64 kind) ∧ wx.cell? ⟨bx, 3, none⟩ = some (.int .i64 es) ∧ wx.cell? ⟨bx, 4, none⟩ = some (.int .i64 eq) ∧ wx.cell? ⟨bx, 5, none⟩ = some (.int .i64 ei) ∧ wx.cell? ⟨bx, 6, none⟩ = some (.string text) ∧ wx.cell? ⟨bx, 7, none⟩ = some (.slice ra gl rc) ∧ wx.cell? ⟨bx, 8, none⟩ = some (.int .i64 of) ∧ wx.cell? ⟨bx, 9, none⟩ = some (.int .i64 num) ∧ wx.cell? ⟨bx, 10, none⟩ = some (.int .i64 gen)))
      have hb0 := (Below.refl wu.heap.size wu).drew
      have hkc : (k : Int) ≤ (cap : Int) := by omega
      have hk0 : (0 : Int) ≤ (k : Int) := by omega
      have HBD := Lib.hid HBU.out.drew
      have HOD := Lib.hid ((same_drew wu).owns HOU.out)
      go_region_held3 (fun w' => w'.cell? ⟨bx, 0, none⟩ = some (.int .i64 site) ∧ w'.cell? ⟨bx, 1, none⟩ = some (.int .i64 seq) ∧ w'.cell? ⟨bx, 2, none⟩ = some (.int .i64 kind) ∧ w'.cell? ⟨bx, 3, none⟩ = some (.int .i64 es) ∧ w'.cell? ⟨bx, 4, none⟩ = some (.int .i64 eq) ∧ w'.cell? ⟨bx, 5, none⟩ = some (.int .i64 ei) ∧ w'.cell? ⟨bx, 6, none⟩ = some (.string text) ∧ w'.cell? ⟨bx, 7, none⟩ = some (.slice ra gl rc) ∧ w'.cell? ⟨bx, 8, none⟩ = some (.int .i64 of) ∧ w'.cell? ⟨bx, 9, none⟩ = some (.int .i64 num) ∧ w'.cell? ⟨bx, 10, none⟩ = some (.int .i64 gen)) (first | exact HA.out _ hb0 | exact HA.out _ hb1) (first
        | (go_at_call 12; refine (HCL.out wu.drew HBD.out).mono ?_; rintro x5 w5 ⟨v5, rfl, hown5, hb5⟩; have hb1 := hb0.trans (hb5.mono (Nat.le_refl _)); have HB5 := Lib.hid (HBD.out.trans (hb5.mono HBD.out.size)); have HO5 := Lib.hid (owns_belE HOD.out hb5); obtain ⟨a5, c5, hv5, hp5, -, -, hno5⟩ := prims_own hown5; subst hv5; have HN5 := Lib.hid (prims_news hp5); have HNO5 := Lib.hid hno5; clear hown5 hb5 hp5 hno5)
        | fail)
      clear hb0 hb1
      have hp1 : A0.length + PK.length ≤ maxLen := by have := HAK.out; have := HPK.out; unfold maxLen; omega
      have hp2 : (A0.length + PK.length) * 32 ≤ 140737488355328 := by have := HAK.out; have := HPK.out; omega
      go_wp2_with (first
        | (at_builtin; refine wpList_append_fromP rfl _ _ 33 rfl w.heap.size 44 i0 (.agg #[.int .i64 0, .int .i64 0, .int .i32 0, .int .i64 0]) 4 32 Tryz.underlying33 hi hz0 ‹_› hz2 rfl (by decide) _ A0.length (pcs A0) rfl HO5.out a5 PK.length c5 (pcs PK) rfl (by rw [pcs_length]; omega) HNO5.out HN5.out (pcs_one _) hp1 hp2 HB5.out.size ?_; intro v6 w6 hown6 hg6; have HB6 := Lib.hid (HB5.out.grown hg6 HB5.out.size (fun q hq => own_ge HO5.out q hq)); have HO6 := Lib.hid hown6; clear hown6 hg6)
        | fail)
      go_roundw
      case rel => exact ⟨k + 1, by go_num, by omega, by rw [HSK.out, List.length_append, pcs_append]; exact HO6.out, HB6.out⟩
      case measure => simp [RowKit.intOf]; omega
    · have h0 : k = n := by omega
      subst h0
      clear ho hb
      go_wp2_with fail
      go_ret2
      exact ⟨_, rfl, HO.out, HB.out⟩
end Go.Proofs.YthnedehihbploaaGreatDoor
/- path.Play, where each step brings a rune to the end; wakes -/
namespace Go.Proofs.YthnedehihbploaaGreatDoor
open Go.RowKit Go.Lib Go.Sort

/-- append reads the second type alone for 'a whole number?' -/
theorem append_types {P : Program} (w : World) {t tx e e2 : TypeId} (ht : P.underlying t = some (.slice e)) (htx : P.underlying tx = some (.slice e2)) {i : TypeInfo} (hi : P.info? e = some i) (ty : TypeId) (v x : Value) :
    (Builtin.append_ #[t, tx] ty #[v, x]).run P w = (Builtin.append_ #[t, t] ty #[v, x]).run P w := by
  cases v <;> simp [Builtin.append_, run_underlying ht, run_underlying htx, sizeOf, typeInfo, hi]
theorem wpList_append_ownT {P : Program} {w : World} {ops : Array Oper} {rest : List Oper} {o : Oper} {a : Act} {Q : Exit → Act → World → Prop} (hgd : o.guard = none) (s x : Operand) (t tx : TypeId)
    (ho : o.op = .call { callee := .builtin .append, args := #[s, x], argTypes := #[t, tx] })
    (base : Nat) (e e2 : TypeId) (i : TypeInfo) (z : Value) (size bytes : Nat) (ht : P.underlying t = some (.slice e)) (htx : P.underlying tx = some (.slice e2)) (hi : P.info? e = some i) (hz : i.zero = some z)
    (hsize : i.size = size) (hby : i.bytes = bytes) (hzs : z.cells.size = size) (hsz : 0 < size)
    (v : Value) (n : Nat) (xs : List Value) (hs : a.eval s = v) (hown : w.ownsRow base e size v n xs)
    (ad : Addr) (m c : Nat) (news : List Value) (hx : a.eval x = .slice (some ad) m c) (hl : news.length = m * size) (hnews : ∀ j u, news[j]? = some u → w.cell? (ad.add j) = some u) (h1 : ∀ u ∈ news, u.oneCell' = true)
    (h63 : n + m ≤ maxLen) (hbytes : (n + m) * bytes ≤ 140737488355328) (hbase : base ≤ w.heap.size)
    (h : ∀ v' w', w'.ownsRow base e size v' (n + m) (xs ++ news) → w.grownBy w' v.ownBlock → wpList P ops Q rest (a.put o.dst v') w') : wpList P ops Q (o :: rest) a w := by
  refine wpList_plain hgd fun K hK => ?_
  obtain ⟨v', w', hr, h2, h3, h4⟩ := run_append_own (P := P) w base t o.type e i z size bytes ht hi hz hsize hby hzs hsz v n xs hown ad m c news hl hnews h1 h63 hbytes hbase
  rw [← append_types w ht htx hi] at hr
  unfold Oper.wp execOp
  simp only [ho, resolve, invoke, builtin, Sem.run_bind, Sem.run_pure, Result.andThen_ok, List.map_toArray, List.map_cons, List.map_nil, hs, hx, hr]
  exact hK _ _ (h v' w' h2 h3)
/-- a row of runes of the call's own -/
def InsPost (base B : Nat) (w0 : World) (l : List Int) (e : Ending) (w' : World) : Prop := ∃ v, e = .returned v ∧ w'.ownsRow base 21 1 v l.length (rv l) ∧ Below B w0 w'
set_option maxRecDepth 100000 in
set_option maxHeartbeats 2000000 in
theorem insert_end (a : Option Addr) (n c b base B : Nat) (l : List Int) (r : Int) (w0 w : World) (hown : w.ownsRow base 21 1 (.slice a n c) n (rv l)) (hn : l.length = n) (hr : w.cell? ⟨b, 0, none⟩ = some (.int .i32 r)) (hB : B ≤ base) (hBw : base ≤ w.heap.size) (hb : Below B w0 w) (hl : n ≤ 100000) :
    Calls Tryz.prog 104 #[.slice a n c, .int .i64 n, .slice (some ⟨b, 0, none⟩) 1 1] w (InsPost base B w0 (l ++ [r])) := by
  obtain ⟨i0, hi, hz0, hz1, hz2⟩ := info_parts Tryz.info21
  have HOW := Lib.hid hown
  have HB := Lib.hid hb
  have HN := Lib.hid hn
  have HCR := Lib.hid hr
  have HBW := Lib.hid hBw
  have HBB := Lib.hid hB
  have hnc : n ≤ c := by
    rcases hown.2 with ⟨h', h0⟩ | ⟨g', cap', cur, h', _, _, hnc, _⟩
    · omega
    · simp only [Value.slice.injEq] at h'
      rw [h'.2.2]; exact hnc
  have hm1 : n + 1 ≤ maxLen := by unfold maxLen; omega
  have hm2 : (n + 1) * 4 ≤ 140737488355328 := by omega
  have HNC := Lib.hid hnc
  have hnci : (n : Int) ≤ (c : Int) := by omega
  clear hown hn hr hB hBw hb
  by_cases hcn : c = n
  all_goals
    go_enter Tryz.func104, Tryz.ntmps104
    go_wp2_with (first
      | (at_builtin; refine wpList_append_ownT rfl _ _ 85 40 rfl base 21 21 i0 (.int .i32 0) 1 4 Tryz.underlying85 Tryz.underlying40 hi hz0 hz1 hz2 rfl (by decide) _ n (rv l) rfl HOW.out ⟨b, 0, none⟩ 1 1 [.int .i32 r] rfl rfl (fun j u hu => by
          have hj : j = 0 := by have := (List.getElem?_eq_some_iff.1 hu).1; simp at this; exact this
          subst hj
          simp only [List.getElem?_cons_zero, Option.some.injEq] at hu
          rw [Addr.add_lit, ← hu]
          exact HCR.out) (oneInt _ _) hm1 hm2 HBW.out ?_; intro v8 w8 hown8 hg8; have HO8 := Lib.hid hown8; have HB8 := Lib.hid (HB.out.grown hg8 (Nat.le_trans HBB.out HBW.out) (fun q hq => Nat.le_trans HBB.out (own_ge HOW.out q hq))); clear hown8 hg8)
      | fail)
    go_ret
    refine ⟨v8, rfl, ?_, HB8.out⟩
    rw [List.length_append, HN.out, ← rv_snoc]
    exact HO8.out
theorem page_alloc (w : World) (o1 : Obj) (r : Int) (t : TypeId) : ((w.alloc o1).alloc (.cells #[.int .i32 r] t)).cell? ⟨w.heap.size + 1, 0, none⟩ = some (.int .i32 r) := by
  have h := World.cell?_alloc_new (w.alloc o1) #[.int .i32 r] t 0
  rw [show (w.alloc o1).heap.size = w.heap.size + 1 from by simp] at h
  rw [h]
  rfl
set_option maxRecDepth 100000 in
set_option maxHeartbeats 2000000 in
theorem with_end (a : Option Addr) (n c base B : Nat) (l : List Int) (k r s : Int) (w0 w : World) (hown : w.ownsRow base 21 1 (.slice a n c) n (rv l)) (hn : l.length = n) (hB : B ≤ base) (hBw : base ≤ w.heap.size) (hb : Below B w0 w) (hl : n ≤ 100000) :
    Calls Tryz.prog 79 #[.slice a n c, .agg #[.int .i64 k, .int .i64 n, .int .i32 r, .int .i64 s]] w (InsPost base B w0 (l ++ [r])) := by
  have HI := Lib.hid (insert_end a n c (w.heap.size + 1) base B l r w0 ((w.alloc (.cells #[.int .i64 k, .int .i64 n, .int .i32 r, .int .i64 s] 44)).alloc (.cells #[.int .i32 r] 21)) ((hown.alloc _).alloc _) hn (page_alloc w _ r _) hB (by simp; omega) ((hb.alloc (Nat.le_trans hB hBw) _).alloc (by simp; omega) _) hl)
  clear hown hn hB hBw hb hl
  unfold InsPost at HI
  go_enter Tryz.func79, Tryz.ntmps79
  go_wp2_with (first
    | (go_at_call 104; refine HI.out.mono ?_; rintro x1 w1 ⟨v1, rfl, hown1, hb1⟩; have HO1 := Lib.hid hown1; have HB1 := Lib.hid hb1; clear hown1 hb1)
    | fail)
  go_ret
  exact ⟨v1, rfl, HO1.out, HB1.out⟩
theorem deed_in (w : World) : Calls Tryz.prog 42 #[.int .i64 1] w fun e w' => e = .returned (.func (.func 79) #[] #[]) ∧ w = w' := by
  go_enter Tryz.func42, Tryz.ntmps42
  go_wp2
  go_ret
  exact ⟨rfl, rfl⟩
theorem runesBytes_mk : ∀ (l : List Int) (s : List UInt8), l.foldl (fun r n => r ++ Utf8.encode n) (⟨s.toArray⟩ : ByteArray) = ⟨(s ++ Go.Proofs.YthnedehihbploaaGreatDoor.mk l).toArray⟩
  | [], s => by simp [Go.Proofs.YthnedehihbploaaGreatDoor.mk]
  | r :: l, s => by
    rw [List.foldl_cons, encode_eq, mk_cons, ← List.append_assoc]
    have h : (⟨s.toArray⟩ : ByteArray) ++ (⟨(Lib.encodeRune r).toArray⟩ : ByteArray) = ⟨(s ++ Lib.encodeRune r).toArray⟩ := by
      congr 1
    rw [h]
    exact runesBytes_mk l _
theorem conv_page {w : World} {base : Nat} {v : Value} {n : Nat} {l : List Int} (h : w.ownsRow base 21 1 v n (rv l)) (hn : l.length = n) :
    (convert 85 9 v).run Tryz.prog w = .ok (S (Go.Proofs.YthnedehihbploaaGreatDoor.mk l)) w := by
  rcases h.2 with ⟨hv, h0⟩ | ⟨g, cap, cur, hv, hg, hh, hc, hm, hcs, ht⟩
  · subst hv
    have hl : l = [] := List.eq_nil_of_length_eq_zero (by omega)
    subst hl
    exact run_convert_runes_nil w 85 9 21 0 0 Tryz.underlying85 Tryz.underlying21 Tryz.underlying9
  · subst hv
    have h9 := run_convert_runes (P := Tryz.prog) w 85 9 21 ⟨g, 0, none⟩ n cap l (by omega) Tryz.underlying85 Tryz.underlying21 Tryz.underlying9 (fun j hj => by
      rw [Addr.add_lit, Nat.zero_add]
      have h8 := h.cellAt j (by omega)
      rw [h8, rv_get hj]
      simp [List.getD, List.getElem?_eq_getElem hj])
    rw [h9, List.take_of_length_le (by omega)]
    have h7 := runesBytes_mk l []
    unfold runesBytes
    rw [show ByteArray.empty = (⟨([] : List UInt8).toArray⟩ : ByteArray) from rfl, h7, List.nil_append]
set_option maxRecDepth 100000 in
set_option maxHeartbeats 8000000 in
theorem pPlay_app (a : Option Addr) (cap : Nat) (l : List OpR) (w : World) (h : OpsAt w a l) (hc : l.length ≤ cap) (hr : rowP (OpR.os l)) (hP : ∀ i (hi : i < (allK (OpR.os l) l.length).length), (allK (OpR.os l) l.length)[i].k = 1 ∧ (allK (OpR.os l) l.length)[i].at_ = (i : Int)) :
    Calls Tryz.prog 11 #[.slice a l.length cap] w (TextPost (Go.Proofs.YthnedehihbploaaGreatDoor.mk ((allK (OpR.os l) l.length).map Pr.r)) 0 w) := by
  have hl40 : l.length ≤ 40 := by have := hr.1; rw [os_len] at this; exact this
  have hml := allK_len hr l.length (by rw [os_len]; exact Nat.le_refl _)
  have HAL := Lib.hid (pAll_ok a cap l w h hc hr)
  unfold OfPost at HAL
  have HPP := Lib.hid hP
  unfold TextPost
  generalize allK (OpR.os l) l.length = P at *
  obtain ⟨m, hm⟩ : ∃ m, P.length = m := ⟨_, rfl⟩
  have HM := Lib.hid hm
  have HMB := Lib.hid (show m ≤ 16000 from by omega)
  have hmi : (m : Int) ≤ 16000 := by omega
  have HRL := Lib.hid (show (P.map Pr.r).length = m from by rw [List.length_map]; exact hm)
  have HRT := Lib.hid (fun k (hk : k < P.length) => (show (P.map Pr.r).take (k + 1) = (P.map Pr.r).take k ++ [P[k].r] from by
    rw [List.take_succ_eq_append_getElem (by rw [List.length_map]; exact hk)]
    simp))
  have HFL := Lib.hid (show (P.map Pr.r).take m = P.map Pr.r from List.take_of_length_le (by rw [List.length_map]; omega))
  generalize P.map Pr.r = R at *
  generalize l.length = n at *
  clear h hr hc hl40 hml hP hm
  go_enter Tryz.func11, Tryz.ntmps11
  go_wp2_with (first
    | (go_at_call 41; refine HAL.out.mono ?_; rintro x1 w1 ⟨v1, rfl, hown1, hb1⟩; obtain ⟨a1, c1, hv1, hp1, -⟩ := prims_own hown1; rw [HM.out] at hv1; subst hv1; have HP1 := Lib.hid hp1; have HB1 := Lib.hid hb1; clear hown1 hp1 hb1)
    | fail)
  go_loopw [6, 19] (fun s6 s19 wr => ∃ k : Nat, s19 = .int .i64 k ∧ k ≤ m ∧ wr.ownsRow w1.heap.size 21 1 s6 k (rv (R.take k)) ∧ Below w1.heap.size w1 wr) (fun _ s19 _ => m - (RowKit.intOf s19).toNat)
  case atStart => exact ⟨0, rfl, Nat.zero_le _, World.ownsRow_nil _ _ _ _, Below.refl _ _⟩
  case round =>
    obtain ⟨k, rfl, hk, ho, hb⟩ := hrel
    have HO := Lib.hid ho
    have HB := Lib.hid hb
    by_cases hlt : k < m
    · have hkl : k < P.length := by rw [HM.out]; exact hlt
      obtain ⟨b, off, rfl, hbb, c0, c1x, c2, c3⟩ := (HP1.out.below hb).cell k hkl
      obtain ⟨e1, e2⟩ := HPP.out k hkl
      rw [e1] at c0
      rw [e2] at c1x
      have HT := Lib.hid (HRT.out k hkl)
      generalize P[k] = p at *
      obtain ⟨pk_, pa, pr, ps⟩ := p
      simp only at c2 c3 HT
      obtain ⟨av, cv, hv⟩ := own_form ho
      subst hv
      have HBA := Lib.hid ((Below.refl wr.heap.size wr).alloc (Nat.le_refl _) (.cells #[.int .i64 1, .int .i64 k, .int .i32 pr, .int .i64 ps] 44))
      have HXC := Lib.hid (show (wr.alloc (.cells #[.int .i64 1, .int .i64 k, .int .i32 pr, .int .i64 ps] 44)).cell? ⟨wr.heap.size, 0, none⟩ = some (.int .i64 1) ∧ (wr.alloc (.cells #[.int .i64 1, .int .i64 k, .int .i32 pr, .int .i64 ps] 44)).cell? ⟨wr.heap.size, 1, none⟩ = some (.int .i64 k) ∧ (wr.alloc (.cells #[.int .i64 1, .int .i64 k, .int .i32 pr, .int .i64 ps] 44)).cell? ⟨wr.heap.size, 2, none⟩ = some (.int .i32 pr) ∧ (wr.alloc (.cells #[.int .i64 1, .int .i64 k, .int .i32 pr, .int .i64 ps] 44)).cell? ⟨wr.heap.size, 3, none⟩ = some (.int .i64 ps) from ⟨by simp, by simp, by simp, by simp⟩)
      have HXL := Lib.hid (show wr.heap.size < (wr.alloc (.cells #[.int .i64 1, .int .i64 k, .int .i32 pr, .int .i64 ps] 44)).heap.size from by simp)
      have HOU := Lib.hid (owns_belE ho HBA.out)
      have HBU := Lib.hid (HB.out.trans (HBA.out.mono HB.out.size))
      have HTL := Lib.hid (show (R.take k).length = k from by rw [List.length_take, HRL.out]; omega)
      clear ho hb hkl e1 e2
      go_upto_region 8 with fail
      clear c0 c1x c2 c3 hbb
      generalize wr.alloc (.cells #[.int .i64 1, .int .i64 k, .int .i32 pr, .int .i64 ps] 44) = wu at *
      generalize wr.heap.size = bx at *
      have HWI := Lib.hid (with_end av k cv w1.heap.size w1.heap.size (R.take k) 1 pr ps w1 wu.drew ((same_drew wu).owns HOU.out) HTL.out (Nat.le_refl _) HBU.out.size HBU.out.drew (by have := HMB.out; omega))
      unfold InsPost at HWI
      obtain ⟨x0, x1', x2, x3⟩ : wu.drew.cell? ⟨bx, 0, none⟩ = some (.int .i64 1) ∧ wu.drew.cell? ⟨bx, 1, none⟩ = some (.int .i64 k) ∧ wu.drew.cell? ⟨bx, 2, none⟩ = some (.int .i32 pr) ∧ wu.drew.cell? ⟨bx, 3, none⟩ = some (.int .i64 ps) := HXC.out
      have xl : bx < wu.drew.heap.size := HXL.out
      have HDE := Lib.hid (deed_in wu.drew)
      refine wp_region_still_tail 5 (by kernel_rfl) (by kernel_rfl) ?_
      change wpStill _ _ wu.drew (fun a' => wpList _ _ _ _ a' wu.drew) _ _
      generalize wu.drew = wd at *
      simp only [List.take_succ_cons, List.take_zero, List.drop_succ_cons, List.drop_zero]
      iterate 2 still_step
      still_call (HDE.out.mono fun e w9 h => ⟨h.1, h.2.symm⟩)
      repeat still_step
      refine wpStill_nil ?_
      go_wp2_with (first
        | (go_at_call 79; refine HWI.out.mono ?_; rintro x6 w6 ⟨v6, rfl, hown6, hb6⟩; have HO6 := Lib.hid hown6; have HB6 := Lib.hid hb6; clear hown6 hb6)
        | fail)
      go_roundw
      case rel => exact ⟨k + 1, by go_num, by omega, by
        have h9 := HO6.out
        rw [HT.out]
        rw [List.length_append, HTL.out] at h9
        exact h9, HB6.out⟩
      case measure => simp [RowKit.intOf]; omega
    · have h0 : k = m := by omega
      subst h0
      rw [HFL.out] at ho
      have hcv := conv_page ho HRL.out
      clear ho hb
      go_wp2_with fail
      go_ret2
      exact ⟨rfl, HB1.out.trans (HB.out.mono HB1.out.size)⟩
end Go.Proofs.YthnedehihbploaaGreatDoor
