import Derived.Test.YthnedehihbploaaGreatDoorCDel
import Derived.Test.YthnedehihbploaaGreatDoorRPage
import Derived.Test.YthnedehihbploaaGreatDoorEEdit
import Derived.Deep.RegionHeld3
import Derived.Deep.AppendLies
import Derived.Test.YthnedehihbploaaGreatDoorYNear
import Derived.Test.YthnedehihbploaaGreatDoorVArgs
import Derived.Deep.DeepCutAuto
import Derived.Deep.CutBlock
import Derived.Lib.QuietBelow
import Derived.Deep.QuietTactic
import Derived.BigQuiet
import Derived.IntWalk
import Derived.Laws.Closers25b
/- pure: what is written moves the carets behind it -/
namespace Go.Proofs.YthnedehihbploaaGreatDoor.Cst
open Go.RowKit Go.Lib Go.Proofs.YthnedehihbploaaGreatDoor

/-- what was encoded, decoded, is what was written -/
theorem decodeN_one {n b0 b1 b2 b3 : Nat} (h : b0 < 128) : decodeN n b0 b1 b2 b3 = (b0, 1) := by unfold decodeN; rw [if_pos h]
theorem encN_two {n r b2 b3 : Nat} (h1 : 128 ≤ r) (h2 : r ≤ 2047) (hn : 1 < n) : decodeN n (192 + r / 64) (128 + r % 64) b2 b3 = (r, 2) := by
  unfold decodeN
  rw [if_neg (by omega), if_pos ⟨by omega, hn, by omega⟩, if_pos (by omega)]
  congr 1
  omega
theorem encN_three {n r b3 : Nat} (h1 : 2048 ≤ r) (h2 : r < 55296 ∨ (57344 ≤ r ∧ r ≤ 65535)) (hn : 2 < n) : decodeN n (224 + r / 4096) (128 + r / 64 % 64) (128 + r % 64) b3 = (r, 3) := by
  have e : (224 + r / 4096) % 16 * 4096 + (128 + r / 64 % 64) % 64 * 64 + (128 + r % 64) % 64 = r := by omega
  unfold decodeN
  rw [if_neg (by omega), if_neg (by omega), if_pos ⟨by omega, ⟨by omega, by omega⟩, hn, by omega⟩, e, if_pos (by omega)]
theorem encN_four {n r : Nat} (h1 : 65536 ≤ r) (h2 : r ≤ 1114111) (hn : 3 < n) : decodeN n (240 + r / 262144) (128 + r / 4096 % 64) (128 + r / 64 % 64) (128 + r % 64) = (r, 4) := by
  have e : (240 + r / 262144) % 8 * 262144 + (128 + r / 4096 % 64) % 64 * 4096 + (128 + r / 64 % 64) % 64 * 64 + (128 + r % 64) % 64 = r := by omega
  unfold decodeN
  rw [if_neg (by omega), if_neg (by omega), if_neg (by omega), if_pos ⟨by omega, ⟨by omega, by omega⟩, ⟨by omega, by omega⟩, hn, by omega⟩, e, if_pos (by omega)]
theorem get_mid (A E Z : List UInt8) (k : Nat) (hk : k < E.length) : (⟨(A ++ E ++ Z).toArray⟩ : ByteArray).get! (A.length + k) = E[k] := by
  show ((A ++ E ++ Z).toArray)[A.length + k]! = _
  have hlt : A.length + k < (A ++ E ++ Z).toArray.size := by simp; omega
  rw [getElem!_pos ((A ++ E ++ Z).toArray) (A.length + k) hlt]
  simp only [List.getElem_toArray]
  rw [List.getElem_append_left (by simp; omega), List.getElem_append_right (by omega)]
  congr 1
  omega
theorem enc_get {A Z : List UInt8} {r : Int} {k : Nat} {b : Nat} (h : (Lib.encodeRuneZ r)[k]? = some (b : Int)) (hb : b < 256) : ((⟨(A ++ Lib.encodeRune r ++ Z).toArray⟩ : ByteArray).get! (A.length + k)).toNat = b := by
  have h2 : (Lib.encodeRune r)[k]? = some ((b : Int).toNat.toUInt8) := by simp [Lib.encodeRune, h]
  obtain ⟨hk, hv⟩ := List.getElem?_eq_some_iff.1 h2
  rw [get_mid A _ Z k hk, hv]
  simp
  omega
theorem decode_enc (A Z : List UInt8) (r : Int) (hr : okR r = true) : Utf8.decode ⟨(A ++ Lib.encodeRune r ++ Z).toArray⟩ A.length = (r.toNat, (Lib.encodeRune r).length) := by
  have h := okR_of hr
  have hsz : (⟨(A ++ Lib.encodeRune r ++ Z).toArray⟩ : ByteArray).size = A.length + (Lib.encodeRune r).length + Z.length := by
    show ((A ++ Lib.encodeRune r ++ Z).toArray).size = _
    simp
    omega
  have hlen : (Lib.encodeRune r).length = (Lib.encodeRuneZ r).length := by simp [Lib.encodeRune]
  obtain ⟨n, rfl⟩ : ∃ n : Nat, r = n := ⟨r.toNat, by omega⟩
  rw [Lib.decode_at, hsz]
  by_cases h1 : n ≤ 127
  · have hz : Lib.encodeRuneZ (n : Int) = [(n : Int)] := encodeRuneZ_one (by omega) (by omega)
    have g0 := enc_get (A := A) (Z := Z) (r := n) (k := 0) (b := n) (by rw [hz]; rfl) (by omega)
    rw [Nat.add_zero] at g0
    rw [g0, decodeN_one (by omega), hlen, hz]
    rfl
  by_cases h2 : n ≤ 2047
  · have hz : Lib.encodeRuneZ (n : Int) = [192 + (n : Int) / 64, 128 + (n : Int) % 64] := encodeRuneZ_two (by omega) (by omega)
    have g0 := enc_get (A := A) (Z := Z) (r := n) (k := 0) (b := 192 + n / 64) (by rw [hz]; simp) (by omega)
    have g1 := enc_get (A := A) (Z := Z) (r := n) (k := 1) (b := 128 + n % 64) (by rw [hz]; simp) (by omega)
    rw [Nat.add_zero] at g0
    rw [g0, g1, hlen, hz, encN_two (by omega) h2 (by simp; omega)]
    rfl
  by_cases h3 : n ≤ 65535
  · have hz : Lib.encodeRuneZ (n : Int) = [224 + (n : Int) / 4096, 128 + (n : Int) / 64 % 64, 128 + (n : Int) % 64] := encodeRuneZ_three (by omega)
    have g0 := enc_get (A := A) (Z := Z) (r := n) (k := 0) (b := 224 + n / 4096) (by rw [hz]; simp) (by omega)
    have g1 := enc_get (A := A) (Z := Z) (r := n) (k := 1) (b := 128 + n / 64 % 64) (by rw [hz]; simp) (by omega)
    have g2 := enc_get (A := A) (Z := Z) (r := n) (k := 2) (b := 128 + n % 64) (by rw [hz]; simp) (by omega)
    rw [Nat.add_zero] at g0
    rw [g0, g1, g2, hlen, hz, encN_three (by omega) (by omega) (by simp; omega)]
    rfl
  · have hz : Lib.encodeRuneZ (n : Int) = [240 + (n : Int) / 262144, 128 + (n : Int) / 4096 % 64, 128 + (n : Int) / 64 % 64, 128 + (n : Int) % 64] := encodeRuneZ_four (by omega) (by omega)
    have g0 := enc_get (A := A) (Z := Z) (r := n) (k := 0) (b := 240 + n / 262144) (by rw [hz]; simp) (by omega)
    have g1 := enc_get (A := A) (Z := Z) (r := n) (k := 1) (b := 128 + n / 4096 % 64) (by rw [hz]; simp) (by omega)
    have g2 := enc_get (A := A) (Z := Z) (r := n) (k := 2) (b := 128 + n / 64 % 64) (by rw [hz]; simp) (by omega)
    have g3 := enc_get (A := A) (Z := Z) (r := n) (k := 3) (b := 128 + n % 64) (by rw [hz]; simp) (by omega)
    rw [Nat.add_zero] at g0
    rw [g0, g1, g2, g3, hlen, hz, encN_four (by omega) (by omega) (by simp; omega)]
    rfl
theorem enc_pos (r : Int) : 1 ≤ (Lib.encodeRune r).length := by
  have := (Lib.encodeRuneZ_length r).1
  simpa [Lib.encodeRune] using this
theorem rnsFrom_mk : ∀ (L : List Int) (A : List UInt8) (f : Nat), (∀ r ∈ L, okR r = true) → (Go.Proofs.YthnedehihbploaaGreatDoor.mk L).length ≤ f → rnsFrom ⟨(A ++ Go.Proofs.YthnedehihbploaaGreatDoor.mk L).toArray⟩ f A.length = L
  | [], A, f, _, _ => by
    rw [mk_nil, List.append_nil]
    refine rnsFrom_end _ f _ ?_
    show ¬ A.length < A.toArray.size
    simp
  | r :: L, A, f, h, hf => by
    rw [mk_cons, List.length_append] at hf
    have hp := enc_pos r
    obtain ⟨g, rfl⟩ : ∃ g, f = g + 1 := ⟨f - 1, by omega⟩
    have hr := h r (by simp)
    have hr0 := okR_of hr
    have hlt : A.length < (⟨(A ++ Go.Proofs.YthnedehihbploaaGreatDoor.mk (r :: L)).toArray⟩ : ByteArray).size := by
      show _ < ((A ++ Go.Proofs.YthnedehihbploaaGreatDoor.mk (r :: L)).toArray).size
      rw [mk_cons]
      simp
      omega
    rw [rnsFrom_step _ g _ hlt]
    have hd := decode_enc A (Go.Proofs.YthnedehihbploaaGreatDoor.mk L) r hr
    rw [show A ++ Go.Proofs.YthnedehihbploaaGreatDoor.mk (r :: L) = A ++ Lib.encodeRune r ++ Go.Proofs.YthnedehihbploaaGreatDoor.mk L from by rw [mk_cons, List.append_assoc], hd]
    have ih := rnsFrom_mk L (A ++ Lib.encodeRune r) g (fun x hx => h x (by simp [hx])) (by omega)
    rw [List.length_append] at ih
    simp only
    rw [ih]
    congr 1
    omega
theorem rns_mk (L : List Int) (h : ∀ r ∈ L, okR r = true) : rns ⟨(Go.Proofs.YthnedehihbploaaGreatDoor.mk L).toArray⟩ = L := by
  have := rnsFrom_mk L [] (Go.Proofs.YthnedehihbploaaGreatDoor.mk L).length h (Nat.le_refl _)
  simpa [rns, ByteArray.size] using this
/-- the runes of a row's text -/
theorem rns_doc {l : List OpD} (h : okRow l) : rns ⟨(docT l).toArray⟩ = visR l := rns_mk _ (visR_ok h)
theorem docT_le {l : List OpD} (h : okRow l) : (docT l).length ≤ 800 := by
  have h1 := mk_length (visR l)
  have h2 := visE_le h
  rw [visR_len] at h1
  unfold docT
  omega
end Go.Proofs.YthnedehihbploaaGreatDoor.Cst
namespace Go.Proofs.YthnedehihbploaaGreatDoor

theorem docT_okT {l : List OpD} (h : okRow l) : okT ⟨(docT l).toArray⟩ = true := by
  unfold okT
  rw [Cst.rns_doc h, List.all_eq_true]
  exact fun r hr => visR_ok h r hr
/-- a caret that was set at a place is there -/
theorem set_place {D : List OpD} (h0 : okRow D) {at_ : Nat} (ha : at_ ≤ (visE D).length) : plN D (setE D at_) = (at_ : Int) ∧ plR D (setE D at_) = 0 := by
  rcases Nat.eq_zero_or_pos at_ with h1 | h1
  · subst h1
    have h2 : setE D ((0 : Nat) : Int) = B0 := setE_zero D
    rw [h2, (pl_yes (.inl rfl)).1, (pl_yes (.inl rfl)).2, pl_begin h0]
    exact ⟨rfl, rfl⟩
  · obtain ⟨j, rfl⟩ : ∃ j, at_ = j + 1 := ⟨at_ - 1, by omega⟩
    have hx := setE_vis (D := D) (j := j) (by omega)
    have hw : wroteE D (setE D ((j : Int) + 1)) := .inr (visE_ord (List.mem_of_getElem? hx))
    have h2 := pl_vis h0 hx
    rw [show (((j + 1 : Nat) : Nat) : Int) = (j : Int) + 1 from by omega, (pl_yes hw).1, (pl_yes hw).2, h2]
    exact ⟨by omega, rfl⟩
/-- what is near has its place -/
theorem near_place {D : List OpD} (h0 : okRow D) {e : El} (he : wroteE D e) : plN D (nearE D e) = plN D e ∧ plR D (nearE D e) = 0 := by
  have hle := plE_le D e
  have h1 : nearE D e = setE D (plE D e : Nat) := by
    unfold nearE setE
    rw [if_pos (by omega), Int.toNat_natCast]
  rw [h1, (set_place h0 hle).1, (set_place h0 hle).2, (pl_yes he).1]
  exact ⟨rfl, rfl⟩
theorem pos_up {D : List OpD} (h0 : okRow D) {e : El} (he : e ∈ ordE D) : pos (ordT D) e = upE D e := by
  have hb : e ≠ B0 := fun h => b0_not h0 (h ▸ he)
  obtain ⟨h1, -, -⟩ := up_at he
  have h2 : atI (ordE D) e = ((ordE D).findIdx (fun y => decide (y = e)) : Nat) := by unfold atI; rw [if_pos he]
  have h3 : (ordE D).findIdx (fun y => decide (y = e)) = (ordT D).findIdx (fun t => decide (t.nd.e = e)) := findIdx_map e
  unfold pos
  rw [if_neg hb]
  omega
/-- what is visible, where something is written behind the k-th -/
theorem stay_split {D : List OpD} {o : OpD} (hr : okRow (D ++ [o])) (hk : o.kind = 1) (hg : o.gone = []) {k : Nat} (ha : o.after = setE D k) (hkl : k ≤ (visE D).length) :
    visE (D ++ [o]) = (visE D).take k ++ mine o.site o.seq (nR o.text) ++ (visE D).drop k := by
  obtain ⟨h0, ht⟩ := eRow_snoc hr
  have hA : visA D o = (visE D).take k := by
    rcases Nat.eq_zero_or_pos k with h1 | h1
    · subst h1
      have h2 : setE D ((0 : Nat) : Int) = B0 := setE_zero D
      have h3 : pos (ordT D) o.after = 0 := by rw [ha, h2]; rfl
      unfold visA
      rw [h3]
      rfl
    · obtain ⟨j, rfl⟩ : ∃ j, k = j + 1 := ⟨k - 1, by omega⟩
      have hx := setE_vis (D := D) (j := j) (by omega)
      rw [show (((j + 1 : Nat) : Nat) : Int) = (j : Int) + 1 from by omega] at ha
      have h4 := pos_up h0 (visE_ord (List.mem_of_getElem? hx))
      have h5 := vis_prefix D (setE D ((j : Int) + 1))
      rw [pl_vis h0 hx] at h5
      unfold visA
      rw [ha, h4, ← h5]
  have hB : visB D o = (visE D).drop k := by
    have h1 := vis_parts D o
    have h2 : (visA D o).length = k := by rw [hA, List.length_take]; omega
    conv => rhs; rw [h1]
    rw [← h2, List.drop_left']
    rfl
  have hf : ∀ L : List El, L.filter (fun e => !decide (e ∈ o.gone)) = L := fun L => List.filter_eq_self.2 (fun e _ => by rw [hg]; simp)
  rw [visE_snoc h0 ht hk, hf, hf, hA, hB]
/-- where a caret is when something is written -/
theorem ins_place {D : List OpD} {o : OpD} (hr : okRow (D ++ [o])) (hk : o.kind = 1) (hg : o.gone = []) {k at_ : Nat} (ha : o.after = setE D k) (hkl : k ≤ (visE D).length) (hat : at_ ≤ (visE D).length) :
    plN (D ++ [o]) (setE D at_) = ((if k < at_ then at_ + nR o.text else at_ : Nat) : Int) ∧ plR (D ++ [o]) (setE D at_) = 0 := by
  have hs := stay_split hr hk hg ha hkl
  rcases Nat.eq_zero_or_pos at_ with h1 | h1
  · subst h1
    have h2 : setE D ((0 : Nat) : Int) = B0 := setE_zero D
    rw [h2, (pl_yes (.inl rfl)).1, (pl_yes (.inl rfl)).2, pl_begin hr, if_neg (by omega)]
    exact ⟨rfl, rfl⟩
  · obtain ⟨j, rfl⟩ : ∃ j, at_ = j + 1 := ⟨at_ - 1, by omega⟩
    have hx := setE_vis (D := D) (j := j) (by omega)
    rw [show (((j + 1 : Nat) : Nat) : Int) = (j : Int) + 1 from by omega]
    have hlk : ((visE D).take k).length = k := by rw [List.length_take]; omega
    have hml : (mine o.site o.seq (nR o.text)).length = nR o.text := mine_length _ _ _
    have hx2 : (visE (D ++ [o]))[if k < j + 1 then j + nR o.text else j]? = some (setE D ((j : Int) + 1)) := by
      rw [hs]
      by_cases hkj : k < j + 1
      · rw [if_pos hkj, List.getElem?_append_right (by rw [List.length_append, hlk, hml]; omega), List.length_append, hlk, hml, List.getElem?_drop, ← hx]
        congr 1
        omega
      · rw [if_neg hkj, List.append_assoc, List.getElem?_append_left (by omega), List.getElem?_take, if_pos (by omega), hx]
    have hw : wroteE (D ++ [o]) (setE D ((j : Int) + 1)) := .inr (visE_ord (List.mem_of_getElem? hx2))
    rw [(pl_yes hw).1, (pl_yes hw).2, pl_vis hr hx2]
    refine ⟨?_, rfl⟩
    split <;> omega
end Go.Proofs.YthnedehihbploaaGreatDoor
/- CaretStays: edit.Insert; a region as a theorem of its own -/
namespace Go.Proofs.YthnedehihbploaaGreatDoor
open Go.RowKit Go.Lib Go.Sort

theorem and14 {p0 p1 p2 p3 p4 p5 p6 p7 p8 p9 p10 p11 p12 p13 : Prop} (h : p0 ∧ p1 ∧ p2 ∧ p3 ∧ p4 ∧ p5 ∧ p6 ∧ p7 ∧ p8 ∧ p9 ∧ p10) (g : p11 ∧ p12 ∧ p13) : p0 ∧ p1 ∧ p2 ∧ p3 ∧ p4 ∧ p5 ∧ p6 ∧ p7 ∧ p8 ∧ p9 ∧ p10 ∧ p11 ∧ p12 ∧ p13 := by
  obtain ⟨h0, h1, h2, h3, h4, h5, h6, h7, h8, h9, h10⟩ := h
  exact ⟨h0, h1, h2, h3, h4, h5, h6, h7, h8, h9, h10, g⟩
def csReg (n : Nat) : Code → Option Code
  | .region m ops d => if m = n then some (.region m ops d) else none
  | .seq a b => (csReg n a).or (csReg n b)
  | .cond _ a b => (csReg n a).or (csReg n b)
  | .block _ c => csReg n c
  | .loop c => csReg n c
  | .scope c => csReg n c
  | _ => none
noncomputable def regCs (n : Nat) : Code := ((Tryz.f5.body.bind (csReg n)).getD .skip)
theorem stays_first (wu : World) : Below wu.heap.size wu wu.drew := (Below.refl _ wu).drew
theorem stays_second (wu : World) (o : Obj) : Below wu.heap.size wu (wu.drew.alloc o) := ((Below.refl _ wu).drew).alloc (Nat.le_refl _) o
theorem stays_third (wu : World) (o : Obj) : Below wu.heap.size wu (wu.alloc o).drew := ((Below.refl _ wu).alloc (Nat.le_refl _) o).drew
theorem news_oS {W w7 : World} {r : OpR} (hb : Below (W.drew.alloc (.cells #[.int .i64 r.o.site, .int .i64 r.o.seq, .int .i64 r.o.kind, .int .i64 r.o.after.s, .int .i64 r.o.after.q, .int .i64 r.o.after.i, .string r.o.text, .slice r.a r.o.gone.length r.cap, .int .i64 r.o.of, .int .i64 r.o.num, .int .i64 r.o.gen] 39)).heap.size (W.drew.alloc (.cells #[.int .i64 r.o.site, .int .i64 r.o.seq, .int .i64 r.o.kind, .int .i64 r.o.after.s, .int .i64 r.o.after.q, .int .i64 r.o.after.i, .string r.o.text, .slice r.a r.o.gone.length r.cap, .int .i64 r.o.of, .int .i64 r.o.num, .int .i64 r.o.gen] 39)) w7) :
    ∀ j u, (r.cs)[j]? = some u → w7.cell? ((⟨W.heap.size, 0, none⟩ : Addr).add j) = some u := by
  intro j u hu
  have h := cell_op_newR W.drew r 39 j u hu
  rw [Addr.add_lit] at h ⊢
  exact (hb.cell (p := ⟨W.heap.size, 0 + j, none⟩) (World.block_lt_of_cell? _ _ h)).trans h
/-! what is told of a row of which the ops are known -/
def CopBS (n : Nat) (os : List OpD) (wB w : World) (x : Ending) (w' : World) : Prop := ∃ a c L, x = .returned (.slice a n c) ∧ OwnO wB.heap.size w' (.slice a n c) L ∧ L.length = n ∧ OpR.os L = os ∧ w'.ownsRow wB.heap.size 39 11 (.slice a n c) n (ocs L) ∧ Below w.heap.size w w' ∧ Below wB.heap.size wB w'
theorem CopyOps_bS (a : Option Addr) (cap n : Nat) (l : List OpR) (os : List OpD) (wB w : World) (h : OpsAt w a l) (hg : ∀ r ∈ l, r.o.gone.length ≤ 1000000) (hl : l.length = n) (hos : OpR.os l = os) (hn : n ≤ 1000000) (hb : Below wB.heap.size wB w) : Calls Tryz.prog 18 #[.slice a n cap] w (CopBS n os wB w) := by
  subst hl
  refine (CopyOps_any a cap l w h hg hn).mono ?_
  rintro x w' ⟨v, L, rfl, hown0, hos2, hb2⟩
  have hlen : L.length = l.length := by have h := congrArg List.length hos2; rwa [os_len, os_len] at h
  have hown := hown0.wide hb.size
  obtain ⟨a3, c3, hv3, _, _⟩ := hown.ops (by rw [hlen]; unfold BIG; omega)
  rw [hlen] at hv3
  subst hv3
  refine ⟨a3, c3, L, rfl, hown, hlen, hos2.trans hos, ?_, hb2, hb.trans (hb2.mono hb.size)⟩
  have h9 := hown.own
  rwa [hlen] at h9
def StayR (os : List OpD) (o : OpD) (m : Nat) (w : World) (v : Value) (w8 : World) : Prop := ∃ a c L, v = .slice a m c ∧ OpsAt w8 a L ∧ L.length = m ∧ OpR.os L = os ++ [o] ∧ Below w.heap.size w w8
theorem stay_in {w w3 w8 : World} {n g c : Nat} {v3 : Value} {L : List OpR} {os : List OpD} {r : OpR} (h : OwnO w.heap.size w3 v3 L) (hL : L.length = n) (hos : OpR.os L = os) (hn : n ≤ 100000) (hr : ∀ wx, OpAt wx r.o r.a r.cap) (hkp : Kp v3.ownBlock w3 w8)
    (hown : w8.ownsRow w.heap.size 39 11 (.slice (some ⟨g, 0, none⟩) (n + 1) c) (n + 1) (ocs L ++ r.cs)) (hb : Below w.heap.size w w8) : StayR os r.o (n + 1) w (.slice (some ⟨g, 0, none⟩) (n + 1) c) w8 := by
  subst hL
  have hlen : (L ++ [r]).length = L.length + 1 := by simp
  have hcs : ocs (L ++ [r]) = ocs L ++ r.cs := by rw [ocs_append, ocs_one]
  have hat : ∀ x ∈ L ++ [r], OpAt w8 x.o x.a x.cap := by
    intro x hx
    rcases List.mem_append.1 hx with hx | hx
    · exact (h.at_ x hx).kp hkp (fun ad ha => (h.apart x hx ad ha).1)
    · have : x = r := by simpa using hx
      subst this
      exact hr w8
  obtain ⟨a, c2, hv, hops, -⟩ := ops_own (by rw [hlen, hcs]; exact hown) hat (by rw [hlen]; unfold BIG; omega)
  rw [hlen] at hv
  exact ⟨a, c2, L ++ [r], hv, hops, hlen, by unfold OpR.os at *; rw [List.map_append, hos]; rfl, hb⟩
theorem stay_a {w w3 w8 : World} {n g c : Nat} {ob : Obj} {v3 : Value} {L : List OpR} {os : List OpD} {r : OpR} (h : OwnO w.heap.size w3 v3 L) (hL : L.length = n) (hos : OpR.os L = os) (hn : n ≤ 100000) (hr : ∀ wx, OpAt wx r.o r.a r.cap) (hb : Below w.heap.size w w3)
    (hown : w8.ownsRow w.heap.size 39 11 (.slice (some ⟨g, 0, none⟩) (n + 1) c) (n + 1) (ocs L ++ r.cs)) (hg : (w3.alloc ob).grownBy w8 v3.ownBlock) : StayR os r.o (n + 1) w (.slice (some ⟨g, 0, none⟩) (n + 1) c) w8 :=
  stay_in h hL hos hn hr ((Kp.refl v3.ownBlock w3).step (.inl rfl) hg) hown ((hb.alloc hb.size _).grown hg (by have := hb.size; simp; omega) (fun q hq => own_ge h.own q hq))
theorem stay_b {w w3 w8 : World} {n g c : Nat} {v3 : Value} {L : List OpR} {os : List OpD} {r : OpR} (h : OwnO w.heap.size w3 v3 L) (hL : L.length = n) (hos : OpR.os L = os) (hn : n ≤ 100000) (hr : ∀ wx, OpAt wx r.o r.a r.cap) (hb : Below w.heap.size w w3)
    (hown : w8.ownsRow w.heap.size 39 11 (.slice (some ⟨g, 0, none⟩) (n + 1) c) (n + 1) (ocs L ++ r.cs)) (hg : w3.grownBy w8 v3.ownBlock) : StayR os r.o (n + 1) w (.slice (some ⟨g, 0, none⟩) (n + 1) c) w8 :=
  stay_in h hL hos hn hr ⟨hg.os, hg.tape, hg.output, hg.size, hg.block⟩ hown (hb.grown hg hb.size (fun q hq => own_ge h.own q hq))
theorem rep_after {D : List OpD} {site : Int} {k : Nat} {s : ByteArray} (hk : k ≤ (visE D).length) : (repOp D site k 0 s).after = setE D k := by
  unfold repOp
  rcases Nat.eq_zero_or_pos k with h1 | h1
  · subst h1
    exact (setE_zero D).symm
  · obtain ⟨j, rfl⟩ : ∃ j, k = j + 1 := ⟨k - 1, by omega⟩
    simp only
    rw [if_neg (by omega), Nat.add_sub_cancel, setE_vis (by omega), show (((j + 1 : Nat) : Nat) : Int) = (j : Int) + 1 from by omega]
    rfl
theorem rep_gone (D : List OpD) (site : Int) (k : Nat) (s : ByteArray) : (repOp D site k 0 s).gone = [] := by
  unfold repOp
  simp
/-- what Insert tells -/
def InsX (D : List OpD) (o : OpD) (w : World) (e : Ending) (w' : World) : Prop := ∃ (es eq ek ex ey ez ef em en er : Int) (et : ByteArray) (oa : Option Addr) (gl oc : Nat), e = .returned (.tuple #[.agg #[.int .i64 es, .int .i64 eq, .int .i64 ek, .int .i64 ex, .int .i64 ey, .int .i64 ez, .string et, .slice oa gl oc, .int .i64 ef, .int .i64 em, .int .i64 en], .int .i64 er]) ∧ (er = 0 → (⟨es, eq, ek, ⟨ex, ey, ez⟩, et, [], ef, em, en⟩ : OpD) = o ∧ gl = 0 ∧ (oa = none → oc = 0) ∧ rowP (D ++ [o])) ∧ Below w.heap.size w w'
theorem rep_insx {D : List OpD} {site : Int} {k : Nat} {s : ByteArray} {w : World} {e : Ending} {w' : World} (h : RepPost D (repOp D site k 0 s) w e w') : InsX D (repOp D site k 0 s) w e w' := by
  have hg := rep_gone D site k s
  obtain ⟨ga, gc, rfl, -, hno, hb⟩ := h
  by_cases hrow : rowB (D ++ [repOp D site k 0 s]) = true
  · rw [if_pos hrow, if_pos hrow]
    generalize hro : repOp D site k 0 s = ro at *
    obtain ⟨os_, oq, ok, ⟨ox, oy, oz⟩, ot, og, of_, om, on_⟩ := ro
    simp only at hg
    subst hg
    exact ⟨os_, oq, ok, ox, oy, oz, of_, om, on_, 0, ot, ga, 0, gc, rfl, fun _ => ⟨rfl, rfl, fun h => (hno h).2, (rowB_iff _).1 hrow⟩, hb⟩
  · rw [if_neg hrow, if_neg hrow]
    exact ⟨0, 0, 0, 0, 0, 0, 0, 0, 0, 6, ⟨#[]⟩, none, 0, 0, rfl, fun h => absurd h (by decide), hb⟩
set_option maxRecDepth 100000 in
set_option maxHeartbeats 2000000 in
theorem eIns_x (a : Option Addr) (cap : Nat) (l : List OpR) (site : Int) (k : Nat) (s : ByteArray) (w : World) (h : OpsAt w a l) (hc : l.length ≤ cap) (hr : rowP (OpR.os l)) (hs : 1 ≤ site ∧ site ≤ 8) (hk : okT s = true) (hsz : s.size ≤ 60000) (hrc : Lib.runeCount s ≤ 12) (hat : k ≤ (visE (OpR.os l)).length) (hne : s.toList ≠ []) :
    Calls Tryz.prog 31 #[.slice a l.length cap, .int .i64 site, .int .i64 (k : Int), .string s] w (InsX (OpR.os l) (repOp (OpR.os l) site k 0 s) w) := by
  have HR := Lib.hid (fun wx (hx : Below w.heap.size w wx) => (eRep_tiny a cap l site k 0 s wx (h.below hx) hc hr hs hk hsz hrc hat (Nat.zero_le _) (Nat.zero_le _) hne).mono (fun _ _ h => rep_insx h))
  unfold InsX at HR ⊢
  generalize OpR.os l = D at *
  generalize repOp D site k 0 s = ro at *
  generalize l.length = n at *
  have HQ0 := Lib.hid (show (w.alloc (.cells #[.int .i64 0, .int .i64 0, .int .i64 0, .int .i64 0, .int .i64 0, .int .i64 0, .string ⟨#[]⟩, .slice none 0 0, .int .i64 0, .int .i64 0, .int .i64 0] 39)).heap[w.heap.size]? = some (.cells #[.int .i64 0, .int .i64 0, .int .i64 0, .int .i64 0, .int .i64 0, .int .i64 0, .string ⟨#[]⟩, .slice none 0 0, .int .i64 0, .int .i64 0, .int .i64 0] 39) from heap_alloc_new _ _)
  have HB0 := Lib.hid (show Below w.heap.size w (w.alloc (.cells #[.int .i64 0, .int .i64 0, .int .i64 0, .int .i64 0, .int .i64 0, .int .i64 0, .string ⟨#[]⟩, .slice none 0 0, .int .i64 0, .int .i64 0, .int .i64 0] 39)) from (Below.refl _ _).alloc (Nat.le_refl _) _)
  clear h hc hr hs hk hsz hrc hat hne
  go_enter Tryz.func31, Tryz.ntmps31
  go_wp2_with (first
    | (go_at_call 62; refine (HR.out _ HB0.out).mono ?_; rintro x1 w1 ⟨es, eq, ek, ex, ey, ez, ef, em, en, er, et, oa, gl, oc, rfl, hok, hb1⟩; have HOK := Lib.hid hok; obtain ⟨p0, p1, p2, p3, p4, p5, p6, p7, p8, p9, pa, pf, pl⟩ := cCells11P ((hb1.block w.heap.size (by simp)).trans HQ0.out); have HB1 := Lib.hid (HB0.out.trans (hb1.mono (by simp))); clear hok hb1)
    | fail)
  refine bodyPost_ret (v := .tuple #[.agg #[.int .i64 es, .int .i64 eq, .int .i64 ek, .int .i64 ex, .int .i64 ey, .int .i64 ez, .string et, .slice oa gl oc, .int .i64 ef, .int .i64 em, .int .i64 en], .int .i64 er]) (by simp [results, Tryz.results31, go_sem, p0, p1, p2, p3, p4, p5, p6, p7, p8, p9, pa]) rfl ⟨es, eq, ek, ex, ey, ez, ef, em, en, er, et, oa, gl, oc, rfl, HOK.out, ?_⟩
  exact cSet11 HB1.out _ _ _ _ _ _ _ _ _ _ _
set_option maxRecDepth 100000 in
set_option maxHeartbeats 8000000 in
theorem cs_r24 {u0 u1 u2 u3 u5 u6 u7 u8 u9 u11 u12 u13 u14 u16 u17 u18 u19 u20 u21 u22 u23 u24 u25 u26 u27 u28 u29 u30 u31 u32 u33 u34 u35 u36 u37 u38 u39 u40 u41 u42 u43 u44 u45 u46 u47 u48 u49 u50 u51 u52 u53 u54 u55 u56 u57 u58 u59 u60 u61 u62 u63 u64 u65 u66 u67 u68 u69 u70 u71 u72 u73 u74 u75 u76 u77 u78 u79 u80 u81 u82 u83 u84 u85 u86 u87 u88 u89 u90 u91 u92 u93 u94 u95 u96 u97 u98 u99 u100 u101 u102 u103 u104 u105 u106 u107 u108 u109 u110 u111 u112 u113 u114 u115 u116 u117 u118 u119 u120 u121 u122 u123 u124 u125 u126 u127 u128 u129 u130 u131 u132 u133 u134 u135 u136 u137 u138 u139 u140 u141 u142 u143 u144 u145 u146 u147 u148 u149 u150 u151 u152 u153 u154 u155 u156 u157 u158 u159 u160 u161 u162 u163 u164 u165 u166 u167 u168 u169 u170 u171 u172 u173 u174 u175 u176 u177 u178 u179 u180 u181 u182 u183 u184 u185 u186 u187 u188 u189 u190 u191 u192 u193 : Value}
    {ra oa : Option Addr} {nr rc bo bx oc : Nat} {es eq ek ex ey ez ef em en xs xq xi pn : Int} {et : ByteArray} {os : List OpD} (w : World)
    (HA : RowKit.Hid (∀ wx : World, Below w.heap.size w wx → wx.cell? ⟨bo, 0, none⟩ = some (.int .i64 es) ∧ wx.cell? ⟨bo, 1, none⟩ = some (.int .i64 eq) ∧ wx.cell? ⟨bo, 2, none⟩ = some (.int .i64 ek) ∧ wx.cell? ⟨bo, 3, none⟩ = some (.int .i64 ex) ∧ wx.cell? ⟨bo, 4, none⟩ = some (.int .i64 ey) ∧ wx.cell? ⟨bo, 5, none⟩ = some (.int .i64 ez) ∧ wx.cell? ⟨bo, 6, none⟩ = some (.string et) ∧ wx.cell? ⟨bo, 7, none⟩ = some (.slice oa 0 oc) ∧ wx.cell? ⟨bo, 8, none⟩ = some (.int .i64 ef) ∧ wx.cell? ⟨bo, 9, none⟩ = some (.int .i64 em) ∧ wx.cell? ⟨bo, 10, none⟩ = some (.int .i64 en)))
    (HX : RowKit.Hid (∀ wx : World, Below w.heap.size w wx → wx.cell? ⟨bx, 0, none⟩ = some (.int .i64 xs) ∧ wx.cell? ⟨bx, 1, none⟩ = some (.int .i64 xq) ∧ wx.cell? ⟨bx, 2, none⟩ = some (.int .i64 xi)))
    (_hlo : bo < w.heap.size) (_hlx : bx < w.heap.size)
    (HOP : RowKit.Hid (∀ wx : World, OpAt wx ⟨es, eq, ek, ⟨ex, ey, ez⟩, et, [], ef, em, en⟩ oa oc)) (hl40 : (nr : Int) ≤ 1000)
    (HCO : RowKit.Hid (∀ wx : World, Below w.heap.size w wx → Calls Tryz.prog 18 #[.slice ra nr rc] wx (CopBS nr os w wx)))
    (H2 : RowKit.Hid (∀ (a8 : Option Addr) (c8 : Nat) (L8 : List OpR) (wx : World), OpsAt wx a8 L8 → L8.length = nr + 1 → OpR.os L8 = os ++ [⟨es, eq, ek, ⟨ex, ey, ez⟩, et, [], ef, em, en⟩] → Calls Tryz.prog 24 #[.slice a8 (nr + 1) c8, .agg #[.int .i64 xs, .int .i64 xq, .int .i64 xi]] wx (fun e w' => e = .returned (.tuple #[.int .i64 pn, .int .i64 0]) ∧ Below wx.heap.size wx w')))
    {K : Act → World → Prop} {Q : Exit → Act → World → Prop} (hK : ∀ (v120 v121 v122 v123 v124 v125 v126 v127 v128 v129 : Value) (wx : World), Below w.heap.size w wx → K ⟨#[u0, u1, u2, u3, .slice ra nr rc, u5, u6, u7, u8, u9, .pointer (some ⟨bx, 0, none⟩), u11, u12, u13, u14, .pointer (some ⟨bo, 0, none⟩), u16, .int .i64 pn, .int .i64 0, u19, u20, u21, u22, u23, u24, u25, u26, u27, u28, u29, u30, u31, u32, u33, u34, u35, u36, u37, u38, u39, u40, u41, u42, u43, u44, u45, u46, u47, u48, u49, u50, u51, u52, u53, u54, u55, u56, u57, u58, u59, u60, u61, u62, u63, u64, u65, u66, u67, u68, u69, u70, u71, u72, u73, u74, u75, u76, u77, u78, u79, u80, u81, u82, u83, u84, u85, u86, u87, u88, u89, u90, u91, u92, u93, u94, u95, u96, u97, u98, u99, u100, u101, u102, u103, u104, u105, u106, u107, u108, u109, u110, u111, u112, u113, u114, u115, u116, u117, u118, u119, v120, v121, v122, v123, v124, v125, v126, v127, v128, v129, u130, u131, u132, u133, u134, u135, u136, u137, u138, u139, u140, u141, u142, u143, u144, u145, u146, u147, u148, u149, u150, u151, u152, u153, u154, u155, u156, u157, u158, u159, u160, u161, u162, u163, u164, u165, u166, u167, u168, u169, u170, u171, u172, u173, u174, u175, u176, u177, u178, u179, u180, u181, u182, u183, u184, u185, u186, u187, u188, u189, u190, u191, u192, u193], []⟩ wx) :
    Code.wp Tryz.prog (regCs 24) (Exit.then K Q) ⟨#[u0, u1, u2, u3, .slice ra nr rc, u5, u6, u7, u8, u9, .pointer (some ⟨bx, 0, none⟩), u11, u12, u13, u14, .pointer (some ⟨bo, 0, none⟩), u16, u17, u18, u19, u20, u21, u22, u23, u24, u25, u26, u27, u28, u29, u30, u31, u32, u33, u34, u35, u36, u37, u38, u39, u40, u41, u42, u43, u44, u45, u46, u47, u48, u49, u50, u51, u52, u53, u54, u55, u56, u57, u58, u59, u60, u61, u62, u63, u64, u65, u66, u67, u68, u69, u70, u71, u72, u73, u74, u75, u76, u77, u78, u79, u80, u81, u82, u83, u84, u85, u86, u87, u88, u89, u90, u91, u92, u93, u94, u95, u96, u97, u98, u99, u100, u101, u102, u103, u104, u105, u106, u107, u108, u109, u110, u111, u112, u113, u114, u115, u116, u117, u118, u119, u120, u121, u122, u123, u124, u125, u126, u127, u128, u129, u130, u131, u132, u133, u134, u135, u136, u137, u138, u139, u140, u141, u142, u143, u144, u145, u146, u147, u148, u149, u150, u151, u152, u153, u154, u155, u156, u157, u158, u159, u160, u161, u162, u163, u164, u165, u166, u167, u168, u169, u170, u171, u172, u173, u174, u175, u176, u177, u178, u179, u180, u181, u182, u183, u184, u185, u186, u187, u188, u189, u190, u191, u192, u193], []⟩ w := by
  have HK := Lib.hid hK
  clear hK
  obtain ⟨i0, ip0, iz0, iz1, iz2⟩ := info_parts Tryz.infoOp
  have HM1 := Lib.hid (show nr + 1 ≤ maxLen from by unfold maxLen; omega)
  have HM2 := Lib.hid (show (nr + 1) * 112 ≤ 140737488355328 from by omega)
  have HN := Lib.hid (show nr ≤ 1000 from by omega)
  have hb0 := (Below.refl w.heap.size w).drew
  obtain ⟨k0, k1, k2, k3, k4, k5, k6, k7, k8, k9, ka⟩ := HA.out w (Below.refl _ _)
  obtain ⟨l0, l1, l2⟩ := HX.out w (Below.refl _ _)
  unfold CopBS at HCO
  conv => arg 2; whnf
  go_region_held3 (fun w' => w'.cell? ⟨bo, 0, none⟩ = some (.int .i64 es) ∧ w'.cell? ⟨bo, 1, none⟩ = some (.int .i64 eq) ∧ w'.cell? ⟨bo, 2, none⟩ = some (.int .i64 ek) ∧ w'.cell? ⟨bo, 3, none⟩ = some (.int .i64 ex) ∧ w'.cell? ⟨bo, 4, none⟩ = some (.int .i64 ey) ∧ w'.cell? ⟨bo, 5, none⟩ = some (.int .i64 ez) ∧ w'.cell? ⟨bo, 6, none⟩ = some (.string et) ∧ w'.cell? ⟨bo, 7, none⟩ = some (.slice oa 0 oc) ∧ w'.cell? ⟨bo, 8, none⟩ = some (.int .i64 ef) ∧ w'.cell? ⟨bo, 9, none⟩ = some (.int .i64 em) ∧ w'.cell? ⟨bo, 10, none⟩ = some (.int .i64 en) ∧ w'.cell? ⟨bx, 0, none⟩ = some (.int .i64 xs) ∧ w'.cell? ⟨bx, 1, none⟩ = some (.int .i64 xq) ∧ w'.cell? ⟨bx, 2, none⟩ = some (.int .i64 xi)) (first | exact and14 (HA.out _ (by first | exact hb9 | exact hb8 | exact hbB3 | exact stays_first w | exact stays_second w _ | exact stays_third w _ | exact hbB3.alloc hbB3.size _ | exact hbB3.drew | exact (hbB3.alloc hbB3.size _).drew)) (HX.out _ (by first | exact hb9 | exact hb8 | exact hbB3 | exact stays_first w | exact stays_second w _ | exact stays_third w _ | exact hbB3.alloc hbB3.size _ | exact hbB3.drew | exact (hbB3.alloc hbB3.size _).drew)) | fail) (first
    | (go_at_call 18; refine (HCO.out _ (by first | exact stays_first w | exact stays_second w _ | exact stays_third w _)).mono ?_; rintro x3 w3 ⟨a3, c3, L3, rfl, ho3, hl3, hos3, hown3, hb3, hbB3⟩)
    | (refine step_append_lies _ (by rfl) _ _ _ (by rfl) w.heap.size 39 i0 (.agg #[.int .i64 0, .int .i64 0, .int .i64 0, .int .i64 0, .int .i64 0, .int .i64 0, .string ⟨#[]⟩, .slice none 0 0, .int .i64 0, .int .i64 0, .int .i64 0]) 11 112 Tryz.underlying24 ip0 iz0 iz1 iz2 (by rfl) (by decide) (.slice a3 nr c3) nr _ (by rfl) (hown3.alloc _) ⟨w3.heap.size, 0, none⟩ 1 1 (OpR.cs ⟨⟨es, eq, ek, ⟨ex, ey, ez⟩, et, [], ef, em, en⟩, oa, oc⟩) (by rfl) (by rfl) (cell_op_newR w3 ⟨⟨es, eq, ek, ⟨ex, ey, ez⟩, et, [], ef, em, en⟩, oa, oc⟩ 39) (cs_oneR _) (by omega) HM1.out HM2.out (by have := hbB3.size; simp; omega) _ rfl ?_; intro g8 c8 w8 hown8 hgrow8 hat8 hlt8; obtain ⟨a8, c8', L8, hv8, hops8, hl8, hos8, hb8⟩ := stay_a (r := ⟨⟨es, eq, ek, ⟨ex, ey, ez⟩, et, [], ef, em, en⟩, oa, oc⟩) ho3 hl3 hos3 (by have := HN.out; omega) HOP.out hbB3 hown8 hgrow8; simp only [Value.slice.injEq] at hv8; obtain ⟨rfl, -, rfl⟩ := hv8; clear hown8 hgrow8 hat8 hlt8)
    | (refine step_append_lies _ (by rfl) _ _ _ (by rfl) w.heap.size 39 i0 (.agg #[.int .i64 0, .int .i64 0, .int .i64 0, .int .i64 0, .int .i64 0, .int .i64 0, .string ⟨#[]⟩, .slice none 0 0, .int .i64 0, .int .i64 0, .int .i64 0]) 11 112 Tryz.underlying24 ip0 iz0 iz1 iz2 (by rfl) (by decide) (.slice a3 nr c3) nr _ (by rfl) hown3 ⟨w.heap.size, 0, none⟩ 1 1 (OpR.cs ⟨⟨es, eq, ek, ⟨ex, ey, ez⟩, et, [], ef, em, en⟩, oa, oc⟩) (by rfl) (by rfl) (news_oS (r := ⟨⟨es, eq, ek, ⟨ex, ey, ez⟩, et, [], ef, em, en⟩, oa, oc⟩) hb3) (cs_oneR _) (by omega) HM1.out HM2.out (by have := hbB3.size; simp; omega) _ rfl ?_; intro g8 c8 w8 hown8 hgrow8 hat8 hlt8; obtain ⟨a8, c8', L8, hv8, hops8, hl8, hos8, hb8⟩ := stay_b (r := ⟨⟨es, eq, ek, ⟨ex, ey, ez⟩, et, [], ef, em, en⟩, oa, oc⟩) ho3 hl3 hos3 (by have := HN.out; omega) HOP.out hbB3 hown8 hgrow8; simp only [Value.slice.injEq] at hv8; obtain ⟨rfl, -, rfl⟩ := hv8; clear hown8 hgrow8 hat8 hlt8)
    | (go_at_call 24; refine (H2.out _ _ L8 w8 hops8 hl8 hos8).mono ?_; rintro e9 w9 ⟨rfl, hb9'⟩; have hb9 := hb8.trans (hb9'.mono hb8.size))
    | fail)
  all_goals
    exact HK.out _ _ _ _ _ _ _ _ _ _ _ hb9
end Go.Proofs.YthnedehihbploaaGreatDoor
/- CaretStays: the walk -/
namespace Go.Proofs.YthnedehihbploaaGreatDoor
open Go.RowKit Go.Lib Go.Sort

theorem uv_ok : okT ⟨#[117, 118]⟩ = true := by kernel_rfl
theorem uv_rc : Lib.runeCount ⟨#[117, 118]⟩ = 2 := by kernel_rfl
theorem uv_nR : nR ⟨#[117, 118]⟩ = 2 := by kernel_rfl
theorem uv_ne : (⟨#[117, 118]⟩ : ByteArray).toList ≠ [] := fun h => by
  have := (toList_nil_iff_emptyBytes _).1 h
  cases this
theorem szs_goneC {L : List OpR} (hr : rowP (OpR.os L)) : ∀ r ∈ L, r.o.gone.length ≤ 1000000 := (cSzs_rowP hr).2
set_option maxRecDepth 100000 in
set_option maxHeartbeats 32000000 in
theorem stays_walk11 (p : AskD) (W : World) (h : AskAt W p) (hT : Tabs W) (hnone : p.ae = none → p.e.length = 0 ∧ p.ce = 0) : Calls Tryz.prog 5 #[p.v] W (BoB true W) := by
  have HHV := Lib.hid (fun wx (hx : Below W.heap.size W wx) => Heavy_light p wx (h.below hx))
  have HX := Lib.hid (BoxA.new W p)
  have hb0 : Below W.heap.size W (W.alloc p.obj) := (Below.refl _ _).alloc (Nat.le_refl _) _
  have HB0 := Lib.hid hb0
  have HRW := Lib.hid h.l
  have HTB := Lib.hid (fun wx (hx : Below W.heap.size W wx) => hT.next hx)
  have HEL5 := Lib.hid (fun a cap l wx (hx : Below W.heap.size W wx) => fun (ho : OpsAt wx a l) (hn9 : p.e.length ≤ 900) => Elems5_any p a cap l wx (h.e.below hx) hn9 hnone ho)
  have hl3 := h.l.len
  have HWK := Lib.hid wakes11_any
  clear h hb0 hT hnone
  unfold AskD.v at HHV HEL5 ⊢
  generalize hLP : Light p = LP at HHV
  have HLP := Lib.hid (show LP → Light p from fun h => by rw [hLP]; exact h)
  clear hLP
  unfold Light at HLP
  obtain ⟨lr, le, lo, ln, ar, ae, ao, an, cr, ce, co, cn⟩ := p
  unfold AskD.obj at HX HB0
  simp only at HHV HX HB0 HRW hl3 HLP HEL5 ⊢
  have hbi := big_is
  obtain ⟨n0, hn0⟩ : ∃ n, lr.length = n := ⟨_, rfl⟩
  have HL0 := Lib.hid hn0
  have h0a : (n0 : Int) ≤ 140737488351232 := by omega
  rw [hn0] at HHV HX HB0 HEL5 ⊢
  clear hl3 hbi hn0
  obtain ⟨n2, hn2⟩ : ∃ n, le.length = n := ⟨_, rfl⟩
  obtain ⟨n1, hn1⟩ : ∃ n, lo.length = n := ⟨_, rfl⟩
  obtain ⟨n3, hn3⟩ : ∃ n, ln.length = n := ⟨_, rfl⟩
  have HL2 := Lib.hid hn2
  have HL1 := Lib.hid hn1
  have HL3 := Lib.hid hn3
  rw [hn2, hn1, hn3] at HHV HX HB0 HEL5 ⊢
  clear hn1 hn2 hn3
  go_enter Tryz.func5, Tryz.ntmps5
  go_wp2_with (first | (go_at_call 8; refine (HHV.out _ HB0.out).mono ?_; rintro x1 w1 ⟨b1, rfl, hlp, hb1⟩; have HPP := Lib.hid hlp; have HB1 := Lib.hid (HB0.out.trans (hb1.mono HB0.out.size)); have HA1 := Lib.hid (HX.out.next hb1 HX.out.lt); clear hb1 hlp; cases b1) | fail)
  rotate_left
  · go_wp2_with fail
    go_ret
    exact ⟨rfl, HB1.out⟩
  have HLT := Lib.hid (HLP.out (HPP.out (by simp)))
  clear HLP HPP
  go_wp2_with fail
  clear HHV
  have HXX := Lib.hid (fun (wx : World) (hx : Below w1.heap.size w1 wx) => (by
    obtain ⟨g1, g2, g3, g4, g5⟩ := HA1.out.next hx HA1.out.lt
    simp only [HL0.out, HL2.out, HL1.out, HL3.out] at g2 g3 g4 g5
    exact ⟨g2, g3, g4, g5, g1, HB1.out.trans (hx.mono HB1.out.size)⟩ : wx.cell? ⟨W.heap.size, 0, none⟩ = some (.slice ar n0 cr) ∧ wx.cell? ⟨W.heap.size, 1, none⟩ = some (.slice ae n2 ce) ∧ wx.cell? ⟨W.heap.size, 2, none⟩ = some (.slice ao n1 co) ∧ wx.cell? ⟨W.heap.size, 3, none⟩ = some (.slice an n3 cn) ∧ W.heap.size < wx.heap.size ∧ Below W.heap.size W wx))
  clear HX HA1
  have HN2 := Lib.hid (show n2 ≤ 900 ∧ n3 ≤ 900 from ⟨by have := HLT.out.1; rw [HL2.out] at this; exact this, by have := HLT.out.2.1; rw [HL3.out] at this; exact this⟩)
  go_loopw [3] (fun s3 wr => ∃ i : Nat, s3 = .int .i64 i ∧ i ≤ n0 ∧ Below w1.heap.size w1 wr) (fun s3 _ => n0 - (RowKit.intOf s3).toNat)
  case atStart => exact ⟨0, rfl, Nat.zero_le _, Below.refl _ _⟩
  case round =>
    obtain ⟨i, rfl, hi, hb⟩ := hrel
    obtain ⟨q0, q1, q2, q3, ql, hbW⟩ := HXX.out _ hb
    have HB := Lib.hid hb
    have HBW := Lib.hid hbW
    by_cases hlt : i < n0
    · by_cases h4 : (i : Int) < 4
      · have hil : i < lr.length := by rw [HL0.out]; exact hlt
        obtain ⟨b, off, rfl, hbb, cW⟩ := HRW.out.cell i hil
        have hro := HRW.out.row i hil
        have hlr := light_row (HLT.out.2.2.2 i hil)
        generalize lr[i] = r at *
        clear hil
        obtain ⟨rl, ra, rc⟩ := r
        simp only at cW hro hlr
        have HOP := Lib.hid (fun (wx : World) (hx : Below W.heap.size W wx) => hro.1.below hx)
        have HRR := Lib.hid (fun (wx : World) (hx : Below W.heap.size W wx) => rRow_any ra rc rl wx (HTB.out _ hx) (fun r hr => by have := (hlr.2 r hr).1; omega) (hro.1.below hx) hro.2)
        have HCAP := Lib.hid hro.2
        obtain ⟨nr, hnr⟩ : ∃ n, rl.length = n := ⟨_, rfl⟩
        have HNR := Lib.hid hnr
        rw [hnr] at cW HRR
        have HCW := Lib.hid (fun (wx : World) (hx : Below W.heap.size W wx) => And.intro ((hx.cell (p := ⟨b, off + i, none⟩) hbb).trans cW) (Nat.lt_of_lt_of_le hbb hx.size))
        obtain ⟨cr0, hbr⟩ := HCW.out _ hbW
        have HLR := Lib.hid hlr.1
        clear hnr hro hb hbW cW hlr HRW
        by_cases hrow : rowP (OpR.os rl)
        · have HROW := Lib.hid hrow
          have hl40 : nr ≤ 40 := by have := hrow.1; rw [os_len, HNR.out] at this; exact this
          have hl40i : (nr : Int) ≤ 1000 := by omega
          have HDT := Lib.hid (fun (wx : World) (hx : Below W.heap.size W wx) => (by
            have h9 := dText_ok ra rc rl wx (HOP.out wx hx) HROW.out
            rw [HNR.out] at h9
            exact h9 : Calls Tryz.prog 9 #[.slice ra nr rc] wx (TextPost (docT (OpR.os rl)) 0 wx)))
          have hv200 := visE_le hrow.2
          have HRN := Lib.hid (fun (wx : World) (hx : Below W.heap.size W wx) => (by
            have h8 := Cst.docT_le HROW.out.2
            have h9 := rRunes_ok ⟨(docT (OpR.os rl)).toArray⟩ wx (HTB.out wx hx) (by show (docT (OpR.os rl)).toArray.size ≤ 60000; simp; omega) (docT_okT HROW.out.2)
            refine h9.mono ?_
            rintro e w' ⟨a, c, rfl, -, -, -, hb⟩
            rw [Cst.rns_doc HROW.out.2, visR_len]
            exact ⟨a, c, rfl, hb⟩ : Calls Tryz.prog 13 #[S (docT (OpR.os rl))] wx (fun e w' => ∃ a c, e = .returned (.tuple #[.slice a (visE (OpR.os rl)).length c, .bool true]) ∧ Below wx.heap.size wx w')))
          unfold TextPost at HDT
          obtain ⟨nv, hnv⟩ : ∃ q, (visE (OpR.os rl)).length = q := ⟨_, rfl⟩
          have HNV := Lib.hid hnv
          rw [hnv] at hv200 HRN
          generalize docT (OpR.os rl) = TX at *
          clear hrow hnv HRR
          have hnvi : (nv : Int) ≤ 200 := by omega
          go_upto_region 12 with (first
            | (go_at_call 9; refine (HDT.out wr HBW.out).mono ?_; rintro x2 w2 ⟨rfl, hb2⟩; have HB2 := Lib.hid (HB.out.trans (hb2.mono HB.out.size)); have HW2 := Lib.hid (HBW.out.trans (hb2.mono HBW.out.size)); clear hb2)
            | (go_at_call 13; refine (HRN.out w2 HW2.out).mono ?_; rintro x3 w3 ⟨a3, c3, rfl, hb3⟩; have HB3 := Lib.hid (HB2.out.trans (hb3.mono HB2.out.size)); have HW3 := Lib.hid (HW2.out.trans (hb3.mono HW2.out.size)); clear hb3 cr0 hbr q0 q1 q2 q3 ql)
            | (go_at_call 22; refine (num11_same _ _).mono ?_; rintro xn wn ⟨rfl, hnn⟩; have hns := hnn.symm; clear hnn; subst hns)
            | fail)
          go_wp2_with fail
          go_loopw [9] (fun s9 wr => ∃ k : Nat, s9 = .int .i64 k ∧ k ≤ nv + 1 ∧ k ≤ 20 ∧ Below w3.heap.size w3 wr) (fun s9 _ => 20 - (RowKit.intOf s9).toNat)
          case atStart => exact ⟨0, rfl, by omega, by omega, Below.refl _ _⟩
          case round =>
            obtain ⟨k, rfl, hk, hk20, hbk⟩ := hrel
            have HBK := Lib.hid hbk
            by_cases hkn : k ≤ nv ∧ k < 20
            · as_aux_lemma =>
              obtain ⟨hk1, hk2⟩ := hkn
              have hki : (k : Int) ≤ (nv : Int) := by omega
              have hki2 : (k : Int) < 20 := by omega
              have hk0 : (0 : Int) ≤ (k : Int) := by omega
              have HWK3 := Lib.hid (HW3.out.trans (hbk.mono HW3.out.size))
              have h9 := cSet_ok ra rc rl (k : Int) wr (HOP.out wr HWK3.out) HROW.out
              rw [HNR.out, show setN (OpR.os rl) (k : Int) = 0 from by unfold setN; rw [if_pos (by rw [HNV.out]; omega)]] at h9
              unfold ElErr at h9
              have HSE := Lib.hid h9
              have hsp := set_place HROW.out.2 (at_ := k) (by rw [HNV.out]; omega)
              have HPL := Lib.hid (fun (wx : World) (hx : Below W.heap.size W wx) => (by
                have h9 := cPlace_ok ra rc rl (setE (OpR.os rl) (k : Int)) wx (HOP.out wx hx) HROW.out
                rw [HNR.out, hsp.1, hsp.2] at h9
                exact h9 : Calls Tryz.prog 24 #[.slice ra nr rc, (setE (OpR.os rl) (k : Int)).v] wx (PlcPost (k : Int) 0 wx)))
              have HIP := Lib.hid (fun (o : OpD) (j : Nat) (hr : okRow (OpR.os rl ++ [o])) (hk : o.kind = 1) (hg : o.gone = []) (ha : o.after = setE (OpR.os rl) (j : Int)) (hj : j ≤ nv) => ins_place (D := OpR.os rl) (o := o) hr hk hg (k := j) (at_ := k) ha (by rw [HNV.out]; exact hj) (by rw [HNV.out]; omega))
              unfold PlcPost at HPL
              clear h9 hsp hbk
              obtain ⟨x, hx0⟩ : ∃ x, setE (OpR.os rl) (k : Int) = x := ⟨_, rfl⟩
              rw [hx0] at HSE HPL HIP
              clear hx0
              obtain ⟨xs, xq, xi⟩ := x
              unfold El.v at HPL
              simp only at HSE HPL
              go_upto_region 16 with (first
                | (go_at_call 20; refine HSE.out.mono ?_; rintro x5 w5 ⟨rfl, hb5⟩; have HB5 := Lib.hid (HBK.out.trans (hb5.mono HBK.out.size)); clear hb5)
                | fail)
              have hba := (Below.refl w5.heap.size w5).alloc (Nat.le_refl _) (.cells #[.int .i64 xs, .int .i64 xq, .int .i64 xi] 37)
              have HBA := Lib.hid (HB5.out.trans (hba.mono HB5.out.size))
              have hqx := heap_alloc_new w5 (.cells #[.int .i64 xs, .int .i64 xq, .int .i64 xi] 37)
              have HQX := Lib.hid hqx
              clear hba
              generalize w5.alloc (.cells #[.int .i64 xs, .int .i64 xq, .int .i64 xi] 37) = wa at *
              generalize w5.heap.size = bx at *
              have HWA := Lib.hid (HW3.out.trans (HBA.out.mono HW3.out.size))
              have HQL := Lib.hid (Array.getElem?_eq_some_iff.1 HQX.out).1
              obtain ⟨m0, m1, m2, mf, ml⟩ := cells3 hqx
              clear hqx
              go_upto_region 19 with (first
                | (go_at_call 24; refine (HPL.out wa HWA.out).mono ?_; rintro x6 w6 ⟨rfl, hb6⟩; have HB6 := Lib.hid hb6; clear hb6 m0 m1 m2 mf ml)
                | (go_at_call 22; refine (num11_same _ _).mono ?_; rintro xn wn ⟨rfl, hnn⟩; have hns := hnn.symm; clear hnn; subst hns)
                | fail)
              go_wp2_with fail
              go_loopw [14] (fun s14 wr => ∃ j : Nat, s14 = .int .i64 j ∧ j ≤ 30 ∧ Below w6.heap.size w6 wr) (fun s14 _ => 30 - (RowKit.intOf s14).toNat)
              case atStart => exact ⟨0, rfl, by omega, Below.refl _ _⟩
              case round =>
                obtain ⟨j, rfl, hj30, hbj⟩ := hrel
                have HBJ := Lib.hid hbj
                have HAJ := Lib.hid (HB6.out.trans (hbj.mono HB6.out.size))
                have hi3 : (i : Int) ≤ 3 := by omega
                by_cases hjn : j ≤ nv ∧ j < 20
                · as_aux_lemma =>
                  obtain ⟨hj1, hj2⟩ := hjn
                  have hji : (j : Int) ≤ (nv : Int) := by omega
                  have hji2 : (j : Int) < 20 := by omega
                  have hj0 : (0 : Int) ≤ (j : Int) := by omega
                  have hm3 : ((j : Int)).tmod 3 = ((j % 3 : Nat) : Int) := by
                    rw [Int.tmod_eq_emod_of_nonneg (by omega)]
                    rfl
                  have hs3 : j % 3 < 3 := Nat.mod_lt _ (by decide)
                  generalize hst : j % 3 = st at *
                  have hsti : (st : Int) ≤ 2 := by omega
                  have HWJ := Lib.hid (HWA.out.trans (HAJ.out.mono HWA.out.size))
                  have h9 := eIns_x ra rc rl (1 + (st : Int)) j ⟨#[117, 118]⟩ wr (HOP.out wr HWJ.out) HCAP.out HROW.out ⟨by omega, by omega⟩ uv_ok (by decide) (by rw [uv_rc]; decide) (by rw [HNV.out]; exact hj1) uv_ne
                  rw [HNR.out] at h9
                  have HRA := Lib.hid (rep_after (D := OpR.os rl) (site := 1 + (st : Int)) (k := j) (s := ⟨#[117, 118]⟩) (by rw [HNV.out]; exact hj1))
                  have HRK := Lib.hid (show (repOp (OpR.os rl) (1 + (st : Int)) j 0 ⟨#[117, 118]⟩).kind = 1 ∧ (repOp (OpR.os rl) (1 + (st : Int)) j 0 ⟨#[117, 118]⟩).text = ⟨#[117, 118]⟩ from ⟨rfl, rfl⟩)
                  generalize repOp (OpR.os rl) (1 + (st : Int)) j 0 ⟨#[117, 118]⟩ = ro at *
                  unfold InsX at h9
                  have HIN := Lib.hid h9
                  clear h9 hst hbj
                  go_upto_region 23 with (first
                    | (go_at_call 31; refine HIN.out.mono ?_; rintro x7 w7 ⟨es, eq, ek, ex, ey, ez, ef, em, en, er, et, oa, gl, oc, rfl, hok, hb7⟩; have HOK := Lib.hid hok; have HB7 := Lib.hid hb7; clear hok hb7)
                    | fail)
                  have hba := (Below.refl w7.heap.size w7).alloc (Nat.le_refl _) (.cells #[.int .i64 es, .int .i64 eq, .int .i64 ek, .int .i64 ex, .int .i64 ey, .int .i64 ez, .string et, .slice oa gl oc, .int .i64 ef, .int .i64 em, .int .i64 en] 39)
                  have HB8 := Lib.hid (HBJ.out.trans ((HB7.out.trans (hba.mono HB7.out.size)).mono HBJ.out.size))
                  have HQO := Lib.hid (heap_alloc_new w7 (.cells #[.int .i64 es, .int .i64 eq, .int .i64 ek, .int .i64 ex, .int .i64 ey, .int .i64 ez, .string et, .slice oa gl oc, .int .i64 ef, .int .i64 em, .int .i64 en] 39))
                  clear hba
                  generalize w7.alloc (.cells #[.int .i64 es, .int .i64 eq, .int .i64 ek, .int .i64 ex, .int .i64 ey, .int .i64 ez, .string et, .slice oa gl oc, .int .i64 ef, .int .i64 em, .int .i64 en] 39) = w8 at *
                  generalize w7.heap.size = bo at *
                  have hwj : IntKind.i64.wrap ((j : Int) + 1) = (j : Int) + 1 := by rw [IntKind.wrap_i64]; omega
                  have hwj2 : IntKind.i64.wrap ((j : Int) + 1 + (i : Int)) = (j : Int) + 1 + (i : Int) := by rw [IntKind.wrap_i64]; omega
                  by_cases her : er = 0
                  · subst her
                    obtain ⟨hro, rfl, hno, hr2⟩ := HOK.out rfl
                    subst hro
                    obtain ⟨hkd, htx⟩ := HRK.out
                    have haf := HRA.out
                    simp only at hkd htx haf
                    have HIP2 := Lib.hid (HIP.out _ j hr2.2 hkd rfl haf hj1)
                    rw [show nR (⟨es, eq, ek, ⟨ex, ey, ez⟩, et, [], ef, em, en⟩ : OpD).text = 2 from by show nR et = 2; rw [htx]; exact uv_nR] at HIP2
                    have HR2 := Lib.hid hr2
                    have HOPN := Lib.hid (fun (wx : World) => (⟨ElemsAt.nil oa, Nat.zero_le _, by show et.size ≤ BIG; rw [htx]; show 2 ≤ BIG; unfold BIG; omega, fun h => ⟨rfl, hno h⟩⟩ : OpAt wx ⟨es, eq, ek, ⟨ex, ey, ez⟩, et, [], ef, em, en⟩ oa oc))
                    have HW8 := Lib.hid (HWA.out.trans ((HB6.out.trans (HB8.out.mono HB6.out.size)).mono HWA.out.size))
                    have HCO := Lib.hid (fun (wx : World) (hx : Below w8.heap.size w8 wx) => CopyOps_bS ra rc nr rl (OpR.os rl) w8 wx (HOP.out wx (HW8.out.trans (hx.mono HW8.out.size))) (szs_goneC HROW.out) HNR.out rfl (by omega) hx)
                    have H2 := Lib.hid (fun (a8 : Option Addr) (c8 : Nat) (L8 : List OpR) (wx : World) (ho : OpsAt wx a8 L8) (hl : L8.length = nr + 1) (hos : OpR.os L8 = OpR.os rl ++ [⟨es, eq, ek, ⟨ex, ey, ez⟩, et, [], ef, em, en⟩]) => (by
                      have h9 := cPlace_ok a8 c8 L8 ⟨xs, xq, xi⟩ wx ho (by rw [hos]; exact HR2.out)
                      rw [hl, hos, HIP2.out.1, HIP2.out.2] at h9
                      exact h9 : Calls Tryz.prog 24 #[.slice a8 (nr + 1) c8, .agg #[.int .i64 xs, .int .i64 xq, .int .i64 xi]] wx (fun e w' => e = .returned (.tuple #[.int .i64 ((if j < k then k + 2 else k : Nat) : Int), .int .i64 0]) ∧ Below wx.heap.size wx w')))
                    have HAO := Lib.hid (fun (wx : World) (hx : Below w8.heap.size w8 wx) => (by
                      obtain ⟨k0, k1, k2, k3, k4, k5, k6, k7, k8, k9, ka, kf, kl⟩ := cCells11P ((hx.block bo (Array.getElem?_eq_some_iff.1 HQO.out).1).trans HQO.out)
                      exact ⟨k0, k1, k2, k3, k4, k5, k6, k7, k8, k9, ka⟩ : wx.cell? ⟨bo, 0, none⟩ = some (.int .i64 es) ∧ wx.cell? ⟨bo, 1, none⟩ = some (.int .i64 eq) ∧ wx.cell? ⟨bo, 2, none⟩ = some (.int .i64 ek) ∧ wx.cell? ⟨bo, 3, none⟩ = some (.int .i64 ex) ∧ wx.cell? ⟨bo, 4, none⟩ = some (.int .i64 ey) ∧ wx.cell? ⟨bo, 5, none⟩ = some (.int .i64 ez) ∧ wx.cell? ⟨bo, 6, none⟩ = some (.string et) ∧ wx.cell? ⟨bo, 7, none⟩ = some (.slice oa 0 oc) ∧ wx.cell? ⟨bo, 8, none⟩ = some (.int .i64 ef) ∧ wx.cell? ⟨bo, 9, none⟩ = some (.int .i64 em) ∧ wx.cell? ⟨bo, 10, none⟩ = some (.int .i64 en)))
                    have HAX := Lib.hid (fun (wx : World) (hx : Below w8.heap.size w8 wx) => (by
                      obtain ⟨k0, k1, k2, kf, kl⟩ := cells3 (((HB6.out.trans ((HB8.out.trans (hx.mono HB8.out.size)).mono HB6.out.size)).block bx HQL.out).trans HQX.out)
                      exact ⟨k0, k1, k2⟩ : wx.cell? ⟨bx, 0, none⟩ = some (.int .i64 xs) ∧ wx.cell? ⟨bx, 1, none⟩ = some (.int .i64 xq) ∧ wx.cell? ⟨bx, 2, none⟩ = some (.int .i64 xi)))
                    go_upto_region 24 with (first
                      | (go_at_call 22; refine (num11_same _ _).mono ?_; rintro xn wn ⟨rfl, hnn⟩; have hns := hnn.symm; clear hnn; subst hns)
                      | fail)
                    refine cs_r24 w8 HAO HAX (Array.getElem?_eq_some_iff.1 HQO.out).1 (Nat.lt_of_lt_of_le HQL.out (HB6.out.trans (HB8.out.mono HB6.out.size)).size) HOPN hl40i HCO H2 ?_
                    intro v120 v121 v122 v123 v124 v125 v126 v127 v128 v129 wz hbz
                    have HBZ := Lib.hid (HB8.out.trans (hbz.mono HB8.out.size))
                    clear hbz
                    by_cases hjk : j < k
                    · rw [if_pos hjk]
                      have hd : decide ((j : Int) < (k : Int)) = true := decide_eq_true (by omega)
                      have hd2 : (j : Int) < (k : Int) := by omega
                      have hw : IntKind.i64.wrap ((k : Int) + 2) = (k : Int) + 2 := by rw [IntKind.wrap_i64]; omega
                      rw [show ((k + 2 : Nat) : Int) = (k : Int) + 2 from by omega]
                      go_wp2_with (first | (go_at_call 22; refine (num11_same _ _).mono ?_; rintro xn wn ⟨rfl, hnn⟩; have hns := hnn.symm; clear hnn; subst hns) | fail)
                      go_roundw
                      case rel => exact ⟨j + 1 + i, by go_num, by omega, HBZ.out⟩
                      case measure => simp [RowKit.intOf]; omega
                    · rw [if_neg hjk]
                      have hd : decide ((j : Int) < (k : Int)) = false := decide_eq_false (by omega)
                      go_wp2_with (first | (go_at_call 22; refine (num11_same _ _).mono ?_; rintro xn wn ⟨rfl, hnn⟩; have hns := hnn.symm; clear hnn; subst hns) | fail)
                      go_roundw
                      case rel => exact ⟨j + 1 + i, by go_num, by omega, HBZ.out⟩
                      case measure => simp [RowKit.intOf]; omega
                  · have her2 : (er == 0) = false := by simp; exact her
                    have her3 : (er != 0) = true := by simp; exact her
                    go_wp2_with (first | (go_at_call 22; refine (num11_same _ _).mono ?_; rintro xn wn ⟨rfl, hnn⟩; have hns := hnn.symm; clear hnn; subst hns) | fail)
                    go_roundw
                    case rel => exact ⟨j + 1 + i, by go_num, by omega, HB8.out⟩
                    case measure => simp [RowKit.intOf]; omega
                · clear hbj
                  have hway : (¬ j ≤ nv ∧ decide ((j : Int) ≤ (nv : Int)) = false) ∨ (j ≤ nv ∧ decide ((j : Int) ≤ (nv : Int)) = true ∧ ¬ j < 20 ∧ decide ((j : Int) < 20) = false) := by
                    by_cases h9 : j ≤ nv
                    · exact .inr ⟨h9, decide_eq_true (by omega), by omega, decide_eq_false (by omega)⟩
                    · exact .inl ⟨h9, decide_eq_false (by omega)⟩
                  rcases hway with ⟨f1, f2⟩ | ⟨f1, f2, f3, f4⟩
                  all_goals
                    go_wp2_with fail
                    go_roundw
                    case rel => exact ⟨k + 1, by go_num, by omega, by omega, HBA.out.trans (HAJ.out.mono HBA.out.size)⟩
                    case measure => simp [RowKit.intOf]; omega
            · clear hbk
              have hway : (¬ k ≤ nv ∧ decide ((k : Int) ≤ (nv : Int)) = false) ∨ (k ≤ nv ∧ decide ((k : Int) ≤ (nv : Int)) = true ∧ ¬ k < 20 ∧ decide ((k : Int) < 20) = false) := by
                by_cases h9 : k ≤ nv
                · exact .inr ⟨h9, decide_eq_true (by omega), by omega, decide_eq_false (by omega)⟩
                · exact .inl ⟨h9, decide_eq_false (by omega)⟩
              go_upto_region 13 with fail
              go_cut [68] (fun s wx => s = .bool false ∧ wr = wx)
              case first =>
                rcases hway with ⟨f1, f2⟩ | ⟨f1, f2, f3, f4⟩
                all_goals
                  go_wp2_with fail
                  go_meet
                  exact ⟨rfl, rfl⟩
              case rest =>
                obtain ⟨rfl, rfl⟩ := hcut
                clear hway
                obtain ⟨q0, q1, q2, q3, ql, -⟩ := HXX.out wr (HB3.out.trans (HBK.out.mono HB3.out.size))
                have h9 := HEL5.out ra rc rl wr (HW3.out.trans (HBK.out.mono HW3.out.size)) (HOP.out wr (HW3.out.trans (HBK.out.mono HW3.out.size))) HN2.out.1
                rw [HNR.out] at h9
                have HEL := Lib.hid h9
                clear h9
                unfold AnyPost OwnPost at HEL
                go_upto_region 31 with (first
                  | (go_at_call 23; refine HEL.out.mono ?_; rintro x9 w9 ⟨X, hX, v9, rfl, hown9, hb9⟩; obtain ⟨a9, c9, hv9, he9, -⟩ := elems_own hown9; subst hv9; have HE9 := Lib.hid he9; have HB9 := Lib.hid hb9; clear hown9 hb9 he9)
                  | fail)
                obtain ⟨nx, hnx⟩ : ∃ n, X.length = n := ⟨_, rfl⟩
                have HNX := Lib.hid hnx
                rw [hnx] at hX ⊢
                have HB39 := Lib.hid (HBK.out.trans (HB9.out.mono HBK.out.size))
                have HW9 := Lib.hid (HW3.out.trans (HB39.out.mono HW3.out.size))
                clear hnx q0 q1 q2 q3 ql HEL
                go_wp2_with fail
                go_loopw [21] (fun s21 wr => ∃ j : Nat, s21 = .int .i64 j ∧ j ≤ nx ∧ Below w9.heap.size w9 wr) (fun s21 _ => nx - (RowKit.intOf s21).toNat)
                case atStart => exact ⟨0, rfl, Nat.zero_le _, Below.refl _ _⟩
                case round =>
                  clear HBK
                  obtain ⟨j, rfl, hj, hbj⟩ := hrel
                  have HBJ := Lib.hid hbj
                  by_cases hjx : j < nx
                  · as_aux_lemma =>
                    have hjl : j < X.length := by rw [HNX.out]; exact hjx
                    have hd0 : decide ((j : Int) < (nx : Int)) = true := decide_eq_true (by omega)
                    have hji : (j : Int) < (nx : Int) := by omega
                    have hj0 : (0 : Int) ≤ (j : Int) := by omega
                    have HXE := Lib.hid (fun (wx : World) (hx : Below w9.heap.size w9 wx) => (HE9.out.below hx).cell j hjl)
                    obtain ⟨b9, o9, h1, -⟩ := HXE.out w9 (Below.refl _ _)
                    subst h1
                    have HXD := Lib.hid (fun (wx : World) (hx : Below w9.heap.size w9 wx) => (by
                      obtain ⟨b2, o2, h1, h2⟩ := HXE.out wx hx
                      simp only [Option.some.injEq, Addr.mk.injEq] at h1
                      obtain ⟨rfl, rfl, -⟩ := h1
                      exact h2))
                    clear HXE
                    generalize X[j] = e at *
                    clear hjl
                    have HPL := Lib.hid (fun (wx : World) (hx : Below w9.heap.size w9 wx) => (by
                      have h9 := cPlace_ok ra rc rl e wx (HOP.out wx (HW9.out.trans (hx.mono HW9.out.size))) HROW.out
                      rw [HNR.out] at h9
                      exact h9 : Calls Tryz.prog 24 #[.slice ra nr rc, e.v] wx (PlcPost (plN (OpR.os rl) e) (plR (OpR.os rl) e) wx)))
                    obtain ⟨x0, x1, x2, x3⟩ := HXD.out wr hbj
                    clear hbj
                    by_cases hwe : wroteE (OpR.os rl) e
                    · have hnp := near_place HROW.out.2 hwe
                      have HPN := Lib.hid (fun (wx : World) (hx : Below w9.heap.size w9 wx) => (by
                        have h9 := cPlace_ok ra rc rl (nearE (OpR.os rl) e) wx (HOP.out wx (HW9.out.trans (hx.mono HW9.out.size))) HROW.out
                        rw [HNR.out, hnp.1, hnp.2] at h9
                        exact h9 : Calls Tryz.prog 24 #[.slice ra nr rc, (nearE (OpR.os rl) e).v] wx (PlcPost (plN (OpR.os rl) e) 0 wx)))
                      have HNE := Lib.hid (fun (wx : World) (hx : Below w9.heap.size w9 wx) => (by
                        have h9 := cNear_ok ra rc rl e wx (HOP.out wx (HW9.out.trans (hx.mono HW9.out.size))) HROW.out hwe
                        rw [HNR.out] at h9
                        exact h9 : Calls Tryz.prog 25 #[.slice ra nr rc, e.v] wx (ElErr (nearE (OpR.os rl) e) 0 wx)))
                      rw [(pl_yes hwe).2] at HPL
                      generalize plN (OpR.os rl) e = pn at *
                      generalize nearE (OpR.os rl) e = ne_ at *
                      unfold PlcPost at HPL HPN
                      unfold ElErr at HNE
                      clear hwe hnp
                      obtain ⟨es, eq_, ei⟩ := e
                      obtain ⟨xs, xq, xi⟩ := ne_
                      unfold El.v at HPL HPN HNE
                      simp only at HPL HPN HNE HXD x1 x2 x3
                      go_upto_region 37 with (first
                        | (go_at_call 25; refine (HNE.out wy HBY.out).mono ?_; rintro x13 wz ⟨rfl, hbz⟩; have HBZ := Lib.hid (HBY.out.trans (hbz.mono HBY.out.size)); clear hbz y0 y1 y2 y3)
                        | (go_at_call 24; refine (HPL.out wr HBJ.out).mono ?_; rintro x12 wy ⟨rfl, hby⟩; have HBY := Lib.hid (HBJ.out.trans (hby.mono HBJ.out.size)); obtain ⟨y0, y1, y2, y3⟩ := HXD.out wy HBY.out; clear hby x0 x1 x2 x3)
                        | (go_at_call 22; refine (num11_same _ _).mono ?_; rintro xn wn ⟨rfl, hnn⟩; have hns := hnn.symm; clear hnn; subst hns)
                        | fail)
                      have hba := (Below.refl wz.heap.size wz).alloc (Nat.le_refl _) (.cells #[.int .i64 xs, .int .i64 xq, .int .i64 xi] 37)
                      have HBA := Lib.hid (HBZ.out.trans (hba.mono HBZ.out.size))
                      have hqx := heap_alloc_new wz (.cells #[.int .i64 xs, .int .i64 xq, .int .i64 xi] 37)
                      clear hba
                      generalize wz.alloc (.cells #[.int .i64 xs, .int .i64 xq, .int .i64 xi] 37) = wa at *
                      generalize wz.heap.size = bx at *
                      obtain ⟨m0, m1, m2, mf, ml⟩ := cells3 hqx
                      clear hqx
                      go_wp2_with (first
                        | (go_at_call 24; refine (HPN.out wa HBA.out).mono ?_; rintro x14 wb ⟨rfl, hbb⟩; have HBB := Lib.hid (HBA.out.trans (hbb.mono HBA.out.size)); clear hbb m0 m1 m2 mf ml)
                        | (go_at_call 22; refine (num11_same _ _).mono ?_; rintro xn wn ⟨rfl, hnn⟩; have hns := hnn.symm; clear hnn; subst hns)
                        | fail)
                      go_roundw
                      case rel => exact ⟨j + 1, by go_num, by omega, HBB.out⟩
                      case measure => simp [RowKit.intOf]; omega
                    · rw [(pl_no hwe).1, (pl_no hwe).2] at HPL
                      unfold PlcPost at HPL
                      clear hwe
                      obtain ⟨es, eq_, ei⟩ := e
                      unfold El.v at HPL
                      simp only at HPL HXD x1 x2 x3
                      go_wp2_with (first
                        | (go_at_call 24; refine (HPL.out wr HBJ.out).mono ?_; rintro x12 wy ⟨rfl, hby⟩; have HBY := Lib.hid (HBJ.out.trans (hby.mono HBJ.out.size)); clear hby x0 x1 x2 x3)
                        | (go_at_call 22; refine (num11_same _ _).mono ?_; rintro xn wn ⟨rfl, hnn⟩; have hns := hnn.symm; clear hnn; subst hns)
                        | fail)
                      go_roundw
                      case rel => exact ⟨j + 1, by go_num, by omega, HBY.out⟩
                      case measure => simp [RowKit.intOf]; omega
                  · have hd0 : decide ((j : Int) < (nx : Int)) = false := decide_eq_false (by omega)
                    clear hbj
                    go_wp2_with fail
                    go_roundw
                    case rel => exact ⟨i + 1, by go_num, by omega, HB3.out.trans ((HB39.out.trans (HBJ.out.mono HB39.out.size)).mono HB3.out.size)⟩
                    case measure => simp [RowKit.intOf]; omega
        · have HDT := Lib.hid (fun (wx : World) (hx : Below W.heap.size W wx) => (by
            have h9 := dText_bad ra rc rl wx (HOP.out wx hx) hrow
            rw [HNR.out] at h9
            exact h9 : Calls Tryz.prog 9 #[.slice ra nr rc] wx (TextPost [] 1 wx)))
          unfold TextPost at HDT
          clear hrow HRR
          go_wp2_with (first
            | (go_at_call 9; refine (HDT.out wr HBW.out).mono ?_; rintro x2 w2 ⟨rfl, hb2⟩; have HB2 := Lib.hid (HB.out.trans (hb2.mono HB.out.size)); clear hb2)
            | (go_at_call 22; refine (num11_same _ _).mono ?_; rintro xn wn ⟨rfl, hnn⟩; have hns := hnn.symm; clear hnn; subst hns)
            | fail)
          go_roundw
          case rel => exact ⟨i + 1, by go_num, by omega, HB2.out⟩
          case measure => simp [RowKit.intOf]; omega
      · have hd4 : decide ((i : Int) < 4) = false := decide_eq_false h4
        go_wp2_with (first | (go_at_call 30; refine (HWK.out _).mono ?_; rintro x2 w2 ⟨rfl, hb2⟩; have HB2 := Lib.hid (HBW.out.trans (hb2.mono HBW.out.size)); clear hb2) | fail)
        go_ret
        exact ⟨rfl, HB2.out⟩
    · have hd4 : decide ((i : Int) < (n0 : Int)) = false := decide_eq_false (by omega)
      go_wp2_with (first | (go_at_call 30; refine (HWK.out _).mono ?_; rintro x2 w2 ⟨rfl, hb2⟩; have HB2 := Lib.hid (HBW.out.trans (hb2.mono HBW.out.size)); clear hb2) | fail)
      go_ret
      exact ⟨rfl, HB2.out⟩
end Go.Proofs.YthnedehihbploaaGreatDoor
