/- the page's Replace: what it tells may stand behind the row -/
import Derived.Test.YthnedehihbploaaGreatDoorCFace
import Derived.Test.YthnedehihbploaaGreatDoorOPut
namespace Go.Proofs.YthnedehihbploaaGreatDoor
open Go.RowKit Go.Lib Go.Sort

theorem ElemsAt.setC {w : World} {a : Option Addr} {l : List El} {b c : Nat} {v : Value} (h : ElemsAt w a l) (hne : ∀ ad, a = some ad → ad.block ≠ b) : ElemsAt (w.setCell ⟨b, c, none⟩ v) a l :=
  ⟨fun j hj => by
    obtain ⟨b1, off, h1, h2, h3, h4, h5⟩ := h.cell j hj
    have hb : b1 ≠ b := hne _ h1
    have hc : ∀ o, (w.setCell ⟨b, c, none⟩ v).cell? ⟨b1, o, none⟩ = w.cell? ⟨b1, o, none⟩ := fun o => by
      unfold World.cell?
      simp only [set_other hb]
    exact ⟨b1, off, h1, by rw [World.size_setCell]; exact h2, (hc _).trans h3, (hc _).trans h4, (hc _).trans h5⟩⟩
theorem rNum_t (x hi : Int) (h0 : 0 ≤ x) (h1 : x ≤ hi) (w : World) : Calls Tryz.prog 14 #[.int .i64 x, .int .i64 hi] w (Bo true w) := by
  have := rNum_any x hi w
  rwa [show btw x 0 hi = true from decide_eq_true ⟨h0, h1⟩] at this
/-- all is kept but the block bx -/
structure KpX (bx : Nat) (w w' : World) : Prop where
  os : w'.os = w.os
  tape : w'.tape = w.tape
  output : w'.output = w.output
  size : w.heap.size ≤ w'.heap.size
  block : ∀ b, b < w.heap.size → b ≠ bx → w'.heap[b]? = w.heap[b]?
theorem KpX.refl (bx : Nat) (w : World) : KpX bx w w := ⟨rfl, rfl, rfl, Nat.le_refl _, fun _ _ _ => rfl⟩
theorem KpX.set {bx : Nat} {w w' : World} (h : KpX bx w w') (c : Nat) (v : Value) : KpX bx w (w'.setCell ⟨bx, c, none⟩ v) :=
  ⟨h.os, h.tape, h.output, by rw [World.size_setCell]; exact h.size, fun b hb hne => (set_other hne).trans (h.block b hb hne)⟩
theorem KpX.below {bx : Nat} {w w' w2 : World} (h : KpX bx w w') (hb : Below w.heap.size w' w2) : KpX bx w w2 :=
  ⟨hb.os.trans h.os, hb.tape.trans h.tape, hb.output.trans h.output, Nat.le_trans h.size hb.size, fun b h1 h2 => (hb.block b h1).trans (h.block b h1 h2)⟩
theorem KpX.to {bx s : Nat} {w0 w w' : World} (h : KpX bx w w') (hb : Below s w0 w) (hs : s ≤ bx) (hz : s ≤ w.heap.size) : Below s w0 w' :=
  ⟨h.os.trans hb.os, h.tape.trans hb.tape, h.output.trans hb.output, Nat.le_trans hb.size h.size, fun k hk => (h.block k (by omega) (by omega)).trans (hb.block k hk)⟩
theorem KpX.elems {bx : Nat} {w1 w w' : World} {a : Option Addr} {l : List El} (h : KpX bx w w') (hE : ElemsAt w1 a l) (hb : Below w1.heap.size w1 w) (hs : w1.heap.size ≤ bx) : ElemsAt w' a l :=
  hE.below (h.to hb hs hb.size)
/-- the op that is told, or an error -/
def RepI (D : List OpD) (os : OpD) (w : World) (e : Ending) (w' : World) : Prop := ∃ (o : OpD) (oa : Option Addr) (oc : Nat) (er : Int), e = .returned (.tuple #[o.v oa oc, .int .i64 er]) ∧ (er = 0 → OpAt w' o oa oc ∧ rowP (D ++ [o]) ∧ o = os) ∧ (∀ ad, oa = some ad → w.heap.size ≤ ad.block) ∧ Below w.heap.size w w'
theorem repI_err (D : List OpD) (os : OpD) (w w' : World) (er : Int) (he : ¬ er = 0) (hb : Below w.heap.size w w') : RepI D os w (.returned (.tuple #[cZopV, .int .i64 er])) w' :=
  ⟨⟨0, 0, 0, ⟨0, 0, 0⟩, ⟨#[]⟩, [], 0, 0, 0⟩, none, 0, er, rfl, fun h => absurd h he, (fun ad h => by cases h), hb⟩
set_option maxRecDepth 100000 in
set_option maxHeartbeats 16000000 in
theorem rRep_one (a : Option Addr) (cap : Nat) (l : List OpR) (site : Int) (at_ nn : Nat) (s : ByteArray) (w : World) (hT : Tabs w) (h : OpsAt w a l) (hr : rowP (OpR.os l)) (hs : okT s = true) (hsz : s.size ≤ 100) (hrn : (rns s).length ≤ 12) (hat : at_ + nn ≤ (visE (OpR.os l)).length) (h1n : nn = 1) (hs0 : s.toList = []) (v0 : El) (hv0 : ∀ (h : at_ < (visE (OpR.os l)).length), (visE (OpR.os l))[at_] = v0) :
    Calls Tryz.prog 33 #[.slice a l.length cap, .int .i64 site, .int .i64 (at_ : Int), .int .i64 (nn : Int), .string s] w (RepI (OpR.os l) ⟨site, (cnt (OpR.os l) site : Int) + 1, 1, ⟨0, 0, 0⟩, s, [v0], 0, 0, 0⟩ w) := by
  have HVA := Lib.hid (fun wx (hx : Below w.heap.size w wx) => rVis_any a cap l wx (hT.next hx) (cSzs_rowP hr).1 (h.below hx) hr)
  have HRN := Lib.hid (fun wx (hx : Below w.heap.size w wx) => rRunes_ok s wx (hT.next hx) (by omega) hs)
  have HMN := Lib.hid (fun wx (hx : Below w.heap.size w wx) => rMany_any a cap l site wx (h.below hx))
  have HBH := Lib.hid (fun (q x y z : Int) (g : List El) (ga : Option Addr) (gc : Nat) wx (hx : Below w.heap.size w wx) (hg : ElemsAt wx ga g) (hgl : g.length ≤ 1000000) => cRBehind_o a cap l ⟨site, q, 1, ⟨x, y, z⟩, s, g, 0, 0, 0⟩ ga gc wx (h.below hx) hr hg hgl (by show s.size ≤ 60000; omega))
  have HRW := Lib.hid (fun (q x y z : Int) (g : List El) (a2 : Option Addr) (c2 : Nat) (L : List OpR) wx (hx : Below w.heap.size w wx) (hl : L.length = l.length + 1) (hc : l.length + 1 ≤ c2) (hops : OpsAt wx a2 L) (hos : OpR.os L = OpR.os l ++ [⟨site, q, 1, ⟨x, y, z⟩, s, g, 0, 0, 0⟩]) => cRRow_o hr (by show s.size ≤ 60000; omega) a2 c2 L wx (hT.next hx) hl hc hops hos)
  have HSS := Lib.hid (show s.size ≤ BIG from by unfold BIG; omega)
  have hcn := cCnt_small hr site
  have hv2 := visE_le hr.2
  unfold RRunesPost at HRN
  unfold BoB at HRW
  unfold IntB at HMN
  unfold cBehO OpD.v at HBH
  unfold OwnPost at HVA
  generalize (rns s).length = nr at *
  generalize OpR.os l = D at *
  generalize cnt D site = qn at *
  generalize visE D = VA at *
  obtain ⟨n, hln⟩ : ∃ n, l.length = n := ⟨_, rfl⟩
  obtain ⟨nv, hnv⟩ : ∃ n, VA.length = n := ⟨_, rfl⟩
  rw [hln] at HVA HMN HBH HRW ⊢
  rw [hnv] at hat hv2
  have HNV := Lib.hid hnv
  have hway : (0 < nn ∧ at_ = 0) ∨ ((0 < nn ∧ s.toList = []) ∧ 0 < at_) := by
    rcases Nat.eq_zero_or_pos at_ with h2 | h2
    · exact .inl ⟨by omega, h2⟩
    · exact .inr ⟨⟨by omega, hs0⟩, h2⟩
  have HV0 := Lib.hid hv0
  have HN1 := Lib.hid h1n
  have HWAY := Lib.hid hway
  clear h hr hT hln hnv hs hsz hs0 h1n hv0 hway
  have hqn : ((qn : Nat) : Int) ≤ 40 := by omega
  have hnv2 : ((nv : Nat) : Int) ≤ 200 := by omega
  have hat1 : (at_ : Int) ≤ (nv : Int) := by omega
  have hat2 : (nn : Int) ≤ (nv : Int) - (at_ : Int) := by omega
  have hat3 : decide ((12 : Int) < (nr : Int)) = false := decide_eq_false (by omega)
  have HAT := Lib.hid hat
  have HQ0 := Lib.hid (show (w.alloc (.cells #[.int .i64 0, .int .i64 0, .int .i64 0, .int .i64 0, .int .i64 0, .int .i64 0, .string ⟨#[]⟩, .slice none 0 0, .int .i64 0, .int .i64 0, .int .i64 0] 39)).heap[w.heap.size]? = some (.cells #[.int .i64 0, .int .i64 0, .int .i64 0, .int .i64 0, .int .i64 0, .int .i64 0, .string ⟨#[]⟩, .slice none 0 0, .int .i64 0, .int .i64 0, .int .i64 0] 39) from heap_alloc_new _ _)
  have HB0 := Lib.hid (show Below w.heap.size w (w.alloc (.cells #[.int .i64 0, .int .i64 0, .int .i64 0, .int .i64 0, .int .i64 0, .int .i64 0, .string ⟨#[]⟩, .slice none 0 0, .int .i64 0, .int .i64 0, .int .i64 0] 39)) from (Below.refl _ _).alloc (Nat.le_refl _) _)
  have HS0 := Lib.hid (show w.heap.size < (w.alloc (.cells #[.int .i64 0, .int .i64 0, .int .i64 0, .int .i64 0, .int .i64 0, .int .i64 0, .string ⟨#[]⟩, .slice none 0 0, .int .i64 0, .int .i64 0, .int .i64 0] 39)).heap.size by simp)
  clear hcn hv2 hat hrn
  go_enter Tryz.func33, Tryz.ntmps33
  go_upto_region 3 with (first
    | (go_at_call 32; refine (HVA.out _ HB0.out).mono ?_; rintro x1 w1 ⟨v1, rfl, hown1, hb1⟩; obtain ⟨a1, c1, hv1, he1, -⟩ := elems_own hown1; rw [HNV.out] at hv1; subst hv1; have HE1 := Lib.hid he1; have HB1 := Lib.hid (HB0.out.trans (hb1.mono HB0.out.size)); have HQ1 := Lib.hid ((hb1.block w.heap.size HS0.out).trans HQ0.out); have HS1 := Lib.hid (Nat.lt_of_lt_of_le HS0.out hb1.size); clear hown1 he1 hb1)
    | (go_at_call 13; refine (HRN.out w1 HB1.out).mono ?_; rintro x2 w2 ⟨ra, rc, rfl, -, -, -, hb2⟩; have HE2 := Lib.hid hb2; have HB2 := Lib.hid (HB1.out.trans (hb2.mono HB1.out.size)); have HQ2 := Lib.hid ((hb2.block w.heap.size HS1.out).trans HQ1.out); have HS2 := Lib.hid (Nat.lt_of_lt_of_le HS1.out hb2.size); clear hb2)
    | fail)
  have hw1 : ∀ bx, w2.heap.size ≤ bx → w1.heap.size ≤ bx := fun bx hx => Nat.le_trans HE2.out.size hx
  have HW1 := Lib.hid hw1
  clear hw1
  rcases HWAY.out with ⟨c1x, c3x⟩ | ⟨⟨c1x, c2x⟩, c3x⟩
  · have HWW := Lib.hid c3x
    have f1 : decide ((nn : Int) = 0) = false := decide_eq_false (by omega)
    have f2 : ((nn : Int) == 0) = false := by simp; omega
    have f3 : decide ((0 : Int) < (at_ : Int)) = false := decide_eq_false (by omega)
    have f6 : decide (0 < at_) = false := decide_eq_false (by omega)
    have f7 : ¬ 0 < at_ := by omega
    clear c1x c3x
    go_upto_region 7 with (first
      | (go_at_call 14; refine (rNum_t _ _ (by omega) (by omega) _).mono ?_; rintro x3 w3 ⟨rfl, rfl⟩)
      | fail)
    go_upto_region 8 with (first
      | (go_at_call 65; refine (HMN.out w2 HB2.out).mono ?_; rintro x3 w3 ⟨rfl, hb3⟩; have HB3 := Lib.hid (HB2.out.trans (hb3.mono HB2.out.size)); have HE3 := Lib.hid (HE2.out.trans (hb3.mono HE2.out.size)); have HQ3 := Lib.hid ((hb3.block w.heap.size HS2.out).trans HQ2.out); have HS3 := Lib.hid (Nat.lt_of_lt_of_le HS2.out hb3.size); have HZ3 := Lib.hid (Nat.le_trans HE2.out.size hb3.size); clear hb3)
      | fail)
    have hba := (Below.refl w3.heap.size w3).alloc (Nat.le_refl _) (.cells #[.int .i64 site, .int .i64 ((qn : Int) + 1), .int .i64 1, .int .i64 0, .int .i64 0, .int .i64 0, .string s, .slice none 0 0, .int .i64 0, .int .i64 0, .int .i64 0] 39)
    have HBa := Lib.hid (HB3.out.trans (hba.mono HB3.out.size))
    have HEa := Lib.hid (HE3.out.trans (hba.mono HE3.out.size))
    have HQa := Lib.hid ((hba.block w.heap.size HS3.out).trans HQ3.out)
    have hbx := heap_alloc_new w3 (.cells #[.int .i64 site, .int .i64 ((qn : Int) + 1), .int .i64 1, .int .i64 0, .int .i64 0, .int .i64 0, .string s, .slice none 0 0, .int .i64 0, .int .i64 0, .int .i64 0] 39)
    have HSa := Lib.hid HS3.out
    have HZa := Lib.hid HZ3.out
    have HXa := Lib.hid (show w3.heap.size < (w3.alloc (.cells #[.int .i64 site, .int .i64 ((qn : Int) + 1), .int .i64 1, .int .i64 0, .int .i64 0, .int .i64 0, .string s, .slice none 0 0, .int .i64 0, .int .i64 0, .int .i64 0] 39)).heap.size by simp)
    clear hba
    generalize w3.alloc (.cells #[.int .i64 site, .int .i64 ((qn : Int) + 1), .int .i64 1, .int .i64 0, .int .i64 0, .int .i64 0, .string s, .slice none 0 0, .int .i64 0, .int .i64 0, .int .i64 0] 39) = wa at *
    generalize w3.heap.size = bx at *
    have HBX := Lib.hid hbx
    obtain ⟨k0, k1, k2, k3, k4, k5, k6, k7, k8, k9, ka, kf, kl⟩ := cCells11P hbx
    clear hbx
    go_upto_region 10 with fail
    have HXB := Lib.hid (show ∃ x y z : Int, (x = 0 ∧ y = 0 ∧ z = 0) ∧ wa.heap[bx]? = some (.cells #[.int .i64 site, .int .i64 ((qn : Int) + 1), .int .i64 1, .int .i64 x, .int .i64 y, .int .i64 z, .string s, .slice none 0 0, .int .i64 0, .int .i64 0, .int .i64 0] 39) ∧ KpX bx wa wa from ⟨0, 0, 0, ⟨rfl, rfl, rfl⟩, HBX.out, KpX.refl bx wa⟩)
    clear k0 k1 k2 k3 k4 k5 k6 k7 k8 k9 ka kf kl f1 f2 f3 f6 f7
    clear HBX
    obtain ⟨x, y, z, hxyz, hblk, hkp⟩ := HXB.out
    have HXYZ := Lib.hid hxyz
    clear hxyz
    have HBL := Lib.hid hblk
    have HKP := Lib.hid hkp
    clear hblk hkp HXB
    go_wp2_with fail
    go_loopw [16] (fun s16 wr => ∃ (m : Nat) (g : List El) (ga : Option Addr) (gc : Nat), s16 = .int .i64 m ∧ at_ ≤ m ∧ m ≤ at_ + nn ∧ (g.length ≤ m - at_ ∧ (m = at_ → g = []) ∧ (at_ < m → g = [v0])) ∧ wr.heap[bx]? = some (.cells #[.int .i64 site, .int .i64 ((qn : Int) + 1), .int .i64 1, .int .i64 x, .int .i64 y, .int .i64 z, .string s, .slice ga g.length gc, .int .i64 0, .int .i64 0, .int .i64 0] 39) ∧ wr.ownsRow wa.heap.size 37 3 (.slice ga g.length gc) g.length (ecs g) ∧ KpX bx wa wr) (fun s16 _ => at_ + nn - (RowKit.intOf s16).toNat)
    case atStart => exact ⟨at_, [], none, 0, rfl, Nat.le_refl _, Nat.le_add_right _ _, ⟨Nat.zero_le _, fun _ => rfl, fun h => absurd h (Nat.lt_irrefl _)⟩, HBL.out, World.ownsRow_nil _ _ _ _, HKP.out⟩
    case round =>
      clear HBL HKP
      obtain ⟨m, g, ga, gc, rfl, hm1, hm2, ⟨hgl, hg0, hg1⟩, hblk, how, hkp⟩ := hrel
      have HG0 := Lib.hid hg0
      have HG1 := Lib.hid hg1
      clear hg0 hg1
      have HBL := Lib.hid hblk
      have HOW := Lib.hid how
      have HKP := Lib.hid hkp
      obtain ⟨k0, k1, k2, k3, k4, k5, k6, k7, k8, k9, ka, kf, kl⟩ := cCells11P hblk
      have HG := Lib.hid hgl
      have HM := Lib.hid (And.intro hm1 hm2)
      by_cases hlt : m < at_ + nn
      · have hd : decide ((m : Int) < (at_ : Int) + (nn : Int)) = true := decide_eq_true (by omega)
        have hmv : m < VA.length := by rw [HNV.out]; have := HAT.out; omega
        have hm3 : (m : Int) < (nv : Int) := by have := HAT.out; omega
        have hm0 : (0 : Int) ≤ (m : Int) := by omega
        obtain ⟨eb, eo, hea, heb, x0, x1, x2⟩ := (hkp.elems HE1.out HEa.out HZa.out).cell m hmv
        cases hea
        have HPU := Lib.hid (show Calls Tryz.prog 66 #[.slice ga g.length gc, (VA[m]).v] wr.drew (PutPost wa.heap.size wa.heap.size wr.drew (putL g VA[m])) from put_any ga gc g.length wa.heap.size wa.heap.size g VA[m] wr.drew wr.drew ((same_drew wr).owns how) rfl (Nat.le_refl _) hkp.size (Below.refl _ _) (by have := HAT.out; have := HG.out; omega))
        have HPL := Lib.hid (putL_len g VA[m])
        have hma : m = at_ := by have := HN1.out; omega
        have HP2 := Lib.hid (show putL g VA[m] = [v0] from by
          subst hma
          rw [HG0.out rfl, HV0.out hmv]
          rfl)
        clear hma
        generalize putL g VA[m] = g2 at *
        generalize VA[m] = e at *
        obtain ⟨es, eq, ei⟩ := e
        unfold PutPost El.v at HPU
        simp only at x0 x1 x2 HPU
        generalize g.length = gl at *
        clear hm1 hm2 hgl hblk how hkp hmv
        go_wp2_with fail
        go_region_law (first
          | (go_simp; go_at_call 66; refine HPU.out.mono ?_; rintro x5 w5 ⟨a5, c5, rfl, hown5, hb5⟩; have HO5 := Lib.hid hown5; have hq5 := (hb5.block bx HXa.out).trans HBL.out; have HQ5 := Lib.hid hq5; have HK5 := Lib.hid (HKP.out.below (Below.drew (Below.refl _ _) |>.trans hb5)); obtain ⟨q0, q1, q2, q3, q4, q5, q6, q7, q8, q9, qa, qf, ql⟩ := cCells11P hq5; clear hown5 hb5 hq5)
          | fail)
        all_goals
          go_wp2_with fail
          go_roundw
          case rel => exact ⟨m + 1, g2, a5, c5, by go_num, by have := HM.out; omega, by omega, ⟨by have := HPL.out; have := HG.out; have := HM.out; omega, fun h => absurd h (by have := HM.out; omega), fun _ => HP2.out⟩, blk_set7 HQ5.out _, ownsRow_setCell_below HO5.out HXa.out _, HK5.out.set 7 _⟩
          case measure => simp [RowKit.intOf]; omega
      · have hd : decide ((m : Int) < (at_ : Int) + (nn : Int)) = false := decide_eq_false (by omega)
        obtain ⟨ga2, gc2, hv9, hel, -, -, hno⟩ := elems_own how
        simp only [Value.slice.injEq] at hv9
        obtain ⟨rfl, -, rfl⟩ := hv9
        have HEL := Lib.hid hel
        have HNO := Lib.hid hno
        have HGE := Lib.hid (show ∀ ad, ga = some ad → ad.block ≠ w.heap.size from fun ad had => by have := (how.lt ad.block (by subst had; rfl)).1; have := HXa.out; have := HSa.out; omega)
        have HGE2 := Lib.hid (show ∀ ad, ga = some ad → w.heap.size ≤ ad.block from fun ad had => by have := (how.lt ad.block (by subst had; rfl)).1; have := HXa.out; have := HSa.out; omega)
        have HBR := Lib.hid (hkp.to HBa.out (Nat.le_of_lt HSa.out) HBa.out.size)
        have HQR := Lib.hid ((hkp.block w.heap.size (by have := HXa.out; have := HSa.out; omega) (by have := HSa.out; omega)).trans HQa.out)
        have HLR := Lib.hid (show w.heap.size < wr.heap.size from by have := hkp.size; have := HXa.out; have := HSa.out; omega)
        have HGL := Lib.hid (show g.length ≤ 200 from by have := HAT.out; omega)
        have HBH2 := Lib.hid (fun wx (hx : Below w.heap.size w wx) (hg : ElemsAt wx ga g) => HBH.out ((qn : Int) + 1) x y z g ga gc wx hx hg (by have := HGL.out; omega))
        have HRW2 := Lib.hid (fun (a2 : Option Addr) (c2 : Nat) (L : List OpR) wx => HRW.out ((qn : Int) + 1) x y z g a2 c2 L wx)
        have HOS := Lib.hid (show (⟨site, (qn : Int) + 1, 1, ⟨x, y, z⟩, s, g, 0, 0, 0⟩ : OpD) = ⟨site, (qn : Int) + 1, 1, ⟨0, 0, 0⟩, s, [v0], 0, 0, 0⟩ from by
          rw [HXYZ.out.1, HXYZ.out.2.1, HXYZ.out.2.2, HG1.out (by have := HN1.out; omega)])
        have HFI := Lib.hid (fun wx (hr2 : rowP (D ++ [⟨site, (qn : Int) + 1, 1, ⟨x, y, z⟩, s, g, 0, 0, 0⟩])) (hel : ElemsAt wx ga g) (hx : Below w.heap.size w wx) => (⟨⟨site, (qn : Int) + 1, 1, ⟨x, y, z⟩, s, g, 0, 0, 0⟩, ga, gc, 0, rfl, fun _ => ⟨⟨hel, by have := HGL.out; unfold BIG; show g.length ≤ _; omega, HSS.out, HNO.out⟩, hr2, HOS.out⟩, HGE2.out, hx⟩ : RepI D ⟨site, (qn : Int) + 1, 1, ⟨0, 0, 0⟩, s, [v0], 0, 0, 0⟩ w (.returned (.tuple #[.agg #[.int .i64 site, .int .i64 ((qn : Int) + 1), .int .i64 1, .int .i64 x, .int .i64 y, .int .i64 z, .string s, .slice ga g.length gc, .int .i64 0, .int .i64 0, .int .i64 0], .int .i64 0])) wx))
        have HRB := Lib.hid (rowB_iff (D ++ [⟨site, (qn : Int) + 1, 1, ⟨x, y, z⟩, s, g, 0, 0, 0⟩]))
        generalize rowB (D ++ [⟨site, (qn : Int) + 1, 1, ⟨x, y, z⟩, s, g, 0, 0, 0⟩]) = bb at *
        have HBB := Lib.hid (show bb = true → rowP (D ++ [⟨site, (qn : Int) + 1, 1, ⟨x, y, z⟩, s, g, 0, 0, 0⟩]) from fun hb => HRB.out.1 hb)
        generalize g.length = gl at *
        clear HRB hm1 hm2 hgl hblk how hkp hno hel
        cases bb
        · go_wp2_with (first
            | (go_at_call 34; refine (HBH2.out wr HBR.out HEL.out).mono ?_; rintro x4 w4 ⟨a4, c4, L4, rfl, hl4, hc4, hops4, hos4, hb4⟩; have HB4 := Lib.hid (HBR.out.trans (hb4.mono HBR.out.size)); have HQ4 := Lib.hid ((hb4.block w.heap.size HLR.out).trans HQR.out); have HS4 := Lib.hid (Nat.lt_of_lt_of_le HLR.out hb4.size); have HR4 := Lib.hid (HRW2.out a4 c4 L4 w4 HB4.out hl4 hc4 hops4 hos4); clear hb4 hl4 hc4 hops4 hos4 k0 k1 k2 k3 k4 k5 k6 k7 k8 k9 ka kf kl)
            | (go_at_call 19; refine HR4.out.mono ?_; rintro x5 w5 ⟨rfl, hb5⟩; have HB5 := Lib.hid (HB4.out.trans (hb5.mono HB4.out.size)); obtain ⟨p0, p1, p2, p3, p4, p5, p6, p7, p8, p9, pa, pf, pl⟩ := cCells11P ((hb5.block w.heap.size HS4.out).trans HQ4.out); clear hb5)
            | fail)
          refine bodyPost_ret (v := .tuple #[cZopV, .int .i64 6]) (by simp [cZopV, results, Tryz.results33, go_sem, p0, p1, p2, p3, p4, p5, p6, p7, p8, p9, pa]) rfl (repI_err D _ w _ 6 (by decide) ?_)
          exact cSet11 HB5.out _ _ _ _ _ _ _ _ _ _ _
        · go_wp2_with (first
            | (go_at_call 34; refine (HBH2.out wr HBR.out HEL.out).mono ?_; rintro x4 w4 ⟨a4, c4, L4, rfl, hl4, hc4, hops4, hos4, hb4⟩; have HB4 := Lib.hid (HBR.out.trans (hb4.mono HBR.out.size)); have HQ4 := Lib.hid ((hb4.block w.heap.size HLR.out).trans HQR.out); have HS4 := Lib.hid (Nat.lt_of_lt_of_le HLR.out hb4.size); have HX4 := Lib.hid ((hb4.block bx kl).trans HBL.out); have HXL := Lib.hid (Nat.lt_of_lt_of_le kl hb4.size); have HE4 := Lib.hid (HEL.out.below hb4); have HR4 := Lib.hid (HRW2.out a4 c4 L4 w4 HB4.out hl4 hc4 hops4 hos4); clear hb4 hl4 hc4 hops4 hos4 k0 k1 k2 k3 k4 k5 k6 k7 k8 k9 ka kf kl)
            | (go_at_call 19; refine HR4.out.mono ?_; rintro x5 w5 ⟨rfl, hb5⟩; have HB5 := Lib.hid (HB4.out.trans (hb5.mono HB4.out.size)); have HE5 := Lib.hid (HE4.out.below hb5); obtain ⟨p0, p1, p2, p3, p4, p5, p6, p7, p8, p9, pa, pf, pl⟩ := cCells11P ((hb5.block w.heap.size HS4.out).trans HQ4.out); obtain ⟨q0, q1, q2, q3, q4, q5, q6, q7, q8, q9, qa, qf, ql⟩ := cCells11P ((hb5.block bx HXL.out).trans HX4.out); clear hb5)
            | fail)
          refine bodyPost_ret (v := .tuple #[.agg #[.int .i64 site, .int .i64 ((qn : Int) + 1), .int .i64 1, .int .i64 x, .int .i64 y, .int .i64 z, .string s, .slice ga gl gc, .int .i64 0, .int .i64 0, .int .i64 0], .int .i64 0]) (by simp [results, Tryz.results33, go_sem, p0, p1, p2, p3, p4, p5, p6, p7, p8, p9, pa]) rfl (HFI.out _ (HBB.out (by first | rfl | trivial)) ?_ ?_)
          · iterate 11 (refine ElemsAt.setC ?_ HGE.out)
            exact HE5.out
          · exact cSet11 HB5.out _ _ _ _ _ _ _ _ _ _ _
  · have HWW := Lib.hid c3x
    have f1 : decide ((nn : Int) = 0) = false := decide_eq_false (by omega)
    have f2 : ((nn : Int) == 0) = false := by simp; omega
    have f3 : decide ((0 : Int) < (at_ : Int)) = true := decide_eq_true (by omega)
    have f6 : decide (0 < at_) = true := decide_eq_true (by omega)
    have f7 : 0 < at_ := by omega
    have f5 : s.toList.isEmpty = true := by rw [c2x]; rfl
    clear c1x c3x
    go_upto_region 7 with (first
      | (go_at_call 14; refine (rNum_t _ _ (by omega) (by omega) _).mono ?_; rintro x3 w3 ⟨rfl, rfl⟩)
      | fail)
    go_upto_region 8 with (first
      | (go_at_call 65; refine (HMN.out w2 HB2.out).mono ?_; rintro x3 w3 ⟨rfl, hb3⟩; have HB3 := Lib.hid (HB2.out.trans (hb3.mono HB2.out.size)); have HE3 := Lib.hid (HE2.out.trans (hb3.mono HE2.out.size)); have HQ3 := Lib.hid ((hb3.block w.heap.size HS2.out).trans HQ2.out); have HS3 := Lib.hid (Nat.lt_of_lt_of_le HS2.out hb3.size); have HZ3 := Lib.hid (Nat.le_trans HE2.out.size hb3.size); clear hb3)
      | fail)
    have hba := (Below.refl w3.heap.size w3).alloc (Nat.le_refl _) (.cells #[.int .i64 site, .int .i64 ((qn : Int) + 1), .int .i64 1, .int .i64 0, .int .i64 0, .int .i64 0, .string s, .slice none 0 0, .int .i64 0, .int .i64 0, .int .i64 0] 39)
    have HBa := Lib.hid (HB3.out.trans (hba.mono HB3.out.size))
    have HEa := Lib.hid (HE3.out.trans (hba.mono HE3.out.size))
    have HQa := Lib.hid ((hba.block w.heap.size HS3.out).trans HQ3.out)
    have hbx := heap_alloc_new w3 (.cells #[.int .i64 site, .int .i64 ((qn : Int) + 1), .int .i64 1, .int .i64 0, .int .i64 0, .int .i64 0, .string s, .slice none 0 0, .int .i64 0, .int .i64 0, .int .i64 0] 39)
    have HSa := Lib.hid HS3.out
    have HZa := Lib.hid HZ3.out
    have HXa := Lib.hid (show w3.heap.size < (w3.alloc (.cells #[.int .i64 site, .int .i64 ((qn : Int) + 1), .int .i64 1, .int .i64 0, .int .i64 0, .int .i64 0, .string s, .slice none 0 0, .int .i64 0, .int .i64 0, .int .i64 0] 39)).heap.size by simp)
    clear hba
    generalize w3.alloc (.cells #[.int .i64 site, .int .i64 ((qn : Int) + 1), .int .i64 1, .int .i64 0, .int .i64 0, .int .i64 0, .string s, .slice none 0 0, .int .i64 0, .int .i64 0, .int .i64 0] 39) = wa at *
    generalize w3.heap.size = bx at *
    have HBX := Lib.hid hbx
    obtain ⟨k0, k1, k2, k3, k4, k5, k6, k7, k8, k9, ka, kf, kl⟩ := cCells11P hbx
    clear hbx
    go_upto_region 10 with fail
    have HXB := Lib.hid (show ∃ x y z : Int, (x = 0 ∧ y = 0 ∧ z = 0) ∧ wa.heap[bx]? = some (.cells #[.int .i64 site, .int .i64 ((qn : Int) + 1), .int .i64 1, .int .i64 x, .int .i64 y, .int .i64 z, .string s, .slice none 0 0, .int .i64 0, .int .i64 0, .int .i64 0] 39) ∧ KpX bx wa wa from ⟨0, 0, 0, ⟨rfl, rfl, rfl⟩, HBX.out, KpX.refl bx wa⟩)
    clear k0 k1 k2 k3 k4 k5 k6 k7 k8 k9 ka kf kl f1 f2 f3 f6 f7
    clear HBX
    obtain ⟨x, y, z, hxyz, hblk, hkp⟩ := HXB.out
    have HXYZ := Lib.hid hxyz
    clear hxyz
    have HBL := Lib.hid hblk
    have HKP := Lib.hid hkp
    clear hblk hkp HXB
    go_wp2_with fail
    go_loopw [16] (fun s16 wr => ∃ (m : Nat) (g : List El) (ga : Option Addr) (gc : Nat), s16 = .int .i64 m ∧ at_ ≤ m ∧ m ≤ at_ + nn ∧ (g.length ≤ m - at_ ∧ (m = at_ → g = []) ∧ (at_ < m → g = [v0])) ∧ wr.heap[bx]? = some (.cells #[.int .i64 site, .int .i64 ((qn : Int) + 1), .int .i64 1, .int .i64 x, .int .i64 y, .int .i64 z, .string s, .slice ga g.length gc, .int .i64 0, .int .i64 0, .int .i64 0] 39) ∧ wr.ownsRow wa.heap.size 37 3 (.slice ga g.length gc) g.length (ecs g) ∧ KpX bx wa wr) (fun s16 _ => at_ + nn - (RowKit.intOf s16).toNat)
    case atStart => exact ⟨at_, [], none, 0, rfl, Nat.le_refl _, Nat.le_add_right _ _, ⟨Nat.zero_le _, fun _ => rfl, fun h => absurd h (Nat.lt_irrefl _)⟩, HBL.out, World.ownsRow_nil _ _ _ _, HKP.out⟩
    case round =>
      clear HBL HKP
      obtain ⟨m, g, ga, gc, rfl, hm1, hm2, ⟨hgl, hg0, hg1⟩, hblk, how, hkp⟩ := hrel
      have HG0 := Lib.hid hg0
      have HG1 := Lib.hid hg1
      clear hg0 hg1
      have HBL := Lib.hid hblk
      have HOW := Lib.hid how
      have HKP := Lib.hid hkp
      obtain ⟨k0, k1, k2, k3, k4, k5, k6, k7, k8, k9, ka, kf, kl⟩ := cCells11P hblk
      have HG := Lib.hid hgl
      have HM := Lib.hid (And.intro hm1 hm2)
      by_cases hlt : m < at_ + nn
      · have hd : decide ((m : Int) < (at_ : Int) + (nn : Int)) = true := decide_eq_true (by omega)
        have hmv : m < VA.length := by rw [HNV.out]; have := HAT.out; omega
        have hm3 : (m : Int) < (nv : Int) := by have := HAT.out; omega
        have hm0 : (0 : Int) ≤ (m : Int) := by omega
        obtain ⟨eb, eo, hea, heb, x0, x1, x2⟩ := (hkp.elems HE1.out HEa.out HZa.out).cell m hmv
        cases hea
        have HPU := Lib.hid (show Calls Tryz.prog 66 #[.slice ga g.length gc, (VA[m]).v] wr.drew (PutPost wa.heap.size wa.heap.size wr.drew (putL g VA[m])) from put_any ga gc g.length wa.heap.size wa.heap.size g VA[m] wr.drew wr.drew ((same_drew wr).owns how) rfl (Nat.le_refl _) hkp.size (Below.refl _ _) (by have := HAT.out; have := HG.out; omega))
        have HPL := Lib.hid (putL_len g VA[m])
        have hma : m = at_ := by have := HN1.out; omega
        have HP2 := Lib.hid (show putL g VA[m] = [v0] from by
          subst hma
          rw [HG0.out rfl, HV0.out hmv]
          rfl)
        clear hma
        generalize putL g VA[m] = g2 at *
        generalize VA[m] = e at *
        obtain ⟨es, eq, ei⟩ := e
        unfold PutPost El.v at HPU
        simp only at x0 x1 x2 HPU
        generalize g.length = gl at *
        clear hm1 hm2 hgl hblk how hkp hmv
        go_wp2_with fail
        go_region_law (first
          | (go_simp; go_at_call 66; refine HPU.out.mono ?_; rintro x5 w5 ⟨a5, c5, rfl, hown5, hb5⟩; have HO5 := Lib.hid hown5; have hq5 := (hb5.block bx HXa.out).trans HBL.out; have HQ5 := Lib.hid hq5; have HK5 := Lib.hid (HKP.out.below (Below.drew (Below.refl _ _) |>.trans hb5)); obtain ⟨q0, q1, q2, q3, q4, q5, q6, q7, q8, q9, qa, qf, ql⟩ := cCells11P hq5; clear hown5 hb5 hq5)
          | fail)
        all_goals
          go_wp2_with fail
          go_roundw
          case rel => exact ⟨m + 1, g2, a5, c5, by go_num, by have := HM.out; omega, by omega, ⟨by have := HPL.out; have := HG.out; have := HM.out; omega, fun h => absurd h (by have := HM.out; omega), fun _ => HP2.out⟩, blk_set7 HQ5.out _, ownsRow_setCell_below HO5.out HXa.out _, HK5.out.set 7 _⟩
          case measure => simp [RowKit.intOf]; omega
      · have hd : decide ((m : Int) < (at_ : Int) + (nn : Int)) = false := decide_eq_false (by omega)
        obtain ⟨ga2, gc2, hv9, hel, -, -, hno⟩ := elems_own how
        simp only [Value.slice.injEq] at hv9
        obtain ⟨rfl, -, rfl⟩ := hv9
        have HEL := Lib.hid hel
        have HNO := Lib.hid hno
        have HGE := Lib.hid (show ∀ ad, ga = some ad → ad.block ≠ w.heap.size from fun ad had => by have := (how.lt ad.block (by subst had; rfl)).1; have := HXa.out; have := HSa.out; omega)
        have HGE2 := Lib.hid (show ∀ ad, ga = some ad → w.heap.size ≤ ad.block from fun ad had => by have := (how.lt ad.block (by subst had; rfl)).1; have := HXa.out; have := HSa.out; omega)
        have HBR := Lib.hid (hkp.to HBa.out (Nat.le_of_lt HSa.out) HBa.out.size)
        have HQR := Lib.hid ((hkp.block w.heap.size (by have := HXa.out; have := HSa.out; omega) (by have := HSa.out; omega)).trans HQa.out)
        have HLR := Lib.hid (show w.heap.size < wr.heap.size from by have := hkp.size; have := HXa.out; have := HSa.out; omega)
        have HGL := Lib.hid (show g.length ≤ 200 from by have := HAT.out; omega)
        have HBH2 := Lib.hid (fun wx (hx : Below w.heap.size w wx) (hg : ElemsAt wx ga g) => HBH.out ((qn : Int) + 1) x y z g ga gc wx hx hg (by have := HGL.out; omega))
        have HRW2 := Lib.hid (fun (a2 : Option Addr) (c2 : Nat) (L : List OpR) wx => HRW.out ((qn : Int) + 1) x y z g a2 c2 L wx)
        have HOS := Lib.hid (show (⟨site, (qn : Int) + 1, 1, ⟨x, y, z⟩, s, g, 0, 0, 0⟩ : OpD) = ⟨site, (qn : Int) + 1, 1, ⟨0, 0, 0⟩, s, [v0], 0, 0, 0⟩ from by
          rw [HXYZ.out.1, HXYZ.out.2.1, HXYZ.out.2.2, HG1.out (by have := HN1.out; omega)])
        have HFI := Lib.hid (fun wx (hr2 : rowP (D ++ [⟨site, (qn : Int) + 1, 1, ⟨x, y, z⟩, s, g, 0, 0, 0⟩])) (hel : ElemsAt wx ga g) (hx : Below w.heap.size w wx) => (⟨⟨site, (qn : Int) + 1, 1, ⟨x, y, z⟩, s, g, 0, 0, 0⟩, ga, gc, 0, rfl, fun _ => ⟨⟨hel, by have := HGL.out; unfold BIG; show g.length ≤ _; omega, HSS.out, HNO.out⟩, hr2, HOS.out⟩, HGE2.out, hx⟩ : RepI D ⟨site, (qn : Int) + 1, 1, ⟨0, 0, 0⟩, s, [v0], 0, 0, 0⟩ w (.returned (.tuple #[.agg #[.int .i64 site, .int .i64 ((qn : Int) + 1), .int .i64 1, .int .i64 x, .int .i64 y, .int .i64 z, .string s, .slice ga g.length gc, .int .i64 0, .int .i64 0, .int .i64 0], .int .i64 0])) wx))
        have HRB := Lib.hid (rowB_iff (D ++ [⟨site, (qn : Int) + 1, 1, ⟨x, y, z⟩, s, g, 0, 0, 0⟩]))
        generalize rowB (D ++ [⟨site, (qn : Int) + 1, 1, ⟨x, y, z⟩, s, g, 0, 0, 0⟩]) = bb at *
        have HBB := Lib.hid (show bb = true → rowP (D ++ [⟨site, (qn : Int) + 1, 1, ⟨x, y, z⟩, s, g, 0, 0, 0⟩]) from fun hb => HRB.out.1 hb)
        generalize g.length = gl at *
        clear HRB hm1 hm2 hgl hblk how hkp hno hel
        cases bb
        · go_wp2_with (first
            | (go_at_call 34; refine (HBH2.out wr HBR.out HEL.out).mono ?_; rintro x4 w4 ⟨a4, c4, L4, rfl, hl4, hc4, hops4, hos4, hb4⟩; have HB4 := Lib.hid (HBR.out.trans (hb4.mono HBR.out.size)); have HQ4 := Lib.hid ((hb4.block w.heap.size HLR.out).trans HQR.out); have HS4 := Lib.hid (Nat.lt_of_lt_of_le HLR.out hb4.size); have HR4 := Lib.hid (HRW2.out a4 c4 L4 w4 HB4.out hl4 hc4 hops4 hos4); clear hb4 hl4 hc4 hops4 hos4 k0 k1 k2 k3 k4 k5 k6 k7 k8 k9 ka kf kl)
            | (go_at_call 19; refine HR4.out.mono ?_; rintro x5 w5 ⟨rfl, hb5⟩; have HB5 := Lib.hid (HB4.out.trans (hb5.mono HB4.out.size)); obtain ⟨p0, p1, p2, p3, p4, p5, p6, p7, p8, p9, pa, pf, pl⟩ := cCells11P ((hb5.block w.heap.size HS4.out).trans HQ4.out); clear hb5)
            | fail)
          refine bodyPost_ret (v := .tuple #[cZopV, .int .i64 6]) (by simp [cZopV, results, Tryz.results33, go_sem, p0, p1, p2, p3, p4, p5, p6, p7, p8, p9, pa]) rfl (repI_err D _ w _ 6 (by decide) ?_)
          exact cSet11 HB5.out _ _ _ _ _ _ _ _ _ _ _
        · go_wp2_with (first
            | (go_at_call 34; refine (HBH2.out wr HBR.out HEL.out).mono ?_; rintro x4 w4 ⟨a4, c4, L4, rfl, hl4, hc4, hops4, hos4, hb4⟩; have HB4 := Lib.hid (HBR.out.trans (hb4.mono HBR.out.size)); have HQ4 := Lib.hid ((hb4.block w.heap.size HLR.out).trans HQR.out); have HS4 := Lib.hid (Nat.lt_of_lt_of_le HLR.out hb4.size); have HX4 := Lib.hid ((hb4.block bx kl).trans HBL.out); have HXL := Lib.hid (Nat.lt_of_lt_of_le kl hb4.size); have HE4 := Lib.hid (HEL.out.below hb4); have HR4 := Lib.hid (HRW2.out a4 c4 L4 w4 HB4.out hl4 hc4 hops4 hos4); clear hb4 hl4 hc4 hops4 hos4 k0 k1 k2 k3 k4 k5 k6 k7 k8 k9 ka kf kl)
            | (go_at_call 19; refine HR4.out.mono ?_; rintro x5 w5 ⟨rfl, hb5⟩; have HB5 := Lib.hid (HB4.out.trans (hb5.mono HB4.out.size)); have HE5 := Lib.hid (HE4.out.below hb5); obtain ⟨p0, p1, p2, p3, p4, p5, p6, p7, p8, p9, pa, pf, pl⟩ := cCells11P ((hb5.block w.heap.size HS4.out).trans HQ4.out); obtain ⟨q0, q1, q2, q3, q4, q5, q6, q7, q8, q9, qa, qf, ql⟩ := cCells11P ((hb5.block bx HXL.out).trans HX4.out); clear hb5)
            | fail)
          refine bodyPost_ret (v := .tuple #[.agg #[.int .i64 site, .int .i64 ((qn : Int) + 1), .int .i64 1, .int .i64 x, .int .i64 y, .int .i64 z, .string s, .slice ga gl gc, .int .i64 0, .int .i64 0, .int .i64 0], .int .i64 0]) (by simp [results, Tryz.results33, go_sem, p0, p1, p2, p3, p4, p5, p6, p7, p8, p9, pa]) rfl (HFI.out _ (HBB.out (by first | rfl | trivial)) ?_ ?_)
          · iterate 11 (refine ElemsAt.setC ?_ HGE.out)
            exact HE5.out
          · exact cSet11 HB5.out _ _ _ _ _ _ _ _ _ _ _
end Go.Proofs.YthnedehihbploaaGreatDoor
