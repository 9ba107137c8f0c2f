/- CaretDeletes: the walk -/
import Derived.Test.YthnedehihbploaaGreatDoorCDel
import Derived.Test.YthnedehihbploaaGreatDoorCRepl
import Derived.Deep.RegionHeld3
import Derived.Laws.Closers25b
import Derived.Test.YthnedehihbploaaGreatDoorYNear
import Derived.Test.YthnedehihbploaaGreatDoorVArgs
import Derived.Deep.DeepCutAuto
import Derived.Deep.CutBlock
import Derived.Lib.QuietBelow
import Derived.Deep.QuietTactic
import Derived.BigQuiet
import Derived.IntWalk
namespace Go.Proofs.YthnedehihbploaaGreatDoor
open Go.RowKit Go.Lib Go.Sort

theorem and14 {p0 p1 p2 p3 p4 p5 p6 p7 p8 p9 p10 p11 p12 p13 : Prop} (h : p0 ∧ p1 ∧ p2 ∧ p3 ∧ p4 ∧ p5 ∧ p6 ∧ p7 ∧ p8 ∧ p9 ∧ p10) (g : p11 ∧ p12 ∧ p13) : p0 ∧ p1 ∧ p2 ∧ p3 ∧ p4 ∧ p5 ∧ p6 ∧ p7 ∧ p8 ∧ p9 ∧ p10 ∧ p11 ∧ p12 ∧ p13 := by
  obtain ⟨h0, h1, h2, h3, h4, h5, h6, h7, h8, h9, h10⟩ := h
  exact ⟨h0, h1, h2, h3, h4, h5, h6, h7, h8, h9, h10, g⟩
def cdReg (n : Nat) : Code → Option Code
  | .region m ops d => if m = n then some (.region m ops d) else none
  | .seq a b => (cdReg n a).or (cdReg n b)
  | .cond _ a b => (cdReg n a).or (cdReg n b)
  | .block _ c => cdReg n c
  | .loop c => cdReg n c
  | .scope c => cdReg n c
  | _ => none
noncomputable def regCd (n : Nat) : Code := ((Tryz.f6.body.bind (cdReg n)).getD .skip)
theorem em_okC : okT ⟨#[]⟩ = true := by kernel_rfl
theorem em_rnsC : rns ⟨#[]⟩ = [] := by kernel_rfl
theorem em_nRC : nR ⟨#[]⟩ = 0 := by kernel_rfl
/-- what Replace tells where one element goes -/
def DelX (D : List OpD) (site : Int) (v : El) (w : World) (e : Ending) (w' : World) : Prop := ∃ (es eq ek ex ey ez ef em en er : Int) (et : ByteArray) (oa : Option Addr) (gl oc : Nat), e = .returned (.tuple #[.agg #[.int .i64 es, .int .i64 eq, .int .i64 ek, .int .i64 ex, .int .i64 ey, .int .i64 ez, .string et, .slice oa gl oc, .int .i64 ef, .int .i64 em, .int .i64 en], .int .i64 er]) ∧ (er = 0 → .agg #[.int .i64 es, .int .i64 eq, .int .i64 ek, .int .i64 ex, .int .i64 ey, .int .i64 ez, .string et, .slice oa gl oc, .int .i64 ef, .int .i64 em, .int .i64 en] = (delO D site ⟨#[]⟩ v).v oa oc ∧ OpAt w' (delO D site ⟨#[]⟩ v) oa oc ∧ rowP (D ++ [delO D site ⟨#[]⟩ v])) ∧ Below w.heap.size w w'
theorem rDel_any (a : Option Addr) (cap : Nat) (l : List OpR) (site : Int) (j : Nat) (v : El) (w : World) (hT : Tabs w) (h : OpsAt w a l) (hr : rowP (OpR.os l)) (hj : j < (visE (OpR.os l)).length) (hv : (visE (OpR.os l))[j] = v) :
    Calls Tryz.prog 33 #[.slice a l.length cap, .int .i64 site, .int .i64 (j : Int), .int .i64 1, .string ⟨#[]⟩] w (DelX (OpR.os l) site v w) := by
  have h9 := rRep_one a cap l site j 1 ⟨#[]⟩ w hT h hr em_okC (by decide) (by rw [em_rnsC]; decide) (by omega) rfl ((toList_nil_iff_emptyBytes _).2 rfl) v (fun _ => hv)
  refine h9.mono ?_
  rintro e w' ⟨⟨es, eq, ek, ⟨ex, ey, ez⟩, et, eg, ef, em, en⟩, oa, oc, er, rfl, h1, -, hb⟩
  refine ⟨es, eq, ek, ex, ey, ez, ef, em, en, er, et, oa, eg.length, oc, rfl, fun he => ?_, hb⟩
  obtain ⟨h2, h3, h4⟩ := h1 he
  have h5 : (⟨es, eq, ek, ⟨ex, ey, ez⟩, et, eg, ef, em, en⟩ : OpD) = delO (OpR.os l) site ⟨#[]⟩ v := h4
  rw [← h5]
  exact ⟨rfl, h2, h3⟩
set_option maxRecDepth 100000 in
set_option maxHeartbeats 8000000 in
theorem cd_r20 {u0 u1 u2 u3 u5 u6 u8 u9 u11 u12 u13 u14 u15 u16 u17 u18 u19 u20 u21 u22 u23 u24 u25 u26 u27 u28 u29 u30 u31 u32 u33 u34 u35 u36 u37 u38 u39 u40 u41 u42 u43 u44 u45 u46 u47 u48 u49 u50 u51 u52 u53 u54 u55 u56 u57 u58 u59 u60 u61 u62 u63 u64 u65 u66 u67 u68 u69 u70 u71 u72 u73 u74 u75 u76 u77 u78 u79 u80 u81 u82 u83 u84 u85 u86 u87 u88 u89 u90 u91 u92 u93 u94 u95 u96 u97 u98 u99 u100 : Value}
    {ra oa : Option Addr} {nr rc bo bx gl oc : Nat} {es eq ek ex ey ez ef em en xs xq xi pn pe : Int} {et : ByteArray} (w : World)
    (HA : RowKit.Hid (∀ wx : World, Below w.heap.size w wx → wx.cell? ⟨bo, 0, none⟩ = some (.int .i64 es) ∧ wx.cell? ⟨bo, 1, none⟩ = some (.int .i64 eq) ∧ wx.cell? ⟨bo, 2, none⟩ = some (.int .i64 ek) ∧ wx.cell? ⟨bo, 3, none⟩ = some (.int .i64 ex) ∧ wx.cell? ⟨bo, 4, none⟩ = some (.int .i64 ey) ∧ wx.cell? ⟨bo, 5, none⟩ = some (.int .i64 ez) ∧ wx.cell? ⟨bo, 6, none⟩ = some (.string et) ∧ wx.cell? ⟨bo, 7, none⟩ = some (.slice oa gl oc) ∧ wx.cell? ⟨bo, 8, none⟩ = some (.int .i64 ef) ∧ wx.cell? ⟨bo, 9, none⟩ = some (.int .i64 em) ∧ wx.cell? ⟨bo, 10, none⟩ = some (.int .i64 en)))
    (HX : RowKit.Hid (∀ wx : World, Below w.heap.size w wx → wx.cell? ⟨bx, 0, none⟩ = some (.int .i64 xs) ∧ wx.cell? ⟨bx, 1, none⟩ = some (.int .i64 xq) ∧ wx.cell? ⟨bx, 2, none⟩ = some (.int .i64 xi)))
    (_hlo : bo < w.heap.size) (_hlx : bx < w.heap.size)
    {R1 : Value → World → Prop}
    (H1 : RowKit.Hid (∀ wx : World, Below w.heap.size w wx → Calls Tryz.prog 34 #[.slice ra nr rc, .agg #[.int .i64 es, .int .i64 eq, .int .i64 ek, .int .i64 ex, .int .i64 ey, .int .i64 ez, .string et, .slice oa gl oc, .int .i64 ef, .int .i64 em, .int .i64 en]] wx (fun e w' => ∃ v, e = .returned v ∧ R1 v w' ∧ Below wx.heap.size wx w')))
    (H2 : RowKit.Hid (∀ v (wx : World), R1 v wx → Below w.heap.size w wx → Calls Tryz.prog 24 #[v, .agg #[.int .i64 xs, .int .i64 xq, .int .i64 xi]] wx (fun e w' => e = .returned (.tuple #[.int .i64 pn, .int .i64 pe]) ∧ Below wx.heap.size wx w')))
    {K : Act → World → Prop} {Q : Exit → Act → World → Prop} (hK : ∀ (v78 v79 v80 v81 v82 v83 v84 v85 : Value) (wx : World), Below w.heap.size w wx → K ⟨#[u0, u1, u2, u3, .slice ra nr rc, u5, u6, .pointer (some ⟨bx, 0, none⟩), u8, u9, .pointer (some ⟨bo, 0, none⟩), u11, .int .i64 pn, .int .i64 pe, u14, u15, u16, u17, u18, u19, u20, u21, u22, u23, u24, u25, u26, u27, u28, u29, u30, u31, u32, u33, u34, u35, u36, u37, u38, u39, u40, u41, u42, u43, u44, u45, u46, u47, u48, u49, u50, u51, u52, u53, u54, u55, u56, u57, u58, u59, u60, u61, u62, u63, u64, u65, u66, u67, u68, u69, u70, u71, u72, u73, u74, u75, u76, u77, v78, v79, v80, v81, v82, v83, v84, v85, u86, u87, u88, u89, u90, u91, u92, u93, u94, u95, u96, u97, u98, u99, u100], []⟩ wx) :
    Code.wp Tryz.prog (regCd 20) (Exit.then K Q) ⟨#[u0, u1, u2, u3, .slice ra nr rc, u5, u6, .pointer (some ⟨bx, 0, none⟩), u8, u9, .pointer (some ⟨bo, 0, none⟩), u11, u12, u13, u14, u15, u16, u17, u18, u19, u20, u21, u22, u23, u24, u25, u26, u27, u28, u29, u30, u31, u32, u33, u34, u35, u36, u37, u38, u39, u40, u41, u42, u43, u44, u45, u46, u47, u48, u49, u50, u51, u52, u53, u54, u55, u56, u57, u58, u59, u60, u61, u62, u63, u64, u65, u66, u67, u68, u69, u70, u71, u72, u73, u74, u75, u76, u77, u78, u79, u80, u81, u82, u83, u84, u85, u86, u87, u88, u89, u90, u91, u92, u93, u94, u95, u96, u97, u98, u99, u100], []⟩ w := by
  have HK := Lib.hid hK
  clear hK
  have hb0 := (Below.refl w.heap.size w).drew
  obtain ⟨k0, k1, k2, k3, k4, k5, k6, k7, k8, k9, ka⟩ := HA.out w (Below.refl _ _)
  obtain ⟨l0, l1, l2⟩ := HX.out w (Below.refl _ _)
  conv => arg 2; whnf
  go_region_held3 (fun w' => w'.cell? ⟨bo, 0, none⟩ = some (.int .i64 es) ∧ w'.cell? ⟨bo, 1, none⟩ = some (.int .i64 eq) ∧ w'.cell? ⟨bo, 2, none⟩ = some (.int .i64 ek) ∧ w'.cell? ⟨bo, 3, none⟩ = some (.int .i64 ex) ∧ w'.cell? ⟨bo, 4, none⟩ = some (.int .i64 ey) ∧ w'.cell? ⟨bo, 5, none⟩ = some (.int .i64 ez) ∧ w'.cell? ⟨bo, 6, none⟩ = some (.string et) ∧ w'.cell? ⟨bo, 7, none⟩ = some (.slice oa gl oc) ∧ w'.cell? ⟨bo, 8, none⟩ = some (.int .i64 ef) ∧ w'.cell? ⟨bo, 9, none⟩ = some (.int .i64 em) ∧ w'.cell? ⟨bo, 10, none⟩ = some (.int .i64 en) ∧ w'.cell? ⟨bx, 0, none⟩ = some (.int .i64 xs) ∧ w'.cell? ⟨bx, 1, none⟩ = some (.int .i64 xq) ∧ w'.cell? ⟨bx, 2, none⟩ = some (.int .i64 xi)) (first | exact and14 (HA.out _ hb0) (HX.out _ hb0) | exact and14 (HA.out _ hb1) (HX.out _ hb1) | exact and14 (HA.out _ hb2) (HX.out _ hb2)) (first
    | (go_at_call 24; refine (H2.out x1 w1 r1 hb1).mono ?_; rintro e2 w2 ⟨rfl, hb2'⟩; have hb2 := hb1.trans (hb2'.mono hb1.size))
    | (go_at_call 34; refine (H1.out w.drew hb0).mono ?_; rintro e1 w1 ⟨x1, rfl, r1, hb1'⟩; have hb1 := hb0.trans (hb1'.mono (Nat.le_refl _)))
    | fail)
  exact HK.out _ _ _ _ _ _ _ _ _ hb2
set_option maxRecDepth 100000 in
set_option maxHeartbeats 32000000 in
theorem deletes_walk (p : AskD) (W : World) (h : AskAt W p) (hT : Tabs W) : Calls Tryz.prog 6 #[p.v] W (BoB true W) := by
  have HHV := Lib.hid (fun wx (hx : Below W.heap.size W wx) => Heavy_light p wx (h.below hx))
  have HX := Lib.hid (BoxA.new W p)
  have hb0 : Below W.heap.size W (W.alloc p.obj) := (Below.refl _ _).alloc (Nat.le_refl _) _
  have HB0 := Lib.hid hb0
  have HRW := Lib.hid h.l
  have HTB := Lib.hid (fun wx (hx : Below W.heap.size W wx) => hT.next hx)
  have hl3 := h.l.len
  have HWK := Lib.hid wakes11_any
  clear h hb0 hT
  unfold AskD.v at HHV ⊢
  generalize hLP : Light p = LP at HHV
  have HLP := Lib.hid (show LP → Light p from fun h => by rw [hLP]; exact h)
  clear hLP
  unfold Light at HLP
  obtain ⟨lr, le, lo, ln, ar, ae, ao, an, cr, ce, co, cn⟩ := p
  unfold AskD.obj at HX HB0
  simp only at HHV HX HB0 HRW hl3 HLP ⊢
  have hbi := big_is
  obtain ⟨n0, hn0⟩ : ∃ n, lr.length = n := ⟨_, rfl⟩
  have HL0 := Lib.hid hn0
  have h0a : (n0 : Int) ≤ 140737488351232 := by omega
  rw [hn0] at HHV HX HB0 ⊢
  clear hl3 hbi hn0
  obtain ⟨n2, hn2⟩ : ∃ n, le.length = n := ⟨_, rfl⟩
  obtain ⟨n1, hn1⟩ : ∃ n, lo.length = n := ⟨_, rfl⟩
  obtain ⟨n3, hn3⟩ : ∃ n, ln.length = n := ⟨_, rfl⟩
  have HL2 := Lib.hid hn2
  have HL1 := Lib.hid hn1
  have HL3 := Lib.hid hn3
  rw [hn2, hn1, hn3] at HHV HX HB0 ⊢
  clear hn1 hn2 hn3
  go_enter Tryz.func6, Tryz.ntmps6
  go_wp2_with (first | (go_at_call 8; refine (HHV.out _ HB0.out).mono ?_; rintro x1 w1 ⟨b1, rfl, hlp, hb1⟩; have HPP := Lib.hid hlp; have HB1 := Lib.hid (HB0.out.trans (hb1.mono HB0.out.size)); have HA1 := Lib.hid (HX.out.next hb1 HX.out.lt); clear hb1 hlp; cases b1) | fail)
  rotate_left
  · go_wp2_with fail
    go_ret
    exact ⟨rfl, HB1.out⟩
  have HLT := Lib.hid (HLP.out (HPP.out (by simp)))
  clear HLP HPP
  go_wp2_with fail
  clear HHV
  have HXX := Lib.hid (fun (wx : World) (hx : Below w1.heap.size w1 wx) => (by
    obtain ⟨g1, g2, g3, g4, g5⟩ := HA1.out.next hx HA1.out.lt
    simp only [HL0.out, HL2.out, HL1.out, HL3.out] at g2 g3 g4 g5
    exact ⟨g2, g3, g4, g5, g1, HB1.out.trans (hx.mono HB1.out.size)⟩ : wx.cell? ⟨W.heap.size, 0, none⟩ = some (.slice ar n0 cr) ∧ wx.cell? ⟨W.heap.size, 1, none⟩ = some (.slice ae n2 ce) ∧ wx.cell? ⟨W.heap.size, 2, none⟩ = some (.slice ao n1 co) ∧ wx.cell? ⟨W.heap.size, 3, none⟩ = some (.slice an n3 cn) ∧ W.heap.size < wx.heap.size ∧ Below W.heap.size W wx))
  clear HX HA1
  have HN2 := Lib.hid (show n2 ≤ 900 ∧ n3 ≤ 900 from ⟨by have := HLT.out.1; rw [HL2.out] at this; exact this, by have := HLT.out.2.1; rw [HL3.out] at this; exact this⟩)
  go_loopw [3] (fun s3 wr => ∃ i : Nat, s3 = .int .i64 i ∧ i ≤ n0 ∧ Below w1.heap.size w1 wr) (fun s3 _ => n0 - (RowKit.intOf s3).toNat)
  case atStart => exact ⟨0, rfl, Nat.zero_le _, Below.refl _ _⟩
  case round =>
    obtain ⟨i, rfl, hi, hb⟩ := hrel
    obtain ⟨q0, q1, q2, q3, ql, hbW⟩ := HXX.out _ hb
    have HB := Lib.hid hb
    have HBW := Lib.hid hbW
    by_cases hlt : i < n0
    · by_cases h4 : (i : Int) < 4
      · have hil : i < lr.length := by rw [HL0.out]; exact hlt
        obtain ⟨b, off, rfl, hbb, cW⟩ := HRW.out.cell i hil
        have hro := HRW.out.row i hil
        have hlr := light_row (HLT.out.2.2.2 i hil)
        generalize lr[i] = r at *
        clear hil
        obtain ⟨rl, ra, rc⟩ := r
        simp only at cW hro hlr
        have HOP := Lib.hid (fun (wx : World) (hx : Below W.heap.size W wx) => hro.1.below hx)
        have HRR := Lib.hid (fun (wx : World) (hx : Below W.heap.size W wx) => rRow_any ra rc rl wx (HTB.out _ hx) (fun r hr => by have := (hlr.2 r hr).1; omega) (hro.1.below hx) hro.2)
        have HCAP := Lib.hid hro.2
        obtain ⟨nr, hnr⟩ : ∃ n, rl.length = n := ⟨_, rfl⟩
        have HNR := Lib.hid hnr
        rw [hnr] at cW HRR
        have HCW := Lib.hid (fun (wx : World) (hx : Below W.heap.size W wx) => And.intro ((hx.cell (p := ⟨b, off + i, none⟩) hbb).trans cW) (Nat.lt_of_lt_of_le hbb hx.size))
        obtain ⟨cr0, hbr⟩ := HCW.out _ hbW
        have HLR := Lib.hid hlr.1
        clear hnr hro hb hbW cW hlr HRW
        by_cases hrow : rowP (OpR.os rl)
        · rw [show rowB (OpR.os rl) = true from (rowB_iff _).2 hrow] at HRR
          have HROW := Lib.hid hrow
          have HVS := Lib.hid (fun wx (hx : Below W.heap.size W wx) => rVis_any ra rc rl wx (HTB.out _ hx) (szs_rowC hrow) (HOP.out wx hx) hrow)
          have hv200 := visE_le hrow.2
          obtain ⟨XV, hXV⟩ : ∃ X, visE (OpR.os rl) = X := ⟨_, rfl⟩
          rw [hXV] at HVS hv200
          obtain ⟨nv, hnv⟩ : ∃ q, XV.length = q := ⟨_, rfl⟩
          have HNV := Lib.hid hnv
          have HXV := Lib.hid hXV
          rw [hnv] at hv200
          rw [HNR.out] at HVS
          unfold OwnPost at HVS
          clear hrow hXV hnv
          go_upto_region 9 with (first
            | (go_at_call 19; refine (HRR.out wr HBW.out).mono ?_; rintro x2 w2 ⟨rfl, hb2⟩; have HB2 := Lib.hid (HB.out.trans (hb2.mono HB.out.size)); have HW2 := Lib.hid (HBW.out.trans (hb2.mono HBW.out.size)); clear hb2)
            | (go_at_call 32; refine (HVS.out w2 HW2.out).mono ?_; rintro x3 w3 ⟨v3, rfl, hown3, hb3⟩; obtain ⟨a3, c3, hv3, he3, -⟩ := elems_own hown3; rw [HNV.out] at hv3; subst hv3; have HE3 := Lib.hid he3; have HB3 := Lib.hid (HB2.out.trans (hb3.mono HB2.out.size)); have HW3 := Lib.hid (HW2.out.trans (hb3.mono HW2.out.size)); clear hown3 hb3 he3)
            | fail)
          clear HRR HVS cr0 hbr
          go_wp2_with fail
          go_loopw [6] (fun s6 wr => ∃ k : Nat, s6 = .int .i64 k ∧ k ≤ nv + 1 ∧ k ≤ 16 ∧ Below w3.heap.size w3 wr) (fun s6 _ => 16 - (RowKit.intOf s6).toNat)
          case atStart => exact ⟨0, rfl, by omega, by omega, Below.refl _ _⟩
          case round =>
            obtain ⟨k, rfl, hk, hk16, hbk⟩ := hrel
            have HBK := Lib.hid hbk
            by_cases hkn : k ≤ nv ∧ k < 16
            · as_aux_lemma =>
              obtain ⟨hk1, hk2⟩ := hkn
              have hki : (k : Int) ≤ (nv : Int) := by omega
              have hki2 : (k : Int) < 16 := by omega
              have hk0 : (0 : Int) ≤ (k : Int) := by omega
              have HWK := Lib.hid (HW3.out.trans (hbk.mono HW3.out.size))
              have HSE := Lib.hid (by
                have h9 := cSet_ok ra rc rl (k : Int) wr (HOP.out wr HWK.out) HROW.out
                rw [HNR.out, show setN (OpR.os rl) (k : Int) = 0 from by unfold setN; rw [if_pos (by rw [HXV.out, HNV.out]; omega)]] at h9
                exact h9 : Calls Tryz.prog 20 #[.slice ra nr rc, .int .i64 (k : Int)] wr (ElErr (setE (OpR.os rl) (k : Int)) 0 wr))
              unfold ElErr at HSE
              have HPLC := Lib.hid (fun (s : Int) (v : El) (j : Nat) (hr : okRow (OpR.os rl ++ [delO (OpR.os rl) s ⟨#[]⟩ v])) (hj : (visE (OpR.os rl))[j]? = some v) => del_place (D := OpR.os rl) (s := s) (t := ⟨#[]⟩) (v := v) em_nRC hr (k := j) (at_ := k) hj (by rw [HXV.out, HNV.out]; omega))
              generalize setE (OpR.os rl) (k : Int) = x at *
              obtain ⟨xs, xq, xi⟩ := x
              simp only at HSE
              clear hbk
              go_upto_region 15 with (first
                | (go_at_call 20; refine HSE.out.mono ?_; rintro x5 w5 ⟨rfl, hb5⟩; have HB5 := Lib.hid (HBK.out.trans (hb5.mono HBK.out.size)); clear hb5)
                | (go_at_call 22; refine (num11_same _ _).mono ?_; rintro xn wn ⟨rfl, hnn⟩; have hns := hnn.symm; clear hnn; subst hns)
                | fail)
              have hba := (Below.refl w5.heap.size w5).alloc (Nat.le_refl _) (.cells #[.int .i64 xs, .int .i64 xq, .int .i64 xi] 37)
              have HBA := Lib.hid (HB5.out.trans (hba.mono HB5.out.size))
              have HQX := Lib.hid (heap_alloc_new w5 (.cells #[.int .i64 xs, .int .i64 xq, .int .i64 xi] 37))
              clear hba
              generalize w5.alloc (.cells #[.int .i64 xs, .int .i64 xq, .int .i64 xi] 37) = wa at *
              generalize w5.heap.size = bx at *
              have HWA := Lib.hid (HW3.out.trans (HBA.out.mono HW3.out.size))
              have HQL := Lib.hid (Array.getElem?_eq_some_iff.1 HQX.out).1
              go_wp2_with fail
              go_loopw [9] (fun s9 wr => ∃ j : Nat, s9 = .int .i64 j ∧ j ≤ nv ∧ j ≤ 16 ∧ Below wa.heap.size wa wr) (fun s9 _ => 16 - (RowKit.intOf s9).toNat)
              case atStart => exact ⟨0, rfl, Nat.zero_le _, by omega, Below.refl _ _⟩
              case round =>
                obtain ⟨j, rfl, hj, hj16, hbj⟩ := hrel
                have HBJ := Lib.hid hbj
                by_cases hjn : j < nv ∧ j < 16
                · as_aux_lemma =>
                  obtain ⟨hj1, hj2⟩ := hjn
                  have hji : (j : Int) < (nv : Int) := by omega
                  have hji2 : (j : Int) < 16 := by omega
                  have hj0 : (0 : Int) ≤ (j : Int) := by omega
                  have hm3 : ((j : Int)).tmod 3 = ((j % 3 : Nat) : Int) := by
                    rw [Int.tmod_eq_emod_of_nonneg (by omega)]
                    rfl
                  have hs3 : j % 3 < 3 := Nat.mod_lt _ (by decide)
                  generalize hst : j % 3 = st at *
                  have hsti : (st : Int) ≤ 2 := by omega
                  have hjl : j < (visE (OpR.os rl)).length := by rw [HXV.out, HNV.out]; omega
                  have HVJ := Lib.hid (show (visE (OpR.os rl))[j]? = some (visE (OpR.os rl))[j] from List.getElem?_eq_getElem hjl)
                  have HWJ := Lib.hid (HWA.out.trans (hbj.mono HWA.out.size))
                  have h9 := rDel_any ra rc rl (1 + (st : Int)) j _ wr (HTB.out wr HWJ.out) (HOP.out wr HWJ.out) HROW.out hjl rfl
                  rw [HNR.out] at h9
                  have HRD := Lib.hid h9
                  clear h9 hst
                  generalize (visE (OpR.os rl))[j] = ve at *
                  unfold DelX at HRD
                  clear hbj hjl
                  go_upto_region 19 with (first
                    | (go_at_call 33; refine HRD.out.mono ?_; rintro x6 w6 ⟨es, eq, ek, ex, ey, ez, ef, em, en, er, et, oa, gl, oc, rfl, hok, hb6⟩; have HOK := Lib.hid hok; have HB6 := Lib.hid hb6; clear hok hb6)
                    | fail)
                  have hba := (Below.refl w6.heap.size w6).alloc (Nat.le_refl _) (.cells #[.int .i64 es, .int .i64 eq, .int .i64 ek, .int .i64 ex, .int .i64 ey, .int .i64 ez, .string et, .slice oa gl oc, .int .i64 ef, .int .i64 em, .int .i64 en] 39)
                  have HBA6 := Lib.hid (fun (o : OpD) (a : Option Addr) (c : Nat) (h : OpAt w6 o a c) => h.below hba)
                  have HB7 := Lib.hid (HBJ.out.trans ((HB6.out.trans (hba.mono HB6.out.size)).mono HBJ.out.size))
                  have HQO := Lib.hid (heap_alloc_new w6 (.cells #[.int .i64 es, .int .i64 eq, .int .i64 ek, .int .i64 ex, .int .i64 ey, .int .i64 ez, .string et, .slice oa gl oc, .int .i64 ef, .int .i64 em, .int .i64 en] 39))
                  clear hba
                  generalize w6.alloc (.cells #[.int .i64 es, .int .i64 eq, .int .i64 ek, .int .i64 ex, .int .i64 ey, .int .i64 ez, .string et, .slice oa gl oc, .int .i64 ef, .int .i64 em, .int .i64 en] 39) = w7 at *
                  generalize w6.heap.size = bo at *
                  by_cases her : er = 0
                  · subst her
                    obtain ⟨hv, hop, hr2⟩ := HOK.out rfl
                    have HV := Lib.hid hv
                    have HOP7 := Lib.hid (HBA6.out _ _ _ hop)
                    have HR2 := Lib.hid hr2
                    have HPC := Lib.hid (HPLC.out (1 + (st : Int)) ve j hr2.2 HVJ.out)
                    clear hv hop hr2
                    have HW7 := Lib.hid (HWA.out.trans (HB7.out.mono HWA.out.size))
                    have H1 := Lib.hid (fun (wx : World) (hx : Below w7.heap.size w7 wx) => (by
                      have h9 := cRBehind_o ra rc rl (delO (OpR.os rl) (1 + (st : Int)) ⟨#[]⟩ ve) oa oc wx (HOP.out wx (HW7.out.trans (hx.mono HW7.out.size))) HROW.out (HOP7.out.gone.below hx) (by show 1 ≤ 1000000; omega) (by show 0 ≤ 60000; omega)
                      rw [HNR.out, ← HV.out] at h9
                      refine h9.mono ?_
                      rintro e w' ⟨a8, c8, L8, rfl, hl8, hc8, hops8, hos8, hb8⟩
                      exact ⟨_, rfl, ⟨a8, c8, L8, rfl, hl8, hops8, hos8⟩, hb8⟩ : Calls Tryz.prog 34 #[.slice ra nr rc, .agg #[.int .i64 es, .int .i64 eq, .int .i64 ek, .int .i64 ex, .int .i64 ey, .int .i64 ez, .string et, .slice oa gl oc, .int .i64 ef, .int .i64 em, .int .i64 en]] wx (fun e w' => ∃ v, e = .returned v ∧ (∃ a8 c8 L8, v = .slice a8 (nr + 1) c8 ∧ L8.length = nr + 1 ∧ OpsAt w' a8 L8 ∧ OpR.os L8 = OpR.os rl ++ [delO (OpR.os rl) (1 + (st : Int)) ⟨#[]⟩ ve]) ∧ Below wx.heap.size wx w')))
                    have H2 := Lib.hid (fun (v : Value) (wx : World) (hv : ∃ a8 c8 L8, v = .slice a8 (nr + 1) c8 ∧ L8.length = nr + 1 ∧ OpsAt wx a8 L8 ∧ OpR.os L8 = OpR.os rl ++ [delO (OpR.os rl) (1 + (st : Int)) ⟨#[]⟩ ve]) (hx : Below w7.heap.size w7 wx) => (by
                      obtain ⟨a8, c8, L8, rfl, hl8, hops8, hos8⟩ := hv
                      have h9 := cPlace_ok a8 c8 L8 ⟨xs, xq, xi⟩ wx hops8 (by rw [hos8]; exact HR2.out)
                      rw [hl8, hos8, HPC.out.1, HPC.out.2] at h9
                      exact h9 : Calls Tryz.prog 24 #[v, .agg #[.int .i64 xs, .int .i64 xq, .int .i64 xi]] wx (fun e w' => e = .returned (.tuple #[.int .i64 ((if j < k then k - 1 else k : Nat) : Int), .int .i64 0]) ∧ Below wx.heap.size wx w')))
                    have HAO := Lib.hid (fun (wx : World) (hx : Below w7.heap.size w7 wx) => (by
                      obtain ⟨k0, k1, k2, k3, k4, k5, k6, k7, k8, k9, ka, kf, kl⟩ := cCells11P ((hx.block bo (Array.getElem?_eq_some_iff.1 HQO.out).1).trans HQO.out)
                      exact ⟨k0, k1, k2, k3, k4, k5, k6, k7, k8, k9, ka⟩ : wx.cell? ⟨bo, 0, none⟩ = some (.int .i64 es) ∧ wx.cell? ⟨bo, 1, none⟩ = some (.int .i64 eq) ∧ wx.cell? ⟨bo, 2, none⟩ = some (.int .i64 ek) ∧ wx.cell? ⟨bo, 3, none⟩ = some (.int .i64 ex) ∧ wx.cell? ⟨bo, 4, none⟩ = some (.int .i64 ey) ∧ wx.cell? ⟨bo, 5, none⟩ = some (.int .i64 ez) ∧ wx.cell? ⟨bo, 6, none⟩ = some (.string et) ∧ wx.cell? ⟨bo, 7, none⟩ = some (.slice oa gl oc) ∧ wx.cell? ⟨bo, 8, none⟩ = some (.int .i64 ef) ∧ wx.cell? ⟨bo, 9, none⟩ = some (.int .i64 em) ∧ wx.cell? ⟨bo, 10, none⟩ = some (.int .i64 en)))
                    have HAX := Lib.hid (fun (wx : World) (hx : Below w7.heap.size w7 wx) => (by
                      obtain ⟨k0, k1, k2, kf, kl⟩ := cells3 (((HB7.out.trans (hx.mono HB7.out.size)).block bx HQL.out).trans HQX.out)
                      exact ⟨k0, k1, k2⟩ : wx.cell? ⟨bx, 0, none⟩ = some (.int .i64 xs) ∧ wx.cell? ⟨bx, 1, none⟩ = some (.int .i64 xq) ∧ wx.cell? ⟨bx, 2, none⟩ = some (.int .i64 xi)))
                    go_upto_region 20 with fail
                    refine cd_r20 w7 HAO HAX (Array.getElem?_eq_some_iff.1 HQO.out).1 (Nat.lt_of_lt_of_le HQL.out HB7.out.size) H1 H2 ?_
                    intro v78 v79 v80 v81 v82 v83 v84 v85 w8 hb8
                    have HB8 := Lib.hid (HB7.out.trans (hb8.mono HB7.out.size))
                    clear hb8
                    by_cases hjk : j < k
                    · rw [if_pos hjk]
                      have hd : decide ((j : Int) < (k : Int)) = true := decide_eq_true (by omega)
                      have hd2 : (j : Int) < (k : Int) := by omega
                      have hw : IntKind.i64.wrap ((k : Int) - 1) = (k : Int) - 1 := by rw [IntKind.wrap_i64]; omega
                      rw [show ((k - 1 : Nat) : Int) = (k : Int) - 1 from by omega]
                      go_wp2_with (first | (go_at_call 22; refine (num11_same _ _).mono ?_; rintro xn wn ⟨rfl, hnn⟩; have hns := hnn.symm; clear hnn; subst hns) | fail)
                      go_roundw
                      case rel => exact ⟨j + 1, by go_num, by omega, by omega, HB8.out⟩
                      case measure => simp [RowKit.intOf]; omega
                    · rw [if_neg hjk]
                      have hd : decide ((j : Int) < (k : Int)) = false := decide_eq_false (by omega)
                      go_wp2_with (first | (go_at_call 22; refine (num11_same _ _).mono ?_; rintro xn wn ⟨rfl, hnn⟩; have hns := hnn.symm; clear hnn; subst hns) | fail)
                      go_roundw
                      case rel => exact ⟨j + 1, by go_num, by omega, by omega, HB8.out⟩
                      case measure => simp [RowKit.intOf]; omega
                  · have her2 : (er == 0) = false := by simp; exact her
                    have her3 : (er != 0) = true := by simp; exact her
                    go_wp2_with fail
                    go_roundw
                    case rel => exact ⟨j + 1, by go_num, by omega, by omega, HB7.out⟩
                    case measure => simp [RowKit.intOf]; omega
                · clear hbj
                  have hway : (¬ j < nv ∧ decide ((j : Int) < (nv : Int)) = false) ∨ (j < nv ∧ decide ((j : Int) < (nv : Int)) = true ∧ ¬ j < 16 ∧ decide ((j : Int) < 16) = false) := by
                    by_cases h9 : j < nv
                    · exact .inr ⟨h9, decide_eq_true (by omega), by omega, decide_eq_false (by omega)⟩
                    · exact .inl ⟨h9, decide_eq_false (by omega)⟩
                  rcases hway with ⟨f1, f2⟩ | ⟨f1, f2, f3, f4⟩
                  all_goals
                    go_wp2_with fail
                    go_roundw
                    case rel => exact ⟨k + 1, by go_num, by omega, by omega, HBA.out.trans (HBJ.out.mono HBA.out.size)⟩
                    case measure => simp [RowKit.intOf]; omega
            · clear hbk
              have hway : (¬ k ≤ nv ∧ decide ((k : Int) ≤ (nv : Int)) = false) ∨ (k ≤ nv ∧ decide ((k : Int) ≤ (nv : Int)) = true ∧ ¬ k < 16 ∧ decide ((k : Int) < 16) = false) := by
                by_cases h9 : k ≤ nv
                · exact .inr ⟨h9, decide_eq_true (by omega), by omega, decide_eq_false (by omega)⟩
                · exact .inl ⟨h9, decide_eq_false (by omega)⟩
              rcases hway with ⟨f1, f2⟩ | ⟨f1, f2, f3, f4⟩
              all_goals
                go_wp2_with fail
                go_roundw
                case rel => exact ⟨i + 1, by go_num, by omega, HB3.out.trans (HBK.out.mono HB3.out.size)⟩
                case measure => simp [RowKit.intOf]; omega
        · rw [show rowB (OpR.os rl) = false from rowB_no hrow] at HRR
          clear hrow
          go_wp2_with (first | (go_at_call 19; refine (HRR.out wr HBW.out).mono ?_; rintro x2 w2 ⟨rfl, hb2⟩; have HB2 := Lib.hid (HB.out.trans (hb2.mono HB.out.size)); have HW2 := Lib.hid (HBW.out.trans (hb2.mono HBW.out.size)); clear hb2) | fail)
          go_roundw
          case rel => exact ⟨i + 1, by go_num, by omega, HB2.out⟩
          case measure => simp [RowKit.intOf]; omega
      · have hd4 : decide ((i : Int) < 4) = false := decide_eq_false h4
        go_wp2_with (first | (go_at_call 30; refine (HWK.out _).mono ?_; rintro x2 w2 ⟨rfl, hb2⟩; have HB2 := Lib.hid (HBW.out.trans (hb2.mono HBW.out.size)); clear hb2) | fail)
        go_ret
        exact ⟨rfl, HB2.out⟩
    · have hd4 : decide ((i : Int) < (n0 : Int)) = false := decide_eq_false (by omega)
      go_wp2_with (first | (go_at_call 30; refine (HWK.out _).mono ?_; rintro x2 w2 ⟨rfl, hb2⟩; have HB2 := Lib.hid (HBW.out.trans (hb2.mono HBW.out.size)); clear hb2) | fail)
      go_ret
      exact ⟨rfl, HB2.out⟩
end Go.Proofs.YthnedehihbploaaGreatDoor
