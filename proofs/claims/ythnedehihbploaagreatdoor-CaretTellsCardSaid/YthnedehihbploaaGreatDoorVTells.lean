/- CaretTells: the walk -/
import Derived.Test.YthnedehihbploaaGreatDoorCTr
import Derived.Test.YthnedehihbploaaGreatDoorYNear
import Derived.Test.YthnedehihbploaaGreatDoorVArgs
import Derived.Deep.DeepCutAuto
import Derived.Deep.CutBlock
import Derived.Lib.QuietBelow
import Derived.Deep.QuietTactic
import Derived.BigQuiet
import Derived.IntWalk
namespace Go.Proofs.YthnedehihbploaaGreatDoor
open Go.RowKit Go.Lib Go.Sort

set_option maxRecDepth 100000 in
set_option maxHeartbeats 32000000 in
theorem tells_walk (p : AskD) (W : World) (h : AskAt W p) (hT : Tabs W) (hnone : p.ae = none → p.e.length = 0 ∧ p.ce = 0) (hnn : p.an = none → p.n.length = 0 ∧ p.cn = 0) : Calls Tryz.prog 4 #[p.v] W (BoB true W) := by
  obtain ⟨i3, hi3, hz30, hz31, hz32⟩ := info_parts Tryz.infoInt
  have HHV := Lib.hid (fun wx (hx : Below W.heap.size W wx) => Heavy_light p wx (h.below hx))
  have HX := Lib.hid (BoxA.new W p)
  have hb0 : Below W.heap.size W (W.alloc p.obj) := (Below.refl _ _).alloc (Nat.le_refl _) _
  have HB0 := Lib.hid hb0
  have HRW := Lib.hid h.l
  have HTB := Lib.hid (fun wx (hx : Below W.heap.size W wx) => hT.next hx)
  have HEL5 := Lib.hid (fun a cap l wx (hx : Below W.heap.size W wx) => fun (ho : OpsAt wx a l) (hn9 : p.e.length ≤ 900) => Elems5_any p a cap l wx (h.e.below hx) hn9 hnone ho)
  have hl3 := h.l.len
  have HWK := Lib.hid wakes11_any
  have HNA := Lib.hid (fun (wx : World) (hx : Below W.heap.size W wx) => h.n.below hx)
  have HNN := Lib.hid hnn
  clear h hb0 hT hnone hnn
  unfold AskD.v at HHV HEL5 ⊢
  generalize hLP : Light p = LP at HHV
  have HLP := Lib.hid (show LP → Light p from fun h => by rw [hLP]; exact h)
  clear hLP
  unfold Light at HLP
  obtain ⟨lr, le, lo, ln, ar, ae, ao, an, cr, ce, co, cn⟩ := p
  unfold AskD.obj at HX HB0
  simp only at HHV HX HB0 HRW hl3 HLP HEL5 HNA HNN ⊢
  have hbi := big_is
  obtain ⟨n0, hn0⟩ : ∃ n, lr.length = n := ⟨_, rfl⟩
  have HL0 := Lib.hid hn0
  have h0a : (n0 : Int) ≤ 140737488351232 := by omega
  rw [hn0] at HHV HX HB0 HEL5 ⊢
  clear hl3 hbi hn0
  obtain ⟨n2, hn2⟩ : ∃ n, le.length = n := ⟨_, rfl⟩
  obtain ⟨n1, hn1⟩ : ∃ n, lo.length = n := ⟨_, rfl⟩
  obtain ⟨n3, hn3⟩ : ∃ n, ln.length = n := ⟨_, rfl⟩
  have HL2 := Lib.hid hn2
  have HL1 := Lib.hid hn1
  have HL3 := Lib.hid hn3
  rw [hn2, hn1, hn3] at HHV HX HB0 HEL5 ⊢
  rw [hn3] at HNN
  clear hn1 hn2 hn3
  go_enter Tryz.func4, Tryz.ntmps4
  go_upto_region 3 with (first | (go_at_call 8; refine (HHV.out _ HB0.out).mono ?_; rintro x1 w1 ⟨b1, rfl, hlp, hb1⟩; have HPP := Lib.hid hlp; have HB1 := Lib.hid (HB0.out.trans (hb1.mono HB0.out.size)); have HA1 := Lib.hid (HX.out.next hb1 HX.out.lt); clear hb1 hlp; cases b1) | fail)
  rotate_left
  · go_wp2_with fail
    go_ret
    exact ⟨rfl, HB1.out⟩
  have HLT := Lib.hid (HLP.out (HPP.out (by simp)))
  clear HLP HPP
  clear HHV
  have HN2 := Lib.hid (show n2 ≤ 900 ∧ n3 ≤ 900 from ⟨by have := HLT.out.1; rw [HL2.out] at this; exact this, by have := HLT.out.2.1; rw [HL3.out] at this; exact this⟩)
  have hn39 := HN2.out.2
  obtain ⟨zl, z0, z1, z2, z3⟩ := HA1.out
  simp only [HL0.out, HL2.out, HL1.out, HL3.out] at z0 z1 z2 z3
  have hown1 := lit_own6 w1
  have hba1 := (Below.refl w1.heap.size w1).alloc (Nat.le_refl _) (.cells #[.int .i64 0, .int .i64 1, .int .i64 2, .int .i64 5, .int .i64 (-1), .int .i64 999] 3)
  have HNW := Lib.hid (nums_news ((HNA.out _ HB1.out).below hba1))
  have HM1 := Lib.hid (show 6 + n3 ≤ maxLen from by unfold maxLen; omega)
  have HM2 := Lib.hid (show (6 + n3) * 8 ≤ 140737488355328 from by omega)
  go_wp2_with (first | (at_builtin; (refine wpList_append_from rfl _ _ 25 rfl w1.heap.size 3 i3 (.int .i64 0) 8 Tryz.underlying25 hi3 hz30 hz31 hz32 rfl _ _ _ rfl hown1 an n3 cn (ln.map (Value.int .i64)) rfl (by simp [HL3.out]) HNN.out HNW.out (ints_one ln) HM1.out HM2.out (by simp) ?_)) | fail)
  intro v3 w3 hown3 hgrow3
  have hb3 : Below w1.heap.size w1 w3 := hba1.grown hgrow3 hba1.size (fun q hq => own_ge hown1 q hq)
  obtain ⟨a3, cap3, rfl, hns3⟩ := nums_ownC (NS := [0, 1, 2, 5, -1, 999] ++ ln) (n := 6 + n3) (by simpa using hown3) (by simp [HL3.out]; omega)
  have HN3 := Lib.hid hns3
  have HA3 := Lib.hid (HA1.out.next hb3 HA1.out.lt)
  have HB3W := Lib.hid (HB1.out.trans (hb3.mono HB1.out.size))
  obtain ⟨nn, hnn⟩ : ∃ nn, 6 + n3 = nn := ⟨_, rfl⟩
  have HNS := Lib.hid (show ([0, 1, 2, 5, -1, 999] ++ ln).length = nn from by rw [← hnn, ← HL3.out]; simp; omega)
  have hnn9 : (nn : Int) ≤ 906 := by omega
  rw [hnn]
  generalize [0, 1, 2, 5, -1, 999] ++ ln = NS at *
  clear hown3 hgrow3 hns3 hown1 hba1 hb3 zl z0 z1 z2 z3 HM1 HM2 HNW HNN HNA hnn hn39
  go_wp2_with fail
  have HXX := Lib.hid (fun (wx : World) (hx : Below w3.heap.size w3 wx) => (by
    obtain ⟨g1, g2, g3, g4, g5⟩ := HA3.out.next hx HA3.out.lt
    simp only [HL0.out, HL2.out, HL1.out, HL3.out] at g2 g3 g4 g5
    exact ⟨g2, g3, g4, g5, g1, HB3W.out.trans (hx.mono HB3W.out.size)⟩ : wx.cell? ⟨W.heap.size, 0, none⟩ = some (.slice ar n0 cr) ∧ wx.cell? ⟨W.heap.size, 1, none⟩ = some (.slice ae n2 ce) ∧ wx.cell? ⟨W.heap.size, 2, none⟩ = some (.slice ao n1 co) ∧ wx.cell? ⟨W.heap.size, 3, none⟩ = some (.slice an n3 cn) ∧ W.heap.size < wx.heap.size ∧ Below W.heap.size W wx))
  clear HX HA3 HA1
  go_loopw [4] (fun s3 wr => ∃ i : Nat, s3 = .int .i64 i ∧ i ≤ n0 ∧ Below w3.heap.size w3 wr) (fun s3 _ => n0 - (RowKit.intOf s3).toNat)
  case atStart => exact ⟨0, rfl, Nat.zero_le _, Below.refl _ _⟩
  case round =>
    obtain ⟨i, rfl, hi, hb⟩ := hrel
    obtain ⟨q0, q1, q2, q3, ql, hbW⟩ := HXX.out _ hb
    have HB := Lib.hid hb
    have HBW := Lib.hid hbW
    by_cases hlt : i < n0
    · by_cases h4 : (i : Int) < 4
      · have hil : i < lr.length := by rw [HL0.out]; exact hlt
        obtain ⟨b, off, rfl, hbb, cW⟩ := HRW.out.cell i hil
        have hro := HRW.out.row i hil
        have hlr := light_row (HLT.out.2.2.2 i hil)
        generalize lr[i] = r at *
        clear hil
        obtain ⟨rl, ra, rc⟩ := r
        simp only at cW hro hlr
        have HOP := Lib.hid (fun (wx : World) (hx : Below W.heap.size W wx) => hro.1.below hx)
        have HRR := Lib.hid (fun (wx : World) (hx : Below W.heap.size W wx) => rRow_any ra rc rl wx (HTB.out _ hx) (fun r hr => by have := (hlr.2 r hr).1; omega) (hro.1.below hx) hro.2)
        have HCAP := Lib.hid hro.2
        obtain ⟨nr, hnr⟩ : ∃ n, rl.length = n := ⟨_, rfl⟩
        have HNR := Lib.hid hnr
        rw [hnr] at cW HRR
        have HCW := Lib.hid (fun (wx : World) (hx : Below W.heap.size W wx) => And.intro ((hx.cell (p := ⟨b, off + i, none⟩) hbb).trans cW) (Nat.lt_of_lt_of_le hbb hx.size))
        obtain ⟨cr0, hbr⟩ := HCW.out _ hbW
        have HLR := Lib.hid hlr.1
        have HLG := Lib.hid (fun r hr => (hlr.2 r hr).2)
        have HTS := Lib.hid (fun r hr => (hlr.2 r hr).1)
        clear hnr hro hb hbW cW hlr HRW
        have HCO := Lib.hid (fun (wx : World) (hx : Below W.heap.size W wx) => (by
          have h9 := CopyOps_any ra rc rl wx (HOP.out wx hx) (fun r hr => by have := HLG.out r hr; omega) (by have := HLR.out; omega)
          rw [HNR.out] at h9
          exact h9 : Calls Tryz.prog 18 #[.slice ra nr rc] wx (CopysPost rl wx)))
        unfold CopysPost at HCO
        have hnr9 : nr ≤ 900 := by have := HLR.out; rw [HNR.out] at this; exact this
        go_upto_region 8 with (first
          | (go_at_call 18; refine (HCO.out wr HBW.out).mono ?_; rintro x2 w2 ⟨v2, L2, rfl, hown2, hos2, hb2⟩; have hl2 : L2.length = nr := (by have h := congrArg List.length hos2; rw [os_len, os_len, HNR.out] at h; exact h); obtain ⟨a2, c2, rfl, hat2, hc2⟩ := hown2.ops (by unfold BIG; omega); rw [hl2]; have HLL := Lib.hid hl2; have HA2 := Lib.hid hat2; have HS2 := Lib.hid hos2; have HB2 := Lib.hid (HB.out.trans (hb2.mono HB.out.size)); have HW2 := Lib.hid (HBW.out.trans (hb2.mono HBW.out.size)); clear hown2 hat2 hos2 hb2 hl2 hc2 q0 q1 q2 q3 ql cr0 hbr)
          | fail)
        obtain ⟨q0, q1, q2, q3, ql, -⟩ := HXX.out w2 HB2.out
        obtain ⟨cr0, hbr⟩ := HCW.out w2 HW2.out
        generalize hmay : rowB (OpR.os rl) = may at *
        go_upto_region 9 with (first
          | (go_at_call 19; refine (HRR.out w2 HW2.out).mono ?_; rintro x4 w4 ⟨rfl, hb4⟩; have HB24 := Lib.hid hb4; have HV4 := Lib.hid (HB2.out.trans (hb4.mono HB2.out.size)); have HW4 := Lib.hid (HW2.out.trans (hb4.mono HW2.out.size)); clear hb4 q0 q1 q2 q3 ql cr0 hbr)
          | fail)
        go_wp2_with fail
        by_cases hrow : rowP (OpR.os rl)
        · obtain rfl : may = true := by rw [← hmay]; exact (rowB_iff _).2 hrow
          have HROW := Lib.hid hrow
          clear hrow hmay
          go_loopw [7] (fun s7 wr => ∃ k : Nat, s7 = .int .i64 k ∧ k ≤ nn ∧ k ≤ 12 ∧ Below w4.heap.size w4 wr) (fun s7 _ => nn - (RowKit.intOf s7).toNat)
          case atStart => exact ⟨0, rfl, Nat.zero_le _, by omega, Below.refl _ _⟩
          case round =>
            obtain ⟨k, rfl, hk, hk12, hbk⟩ := hrel
            have HBK := Lib.hid hbk
            by_cases hkn : k < nn ∧ k < 12
            · as_aux_lemma =>
              obtain ⟨hk1, hk2⟩ := hkn
              have hki : (k : Int) < (nn : Int) := by omega
              have hki2 : (k : Int) < 12 := by omega
              have hk0 : (0 : Int) ≤ (k : Int) := by omega
              have hkl : k < NS.length := by rw [HNS.out]; exact hk1
              have HNC := Lib.hid (fun (wx : World) (hx : Below w4.heap.size w4 wx) => (HN3.out.below (HV4.out.trans (hx.mono HV4.out.size))).cell k hkl)
              obtain ⟨b5, o5, h1, -⟩ := HNC.out w4 (Below.refl _ _)
              subst h1
              have HND := Lib.hid (fun (wx : World) (hx : Below w4.heap.size w4 wx) => (by
                obtain ⟨b2, o2, h1, h2⟩ := HNC.out wx hx
                simp only [Option.some.injEq, Addr.mk.injEq] at h1
                obtain ⟨rfl, rfl, -⟩ := h1
                exact h2))
              clear HNC
              generalize NS[k] = at_ at *
              clear hkl
              have HSE := Lib.hid (fun (wx : World) (hx : Below w4.heap.size w4 wx) => (by
                have h9 := cSet_ok a2 c2 L2 at_ wx (HA2.out.below (HB24.out.trans (hx.mono HB24.out.size))) (by rw [HS2.out]; exact HROW.out)
                rw [HLL.out, HS2.out] at h9
                exact h9 : Calls Tryz.prog 20 #[.slice a2 nr c2, .int .i64 at_] wx (ElErr (setE (OpR.os rl) at_) (setN (OpR.os rl) at_) wx)))
              have HRS := Lib.hid (fun (wx : World) (hx : Below w4.heap.size w4 wx) => (by
                have h9 := rSet_any a2 c2 L2 at_ wx (HTB.out wx (HW4.out.trans (hx.mono HW4.out.size))) (HA2.out.below (HB24.out.trans (hx.mono HB24.out.size))) (by rw [HS2.out]; exact HROW.out)
                rw [HLL.out, HS2.out] at h9
                exact h9 : Calls Tryz.prog 21 #[.slice a2 nr c2, .int .i64 at_] wx (SetBPost (setE (OpR.os rl) at_) (decide (0 ≤ at_ ∧ at_ ≤ ((visE (OpR.os rl)).length : Int))) wx)))
              have hway : (setN (OpR.os rl) at_ = 0 ∧ decide (0 ≤ at_ ∧ at_ ≤ ((visE (OpR.os rl)).length : Int)) = true) ∨ (setN (OpR.os rl) at_ = 2 ∧ decide (0 ≤ at_ ∧ at_ ≤ ((visE (OpR.os rl)).length : Int)) = false ∧ setE (OpR.os rl) at_ = B0) := by
                by_cases h9 : 0 ≤ at_ ∧ at_ ≤ ((visE (OpR.os rl)).length : Int)
                · exact .inl ⟨by unfold setN; rw [if_pos h9], decide_eq_true h9⟩
                · exact .inr ⟨by unfold setN; rw [if_neg h9], decide_eq_false h9, setE_out h9⟩
              unfold ElErr at HSE
              unfold SetBPost at HRS
              generalize decide (0 ≤ at_ ∧ at_ ≤ ((visE (OpR.os rl)).length : Int)) = dd at *
              generalize setN (OpR.os rl) at_ = er at *
              generalize setE (OpR.os rl) at_ = x at *
              obtain ⟨xs, xq, xi⟩ := x
              unfold B0 at hway
              simp only [El.mk.injEq] at HSE HRS hway
              have HWAY := Lib.hid hway
              clear hway
              obtain ⟨k0, k1⟩ := HND.out wr hbk
              clear hbk
              go_upto_region 13 with (first
                | (go_at_call 20; refine (HSE.out wr HBK.out).mono ?_; rintro x5 w5 ⟨rfl, hb5⟩; have HB5 := Lib.hid (HBK.out.trans (hb5.mono HBK.out.size)); clear hb5 k0 k1)
                | fail)
              have hba := (Below.refl w5.heap.size w5).alloc (Nat.le_refl _) (.cells #[.int .i64 xs, .int .i64 xq, .int .i64 xi] 37)
              have HBA := Lib.hid (HB5.out.trans (hba.mono HB5.out.size))
              have HQX := Lib.hid (heap_alloc_new w5 (.cells #[.int .i64 xs, .int .i64 xq, .int .i64 xi] 37))
              clear hba
              generalize w5.alloc (.cells #[.int .i64 xs, .int .i64 xq, .int .i64 xi] 37) = wa at *
              generalize w5.heap.size = bx at *
              go_upto_region 15 with fail
              have hba := (Below.refl wa.heap.size wa).alloc (Nat.le_refl _) (.cells #[.int .i64 0, .int .i64 0, .int .i64 0] 37)
              have hxl : bx < wa.heap.size := (Array.getElem?_eq_some_iff.1 HQX.out).1
              have HBB := Lib.hid (HBA.out.trans (hba.mono HBA.out.size))
              have HQX2 := Lib.hid ((hba.block bx hxl).trans HQX.out)
              have HQZ2 := Lib.hid (heap_alloc_new wa (.cells #[.int .i64 0, .int .i64 0, .int .i64 0] 37))
              have HXZ := Lib.hid (Nat.ne_of_lt hxl)
              have HGZ := Lib.hid HBA.out.size
              clear hba hxl
              generalize wa.alloc (.cells #[.int .i64 0, .int .i64 0, .int .i64 0] 37) = wb at *
              generalize wa.heap.size = bz at *
              obtain ⟨k0, k1⟩ := HND.out wb HBB.out
              go_upto_region 18 with (first
                | (go_at_call 21; refine (HRS.out wb HBB.out).mono ?_; rintro x6 w6 ⟨rfl, hb6⟩; have HB6 := Lib.hid hb6; clear hb6 k0 k1)
                | fail)
              have hba := HB6.out.trans (((Below.refl w6.heap.size w6).alloc (Nat.le_refl _) (.cells #[.int .i64 xs, .int .i64 xq, .int .i64 xi] 37)).mono HB6.out.size)
              have hxl : bx < wb.heap.size := (Array.getElem?_eq_some_iff.1 HQX2.out).1
              have hzl : bz < wb.heap.size := (Array.getElem?_eq_some_iff.1 HQZ2.out).1
              have HBC := Lib.hid (HBB.out.trans (hba.mono HBB.out.size))
              have HQX3 := Lib.hid ((hba.block bx hxl).trans HQX2.out)
              have HQZ3 := Lib.hid ((hba.block bz hzl).trans HQZ2.out)
              have HQY3 := Lib.hid (heap_alloc_new w6 (.cells #[.int .i64 xs, .int .i64 xq, .int .i64 xi] 37))
              have HYZ := Lib.hid (show w6.heap.size ≠ bz from by have := HB6.out.size; omega)
              have HZ4 := Lib.hid (show w4.heap.size ≤ bz from HGZ.out)
              clear hba hxl hzl
              generalize w6.alloc (.cells #[.int .i64 xs, .int .i64 xq, .int .i64 xi] 37) = wc at *
              generalize w6.heap.size = by_ at *
              rcases HWAY.out with ⟨rfl, rfl⟩ | ⟨rfl, rfl, rfl, rfl, rfl⟩
              · go_upto_region 19 with fail
                refine ct_r19 wc HQY3.out HQZ3.out HYZ.out ?_
                intro v82 w7 hb7
                have HB7 := Lib.hid hb7
                have HQXE := Lib.hid ((stay3 HXZ.out (.int .i64 xs) (.int .i64 xq) (.int .i64 xi)).trans ((hb7.block bx (Array.getElem?_eq_some_iff.1 HQX3.out).1).trans HQX3.out))
                have HQZE := Lib.hid (fill3 ((hb7.block bz (Array.getElem?_eq_some_iff.1 HQZ3.out).1).trans HQZ3.out) (.int .i64 xs) (.int .i64 xq) (.int .i64 xi))
                have HBE := set3 (HBC.out.trans (hb7.mono HBC.out.size)) HZ4.out (.int .i64 xs) (.int .i64 xq) (.int .i64 xi)
                clear hb7
                generalize ((w7.setCell ⟨bz, 0, none⟩ (.int .i64 xs)).setCell ⟨bz, 1, none⟩ (.int .i64 xq)).setCell ⟨bz, 2, none⟩ (.int .i64 xi) = wd at *
                obtain ⟨m0, m1, m2, mf, ml⟩ := cells3 HQXE.out
                obtain ⟨n0_, n1_, n2_, nf, nl⟩ := cells3 HQZE.out
                go_wp2_with (first
                  | (go_at_call 22; refine (num11_same _ _).mono ?_; rintro xn wn ⟨rfl, hnn⟩; have hns := hnn.symm; clear hnn; subst hns)
                  | fail)
                go_roundw
                case rel => exact ⟨k + 1, by go_num, by omega, by omega, HBE⟩
                case measure => simp [RowKit.intOf]; omega
              · have HQXE := HQX3
                have HQZE := HQZ3
                have HBE := HBC.out
                obtain ⟨m0, m1, m2, mf, ml⟩ := cells3 HQXE.out
                obtain ⟨n0_, n1_, n2_, nf, nl⟩ := cells3 HQZE.out
                go_wp2_with (first
                  | (go_at_call 22; refine (num11_same _ _).mono ?_; rintro xn wn ⟨rfl, hnn⟩; have hns := hnn.symm; clear hnn; subst hns)
                  | fail)
                go_roundw
                case rel => exact ⟨k + 1, by go_num, by omega, by omega, HBE⟩
                case measure => simp [RowKit.intOf]; omega
            · skip
              clear hbk
              go_upto_region 10 with fail
              go_cut [59] (fun s wx => s = .bool false ∧ wr = wx)
              case first =>
                by_cases hk1 : k < nn
                · have hk2 : decide ((k : Int) < 12) = false := decide_eq_false (by omega)
                  have hki : (k : Int) < (nn : Int) := by omega
                  go_wp2_with fail
                  go_meet
                  exact ⟨rfl, rfl⟩
                · have hk2 : decide ((k : Int) < (nn : Int)) = false := decide_eq_false (by omega)
                  go_wp2_with fail
                  go_meet
                  exact ⟨rfl, rfl⟩
              case rest =>
                obtain ⟨rfl, rfl⟩ := hcut
                obtain ⟨q0, q1, q2, q3, ql, -⟩ := HXX.out wr (HV4.out.trans (HBK.out.mono HV4.out.size))
                have h9 := HEL5.out a2 c2 L2 wr (HW4.out.trans (HBK.out.mono HW4.out.size)) (HA2.out.below (HB24.out.trans (HBK.out.mono HB24.out.size))) HN2.out.1
                rw [HLL.out] at h9
                have HEL := Lib.hid h9
                clear h9
                unfold AnyPost OwnPost at HEL
                go_upto_region 23 with (first
                  | (go_at_call 23; refine HEL.out.mono ?_; rintro x9 w9 ⟨X, hX, v9, rfl, hown9, hb9⟩; obtain ⟨a9, c9, hv9, he9, -⟩ := elems_own hown9; subst hv9; have HE9 := Lib.hid he9; have HB9 := Lib.hid hb9; clear hown9 hb9 he9)
                  | fail)
                obtain ⟨nx, hnx⟩ : ∃ n, X.length = n := ⟨_, rfl⟩
                have HNX := Lib.hid hnx
                rw [hnx] at hX ⊢
                have HW9 := Lib.hid (HW4.out.trans ((HBK.out.trans (HB9.out.mono HBK.out.size)).mono HW4.out.size))
                have HV9 := Lib.hid (HV4.out.trans ((HBK.out.trans (HB9.out.mono HBK.out.size)).mono HV4.out.size))
                have HB29 := Lib.hid (HB24.out.trans ((HBK.out.trans (HB9.out.mono HBK.out.size)).mono HB24.out.size))
                clear hnx q0 q1 q2 q3 ql HEL
                go_wp2_with fail
                go_loopw [15] (fun s15 wr => ∃ k : Nat, s15 = .int .i64 k ∧ k ≤ nx ∧ Below w9.heap.size w9 wr) (fun s15 _ => nx - (RowKit.intOf s15).toNat)
                case atStart => exact ⟨0, rfl, Nat.zero_le _, Below.refl _ _⟩
                case round =>
                  clear HBK
                  obtain ⟨k, rfl, hk, hbk⟩ := hrel
                  have HBK := Lib.hid hbk
                  by_cases hkx : k < nx
                  · as_aux_lemma =>
                    have hkl : k < X.length := by rw [HNX.out]; exact hkx
                    have hd0 : decide ((k : Int) < (nx : Int)) = true := decide_eq_true (by omega)
                    have hki : (k : Int) < (nx : Int) := by omega
                    have hk0 : (0 : Int) ≤ (k : Int) := by omega
                    have hx50 : (nx : Int) ≤ 50 := by omega
                    have HXE := Lib.hid (fun (wx : World) (hx : Below w9.heap.size w9 wx) => (HE9.out.below hx).cell k hkl)
                    obtain ⟨b9, o9, h1, hb99, -⟩ := HXE.out w9 (Below.refl _ _)
                    subst h1
                    have HB99 := Lib.hid hb99
                    have HXD := Lib.hid (fun (wx : World) (hx : Below w9.heap.size w9 wx) => (by
                      obtain ⟨b2, o2, h1, h2⟩ := HXE.out wx hx
                      simp only [Option.some.injEq, Addr.mk.injEq] at h1
                      obtain ⟨rfl, rfl, -⟩ := h1
                      exact h2))
                    clear HXE hb99
                    generalize X[k] = e at *
                    clear hkl
                    have hway : (wroteE (OpR.os rl) e ∧ plN (OpR.os rl) e = (plE (OpR.os rl) e : Int) ∧ plR (OpR.os rl) e = 0) ∨ (¬ wroteE (OpR.os rl) e ∧ plN (OpR.os rl) e = 0 ∧ plR (OpR.os rl) e = 3) := by
                      by_cases h9 : wroteE (OpR.os rl) e
                      · exact .inl ⟨h9, pl_yes h9⟩
                      · exact .inr ⟨h9, pl_no h9⟩
                    have HPL := Lib.hid (fun (wx : World) (hx : Below w9.heap.size w9 wx) => (by
                      have h9 := cPlace_ok a2 c2 L2 e wx (HA2.out.below (HB29.out.trans (hx.mono HB29.out.size))) (by rw [HS2.out]; exact HROW.out)
                      rw [HLL.out, HS2.out] at h9
                      exact h9 : Calls Tryz.prog 24 #[.slice a2 nr c2, e.v] wx (PlcPost (plN (OpR.os rl) e) (plR (OpR.os rl) e) wx)))
                    obtain ⟨xe, hxe⟩ : ∃ x : El, (wroteE (OpR.os rl) e → x = nearE (OpR.os rl) e) ∧ (¬ wroteE (OpR.os rl) e → x = B0) := by
                      by_cases h9 : wroteE (OpR.os rl) e
                      · exact ⟨_, fun _ => rfl, fun h => absurd h9 h⟩
                      · exact ⟨B0, fun h => absurd h h9, fun _ => rfl⟩
                    have HNE := Lib.hid (fun (wx : World) (hx : Below w9.heap.size w9 wx) => (by
                      by_cases h8 : wroteE (OpR.os rl) e
                      · have h9 := cNear_ok a2 c2 L2 e wx (HA2.out.below (HB29.out.trans (hx.mono HB29.out.size))) (by rw [HS2.out]; exact HROW.out) (by rw [HS2.out]; exact h8)
                        rw [HLL.out, HS2.out, ← hxe.1 h8, ← (pl_yes h8).2] at h9
                        exact h9
                      · have h7 := (wrote_dec _ e).resolve_left h8
                        have h9 := cNear_none a2 c2 L2 e wx (HA2.out.below (HB29.out.trans (hx.mono HB29.out.size))) (by rw [HS2.out]; exact HROW.out) (by rw [HS2.out]; exact h7.1) h7.2
                        rw [HLL.out, ← hxe.2 h8, ← (pl_no h8).2] at h9
                        exact h9 : Calls Tryz.prog 25 #[.slice a2 nr c2, e.v] wx (ElErr xe (plR (OpR.os rl) e) wx)))
                    have HWR := Lib.hid (fun (wx : World) (hx : Below w9.heap.size w9 wx) => (by
                      have h9 := Written_any a2 c2 L2 e wx (HTB.out wx (HW9.out.trans (hx.mono HW9.out.size))) (szs_rowC (L := L2) (by rw [HS2.out]; exact HROW.out)) (HA2.out.below (HB29.out.trans (hx.mono HB29.out.size)))
                      rw [HLL.out, HS2.out] at h9
                      exact h9 : Calls Tryz.prog 26 #[.slice a2 nr c2, e.v] wx (BoB (!e.begin && wrt (OpR.os rl) e) wx)))
                    have HRP := Lib.hid (fun (he : wroteE (OpR.os rl) e) (wx : World) (hx : Below w9.heap.size w9 wx) => (by
                      have h9 := rPlace_any a2 c2 L2 e wx (HTB.out wx (HW9.out.trans (hx.mono HW9.out.size))) (HA2.out.below (HB29.out.trans (hx.mono HB29.out.size))) (by rw [HS2.out]; exact HROW.out) (by rw [HS2.out]; exact he)
                      rw [HLL.out, HS2.out] at h9
                      exact h9 : Calls Tryz.prog 27 #[.slice a2 nr c2, e.v] wx (IntB (plE (OpR.os rl) e) wx)))
                    have HRN := Lib.hid (fun (he : wroteE (OpR.os rl) e) (wx : World) (hx : Below w9.heap.size w9 wx) => (by
                      have h9 := rNear_any a2 c2 L2 e wx (HTB.out wx (HW9.out.trans (hx.mono HW9.out.size))) (HA2.out.below (HB29.out.trans (hx.mono HB29.out.size))) (by rw [HS2.out]; exact HROW.out) (by rw [HS2.out]; exact he)
                      rw [HLL.out, HS2.out, ← hxe.1 he] at h9
                      exact h9 : Calls Tryz.prog 28 #[.slice a2 nr c2, e.v] wx (ElPost xe wx)))
                    obtain ⟨bw, hbw⟩ : ∃ b : Bool, (b = true ↔ wroteE (OpR.os rl) e) := by
                      by_cases h9 : wroteE (OpR.os rl) e
                      · exact ⟨true, fun _ => h9, fun _ => rfl⟩
                      · exact ⟨false, fun h => absurd h (by decide), fun h => absurd h h9⟩
                    have HWT := Lib.hid (fun (hb : e.begin = false) => (by
                      have h8 : e ≠ B0 := fun h => by rw [h] at hb; exact absurd hb (by decide)
                      rw [hb, wrt_ord HROW.out hb, Bool.eq_iff_iff, hbw]
                      simp only [Bool.not_false, Bool.true_and, decide_eq_true_eq]
                      exact ⟨fun h => .inr h, fun h => h.resolve_left h8⟩ : (!e.begin && wrt (OpR.os rl) e) = bw))
                    have HBW2 := Lib.hid hbw
                    have HXB := Lib.hid (fun (h : ¬ wroteE (OpR.os rl) e) => (hxe.2 h : xe = B0))
                    have HWB := Lib.hid (show e = B0 → wroteE (OpR.os rl) e from fun h => .inl h)
                    have hsp := el_split e B0
                    have hbeg : ¬ e = B0 → e.begin = false := fun h => by
                      cases hb : e.begin with
                      | false => rfl
                      | true => exact absurd (begin_B0 hb) h
                    have HBG := Lib.hid hbeg
                    unfold PlcPost at HPL
                    unfold ElErr at HNE
                    unfold IntB at HRP
                    unfold ElPost at HRN
                    unfold BoB at HWR
                    generalize plE (OpR.os rl) e = pe at *
                    generalize plN (OpR.os rl) e = pn at *
                    generalize plR (OpR.os rl) e = pr at *
                    generalize (!e.begin && wrt (OpR.os rl) e) = wb_ at *
                    have HWAY := Lib.hid hway
                    have HSP := Lib.hid hsp
                    clear hway hsp hxe hbeg hbw
                    generalize hWE : wroteE (OpR.os rl) e = WE at *
                    clear hWE
                    obtain ⟨es, eq_, ei⟩ := e
                    obtain ⟨xs, xq, xi⟩ := xe
                    unfold El.v at HPL HNE HRP HRN HWR
                    simp only at HPL HNE HRP HRN HWR HXD HSP
                    obtain ⟨x0, x1, x2, x3⟩ := HXD.out wr hbk
                    clear hbk
                    go_upto_region 28 with (first
                      | (go_at_call 25; refine (HNE.out wy HBY.out).mono ?_; rintro x13 wz ⟨rfl, hbz⟩; have HBZ := Lib.hid (HBY.out.trans (hbz.mono HBY.out.size)); clear hbz y0 y1 y2 y3)
                      | (go_at_call 24; refine (HPL.out wr HBK.out).mono ?_; rintro x12 wy ⟨rfl, hby⟩; have HBY := Lib.hid (HBK.out.trans (hby.mono HBK.out.size)); obtain ⟨y0, y1, y2, y3⟩ := HXD.out wy HBY.out; clear hby x0 x1 x2 x3)
                      | fail)
                    have hba := (Below.refl wz.heap.size wz).alloc (Nat.le_refl _) (.cells #[.int .i64 xs, .int .i64 xq, .int .i64 xi] 37)
                    have HBA := Lib.hid (HBZ.out.trans (hba.mono HBZ.out.size))
                    have HQX := Lib.hid (heap_alloc_new wz (.cells #[.int .i64 xs, .int .i64 xq, .int .i64 xi] 37))
                    clear hba
                    generalize wz.alloc (.cells #[.int .i64 xs, .int .i64 xq, .int .i64 xi] 37) = wa at *
                    generalize wz.heap.size = bx at *
                    go_upto_region 30 with fail
                    have hba := (Below.refl wa.heap.size wa).alloc (Nat.le_refl _) (.cells #[.int .i64 0, .int .i64 0, .int .i64 0] 37)
                    have hxl : bx < wa.heap.size := (Array.getElem?_eq_some_iff.1 HQX.out).1
                    have HBB := Lib.hid (HBA.out.trans (hba.mono HBA.out.size))
                    have HQX2 := Lib.hid ((hba.block bx hxl).trans HQX.out)
                    have HQZ2 := Lib.hid (heap_alloc_new wa (.cells #[.int .i64 0, .int .i64 0, .int .i64 0] 37))
                    have HXZ := Lib.hid (Nat.ne_of_lt hxl)
                    have HGZ := Lib.hid HBA.out.size
                    clear hba hxl
                    generalize wa.alloc (.cells #[.int .i64 0, .int .i64 0, .int .i64 0] 37) = wb at *
                    generalize wa.heap.size = bz at *
                    go_upto_region 32 with fail
                    go_cut [133] (fun s wx => s = .bool bw ∧ Below wb.heap.size wb wx)
                    case first =>
                      obtain ⟨y0, y1, y2, y3⟩ := HXD.out wb HBB.out
                      rcases HSP.out with ⟨he, f0, f1, f2⟩ | ⟨hne, hz⟩
                      · have hwe := HWB.out he
                        unfold B0 at f0 f1 f2
                        simp only at f0 f1 f2
                        clear he
                        subst f0
                        subst f1
                        subst f2
                        go_wp2_with fail
                        go_meet
                        exact ⟨by rw [HBW2.out.2 hwe], Below.refl _ _⟩
                      · have hwt := HWT.out (HBG.out hne)
                        have HWT2 := Lib.hid hwt
                        unfold B0 at hz
                        simp only at hz
                        clear hne hwt
                        rcases hz with f0 | ⟨f0, f1⟩ | ⟨f0, f1, f2⟩
                        all_goals
                          try subst f0
                          try subst f1
                          go_wp2_with (first
                            | (go_at_call 26; refine (HWR.out wb HBB.out).mono ?_; rintro x15 w15 ⟨rfl, hb15⟩; have HB15 := Lib.hid hb15; clear hb15)
                            | fail)
                          go_meet
                          exact ⟨by rw [HWT2.out], HB15.out⟩
                    case rest =>
                      obtain ⟨rfl, hbc⟩ := hcut
                      have hxl : bx < wb.heap.size := (Array.getElem?_eq_some_iff.1 HQX2.out).1
                      have hzl : bz < wb.heap.size := (Array.getElem?_eq_some_iff.1 HQZ2.out).1
                      have HBC := Lib.hid (HBB.out.trans (hbc.mono HBB.out.size))
                      have HQX3 := Lib.hid ((hbc.block bx hxl).trans HQX2.out)
                      have HQZ3 := Lib.hid ((hbc.block bz hzl).trans HQZ2.out)
                      clear hbc hxl hzl
                      rename_i wc
                      rcases HWAY.out with ⟨hw, rfl, rfl⟩ | ⟨hw, rfl, rfl⟩
                      · rw [HBW2.out.2 hw]
                        have HRP2 := Lib.hid (fun wx (hx : Below wc.heap.size wc wx) => HRP.out hw wx (HBC.out.trans (hx.mono HBC.out.size)))
                        have HRN2 := Lib.hid (fun wx (hx : Below wc.heap.size wc wx) => HRN.out hw wx (HBC.out.trans (hx.mono HBC.out.size)))
                        have HXD2 := Lib.hid (fun wx (hx : Below wc.heap.size wc wx) => (by
                          obtain ⟨h1, h2, h3, h4⟩ := HXD.out wx (HBC.out.trans (hx.mono HBC.out.size))
                          exact ⟨h2, h3, h4, h1⟩ : wx.cell? ⟨b9, o9 + k * 3, none⟩ = some (.int .i64 es) ∧ wx.cell? ⟨b9, o9 + k * 3 + 1, none⟩ = some (.int .i64 eq_) ∧ wx.cell? ⟨b9, o9 + k * 3 + 2, none⟩ = some (.int .i64 ei) ∧ b9 < wx.heap.size))
                        have HZZ := Lib.hid (fun (wx : World) (hx : Below wc.heap.size wc wx) => (hx.block bz (Array.getElem?_eq_some_iff.1 HQZ3.out).1).trans HQZ3.out)
                        clear hw
                        go_upto_region 33 with fail
                        refine ct_r33 wc HXD2 HRP2 HRN2 HZZ (by have := HB99.out; have := HGZ.out; omega) hkx (by omega) ?_
                        intro v134 v135 v136 v137 v138 v139 v140 v141 v142 v143 v144 v145 w7 hb7
                        have HQXE := Lib.hid ((stay3 HXZ.out (.int .i64 xs) (.int .i64 xq) (.int .i64 xi)).trans ((hb7.block bx (Array.getElem?_eq_some_iff.1 HQX3.out).1).trans HQX3.out))
                        have HQZE := Lib.hid (fill3 ((hb7.block bz (Array.getElem?_eq_some_iff.1 HQZ3.out).1).trans HQZ3.out) (.int .i64 xs) (.int .i64 xq) (.int .i64 xi))
                        have HBE := set3 (HBC.out.trans (hb7.mono HBC.out.size)) HGZ.out (.int .i64 xs) (.int .i64 xq) (.int .i64 xi)
                        clear hb7
                        generalize ((w7.setCell ⟨bz, 0, none⟩ (.int .i64 xs)).setCell ⟨bz, 1, none⟩ (.int .i64 xq)).setCell ⟨bz, 2, none⟩ (.int .i64 xi) = wd at *
                        obtain ⟨m0, m1, m2, mf, ml⟩ := cells3 HQXE.out
                        obtain ⟨n0_, n1_, n2_, nf, nl⟩ := cells3 HQZE.out
                        go_wp2_with (first
                          | (go_at_call 22; refine (num11_same _ _).mono ?_; rintro xn wn ⟨rfl, hnn⟩; have hns := hnn.symm; clear hnn; subst hns)
                          | fail)
                        go_roundw
                        case rel => exact ⟨k + 1, by go_num, by omega, HBE⟩
                        case measure => simp [RowKit.intOf]; omega
                      · rw [show bw = false from Bool.eq_false_iff.2 (fun h => hw (HBW2.out.1 h))]
                        have hxb := HXB.out hw
                        unfold B0 at hxb
                        simp only [El.mk.injEq] at hxb
                        obtain ⟨rfl, rfl, rfl⟩ := hxb
                        have HQXE := HQX3
                        have HQZE := HQZ3
                        have HBE := HBC.out
                        clear hw
                        obtain ⟨m0, m1, m2, mf, ml⟩ := cells3 HQXE.out
                        obtain ⟨n0_, n1_, n2_, nf, nl⟩ := cells3 HQZE.out
                        go_wp2_with (first
                          | (go_at_call 22; refine (num11_same _ _).mono ?_; rintro xn wn ⟨rfl, hnn⟩; have hns := hnn.symm; clear hnn; subst hns)
                          | fail)
                        go_roundw
                        case rel => exact ⟨k + 1, by go_num, by omega, HBE⟩
                        case measure => simp [RowKit.intOf]; omega
                  · have hd0 : decide ((k : Int) < (nx : Int)) = false := decide_eq_false (by omega)
                    have h8 : ∀ r ∈ L2, r.o.gone.length ≤ 1000000 := fun r hr => by have h7 := (os_sz HS2.out (fun x hx => ⟨HTS.out x hx, HLG.out x hx⟩) r hr).2; omega
                    have h7 : L2.length ≤ 1000000 := by have := HLL.out; omega
                    have h9 := EqOps_yes a2 ra c2 rc L2 rl wr (HA2.out.below (HB29.out.trans (hbk.mono HB29.out.size))) (HOP.out wr (HW9.out.trans (hbk.mono HW9.out.size))) HS2.out h8 h7
                    rw [HLL.out, HNR.out] at h9
                    unfold BoB at h9
                    have HEQ := Lib.hid h9
                    clear h9 h8 h7
                    obtain ⟨q0, q1, q2, q3, ql, -⟩ := HXX.out wr (HV9.out.trans (hbk.mono HV9.out.size))
                    obtain ⟨cr0, hbr⟩ := HCW.out wr (HW9.out.trans (hbk.mono HW9.out.size))
                    clear hbk
                    go_wp2_with (first
                      | (go_at_call 29; refine HEQ.out.mono ?_; rintro x14 w14 ⟨rfl, hb14⟩; have HB14 := Lib.hid (HBK.out.trans (hb14.mono HBK.out.size)); clear hb14)
                      | fail)
                    go_roundw
                    case rel => exact ⟨i + 1, by go_num, by omega, HV9.out.trans (HB14.out.mono HV9.out.size)⟩
                    case measure => simp [RowKit.intOf]; omega
        · obtain rfl : may = false := by rw [← hmay]; exact rowB_no hrow
          have HROW := Lib.hid hrow
          clear hrow hmay
          go_loopw [7] (fun s7 wr => ∃ k : Nat, s7 = .int .i64 k ∧ k ≤ nn ∧ k ≤ 12 ∧ Below w4.heap.size w4 wr) (fun s7 _ => nn - (RowKit.intOf s7).toNat)
          case atStart => exact ⟨0, rfl, Nat.zero_le _, by omega, Below.refl _ _⟩
          case round =>
            obtain ⟨k, rfl, hk, hk12, hbk⟩ := hrel
            have HBK := Lib.hid hbk
            by_cases hkn : k < nn ∧ k < 12
            · as_aux_lemma =>
              obtain ⟨hk1, hk2⟩ := hkn
              have hki : (k : Int) < (nn : Int) := by omega
              have hki2 : (k : Int) < 12 := by omega
              have hk0 : (0 : Int) ≤ (k : Int) := by omega
              have hkl : k < NS.length := by rw [HNS.out]; exact hk1
              have HNC := Lib.hid (fun (wx : World) (hx : Below w4.heap.size w4 wx) => (HN3.out.below (HV4.out.trans (hx.mono HV4.out.size))).cell k hkl)
              obtain ⟨b5, o5, h1, -⟩ := HNC.out w4 (Below.refl _ _)
              subst h1
              have HND := Lib.hid (fun (wx : World) (hx : Below w4.heap.size w4 wx) => (by
                obtain ⟨b2, o2, h1, h2⟩ := HNC.out wx hx
                simp only [Option.some.injEq, Addr.mk.injEq] at h1
                obtain ⟨rfl, rfl, -⟩ := h1
                exact h2))
              clear HNC
              generalize NS[k] = at_ at *
              clear hkl
              have HSE := Lib.hid (fun (wx : World) (hx : Below w4.heap.size w4 wx) => (by
                have h9 := cSet_bad a2 c2 L2 at_ wx (HA2.out.below (HB24.out.trans (hx.mono HB24.out.size))) (by rw [HS2.out]; exact HROW.out)
                rw [HLL.out] at h9
                exact h9 : Calls Tryz.prog 20 #[.slice a2 nr c2, .int .i64 at_] wx (ElErr B0 1 wx)))
              unfold ElErr B0 at HSE
              simp only at HSE
              obtain ⟨k0, k1⟩ := HND.out wr hbk
              clear hbk
              go_upto_region 13 with (first
                | (go_at_call 20; refine (HSE.out wr HBK.out).mono ?_; rintro x5 w5 ⟨rfl, hb5⟩; have HB5 := Lib.hid (HBK.out.trans (hb5.mono HBK.out.size)); clear hb5 k0 k1)
                | fail)
              have hba := (Below.refl w5.heap.size w5).alloc (Nat.le_refl _) (.cells #[.int .i64 0, .int .i64 0, .int .i64 0] 37)
              have HBA := Lib.hid (HB5.out.trans (hba.mono HB5.out.size))
              have HQX := Lib.hid (heap_alloc_new w5 (.cells #[.int .i64 0, .int .i64 0, .int .i64 0] 37))
              clear hba
              generalize w5.alloc (.cells #[.int .i64 0, .int .i64 0, .int .i64 0] 37) = wa at *
              generalize w5.heap.size = bx at *
              go_upto_region 15 with fail
              have hba := (Below.refl wa.heap.size wa).alloc (Nat.le_refl _) (.cells #[.int .i64 0, .int .i64 0, .int .i64 0] 37)
              have hxl : bx < wa.heap.size := (Array.getElem?_eq_some_iff.1 HQX.out).1
              have HBB := Lib.hid (HBA.out.trans (hba.mono HBA.out.size))
              have HQX2 := Lib.hid ((hba.block bx hxl).trans HQX.out)
              have HQZ2 := Lib.hid (heap_alloc_new wa (.cells #[.int .i64 0, .int .i64 0, .int .i64 0] 37))
              have HXZ := Lib.hid (Nat.ne_of_lt hxl)
              clear hba hxl
              generalize wa.alloc (.cells #[.int .i64 0, .int .i64 0, .int .i64 0] 37) = wb at *
              generalize wa.heap.size = bz at *
              have HQXE := HQX2
              have HQZE := HQZ2
              have HBE := HBB.out
              obtain ⟨m0, m1, m2, mf, ml⟩ := cells3 HQXE.out
              obtain ⟨n0_, n1_, n2_, nf, nl⟩ := cells3 HQZE.out
              go_wp2_with (first
                | (go_at_call 22; refine (num11_same _ _).mono ?_; rintro xn wn ⟨rfl, hnn⟩; have hns := hnn.symm; clear hnn; subst hns)
                | fail)
              go_roundw
              case rel => exact ⟨k + 1, by go_num, by omega, by omega, HBE⟩
              case measure => simp [RowKit.intOf]; omega
            · skip
              clear hbk
              go_upto_region 10 with fail
              go_cut [59] (fun s wx => s = .bool false ∧ wr = wx)
              case first =>
                by_cases hk1 : k < nn
                · have hk2 : decide ((k : Int) < 12) = false := decide_eq_false (by omega)
                  have hki : (k : Int) < (nn : Int) := by omega
                  go_wp2_with fail
                  go_meet
                  exact ⟨rfl, rfl⟩
                · have hk2 : decide ((k : Int) < (nn : Int)) = false := decide_eq_false (by omega)
                  go_wp2_with fail
                  go_meet
                  exact ⟨rfl, rfl⟩
              case rest =>
                obtain ⟨rfl, rfl⟩ := hcut
                obtain ⟨q0, q1, q2, q3, ql, -⟩ := HXX.out wr (HV4.out.trans (HBK.out.mono HV4.out.size))
                have h9 := HEL5.out a2 c2 L2 wr (HW4.out.trans (HBK.out.mono HW4.out.size)) (HA2.out.below (HB24.out.trans (HBK.out.mono HB24.out.size))) HN2.out.1
                rw [HLL.out] at h9
                have HEL := Lib.hid h9
                clear h9
                unfold AnyPost OwnPost at HEL
                go_upto_region 23 with (first
                  | (go_at_call 23; refine HEL.out.mono ?_; rintro x9 w9 ⟨X, hX, v9, rfl, hown9, hb9⟩; obtain ⟨a9, c9, hv9, he9, -⟩ := elems_own hown9; subst hv9; have HE9 := Lib.hid he9; have HB9 := Lib.hid hb9; clear hown9 hb9 he9)
                  | fail)
                obtain ⟨nx, hnx⟩ : ∃ n, X.length = n := ⟨_, rfl⟩
                have HNX := Lib.hid hnx
                rw [hnx] at hX ⊢
                have HW9 := Lib.hid (HW4.out.trans ((HBK.out.trans (HB9.out.mono HBK.out.size)).mono HW4.out.size))
                have HV9 := Lib.hid (HV4.out.trans ((HBK.out.trans (HB9.out.mono HBK.out.size)).mono HV4.out.size))
                have HB29 := Lib.hid (HB24.out.trans ((HBK.out.trans (HB9.out.mono HBK.out.size)).mono HB24.out.size))
                clear hnx q0 q1 q2 q3 ql HEL
                go_wp2_with fail
                go_loopw [15] (fun s15 wr => ∃ k : Nat, s15 = .int .i64 k ∧ k ≤ nx ∧ Below w9.heap.size w9 wr) (fun s15 _ => nx - (RowKit.intOf s15).toNat)
                case atStart => exact ⟨0, rfl, Nat.zero_le _, Below.refl _ _⟩
                case round =>
                  clear HBK
                  obtain ⟨k, rfl, hk, hbk⟩ := hrel
                  have HBK := Lib.hid hbk
                  by_cases hkx : k < nx
                  · as_aux_lemma =>
                    have hkl : k < X.length := by rw [HNX.out]; exact hkx
                    have hd0 : decide ((k : Int) < (nx : Int)) = true := decide_eq_true (by omega)
                    have hki : (k : Int) < (nx : Int) := by omega
                    have hk0 : (0 : Int) ≤ (k : Int) := by omega
                    have hx50 : (nx : Int) ≤ 50 := by omega
                    have HXE := Lib.hid (fun (wx : World) (hx : Below w9.heap.size w9 wx) => (HE9.out.below hx).cell k hkl)
                    obtain ⟨b9, o9, h1, hb99, -⟩ := HXE.out w9 (Below.refl _ _)
                    subst h1
                    have HB99 := Lib.hid hb99
                    have HXD := Lib.hid (fun (wx : World) (hx : Below w9.heap.size w9 wx) => (by
                      obtain ⟨b2, o2, h1, h2⟩ := HXE.out wx hx
                      simp only [Option.some.injEq, Addr.mk.injEq] at h1
                      obtain ⟨rfl, rfl, -⟩ := h1
                      exact h2))
                    clear HXE hb99
                    generalize X[k] = e at *
                    clear hkl
                    have HPL := Lib.hid (fun (wx : World) (hx : Below w9.heap.size w9 wx) => (by
                      have h9 := cPlace_bad a2 c2 L2 e wx (HA2.out.below (HB29.out.trans (hx.mono HB29.out.size))) (by rw [HS2.out]; exact HROW.out)
                      rw [HLL.out] at h9
                      exact h9 : Calls Tryz.prog 24 #[.slice a2 nr c2, e.v] wx (PlcPost 0 1 wx)))
                    have HNE := Lib.hid (fun (wx : World) (hx : Below w9.heap.size w9 wx) => (by
                      have h9 := cNear_bad a2 c2 L2 e wx (HA2.out.below (HB29.out.trans (hx.mono HB29.out.size))) (by rw [HS2.out]; exact HROW.out)
                      rw [HLL.out] at h9
                      exact h9 : Calls Tryz.prog 25 #[.slice a2 nr c2, e.v] wx (ElErr B0 1 wx)))
                    unfold PlcPost at HPL
                    unfold ElErr B0 at HNE
                    obtain ⟨es, eq_, ei⟩ := e
                    unfold El.v at HPL HNE
                    simp only at HPL HNE HXD
                    obtain ⟨x0, x1, x2, x3⟩ := HXD.out wr hbk
                    clear hbk
                    go_upto_region 28 with (first
                      | (go_at_call 25; refine (HNE.out wy HBY.out).mono ?_; rintro x13 wz ⟨rfl, hbz⟩; have HBZ := Lib.hid (HBY.out.trans (hbz.mono HBY.out.size)); clear hbz y0 y1 y2 y3)
                      | (go_at_call 24; refine (HPL.out wr HBK.out).mono ?_; rintro x12 wy ⟨rfl, hby⟩; have HBY := Lib.hid (HBK.out.trans (hby.mono HBK.out.size)); obtain ⟨y0, y1, y2, y3⟩ := HXD.out wy HBY.out; clear hby x0 x1 x2 x3)
                      | fail)
                    have hba := (Below.refl wz.heap.size wz).alloc (Nat.le_refl _) (.cells #[.int .i64 0, .int .i64 0, .int .i64 0] 37)
                    have HBA := Lib.hid (HBZ.out.trans (hba.mono HBZ.out.size))
                    have HQX := Lib.hid (heap_alloc_new wz (.cells #[.int .i64 0, .int .i64 0, .int .i64 0] 37))
                    clear hba
                    generalize wz.alloc (.cells #[.int .i64 0, .int .i64 0, .int .i64 0] 37) = wa at *
                    generalize wz.heap.size = bx at *
                    go_upto_region 30 with fail
                    have hba := (Below.refl wa.heap.size wa).alloc (Nat.le_refl _) (.cells #[.int .i64 0, .int .i64 0, .int .i64 0] 37)
                    have hxl : bx < wa.heap.size := (Array.getElem?_eq_some_iff.1 HQX.out).1
                    have HBB := Lib.hid (HBA.out.trans (hba.mono HBA.out.size))
                    have HQX2 := Lib.hid ((hba.block bx hxl).trans HQX.out)
                    have HQZ2 := Lib.hid (heap_alloc_new wa (.cells #[.int .i64 0, .int .i64 0, .int .i64 0] 37))
                    have HXZ := Lib.hid (Nat.ne_of_lt hxl)
                    have HGZ := Lib.hid HBA.out.size
                    clear hba hxl
                    generalize wa.alloc (.cells #[.int .i64 0, .int .i64 0, .int .i64 0] 37) = wb at *
                    generalize wa.heap.size = bz at *
                    have HQXE := HQX2
                    have HQZE := HQZ2
                    have HBE := HBB.out
                    obtain ⟨m0, m1, m2, mf, ml⟩ := cells3 HQXE.out
                    obtain ⟨n0_, n1_, n2_, nf, nl⟩ := cells3 HQZE.out
                    go_wp2_with (first
                      | (go_at_call 22; refine (num11_same _ _).mono ?_; rintro xn wn ⟨rfl, hnn⟩; have hns := hnn.symm; clear hnn; subst hns)
                      | fail)
                    go_roundw
                    case rel => exact ⟨k + 1, by go_num, by omega, HBE⟩
                    case measure => simp [RowKit.intOf]; omega
                  · have hd0 : decide ((k : Int) < (nx : Int)) = false := decide_eq_false (by omega)
                    have h8 : ∀ r ∈ L2, r.o.gone.length ≤ 1000000 := fun r hr => by have h7 := (os_sz HS2.out (fun x hx => ⟨HTS.out x hx, HLG.out x hx⟩) r hr).2; omega
                    have h7 : L2.length ≤ 1000000 := by have := HLL.out; omega
                    have h9 := EqOps_yes a2 ra c2 rc L2 rl wr (HA2.out.below (HB29.out.trans (hbk.mono HB29.out.size))) (HOP.out wr (HW9.out.trans (hbk.mono HW9.out.size))) HS2.out h8 h7
                    rw [HLL.out, HNR.out] at h9
                    unfold BoB at h9
                    have HEQ := Lib.hid h9
                    clear h9 h8 h7
                    obtain ⟨q0, q1, q2, q3, ql, -⟩ := HXX.out wr (HV9.out.trans (hbk.mono HV9.out.size))
                    obtain ⟨cr0, hbr⟩ := HCW.out wr (HW9.out.trans (hbk.mono HW9.out.size))
                    clear hbk
                    go_wp2_with (first
                      | (go_at_call 29; refine HEQ.out.mono ?_; rintro x14 w14 ⟨rfl, hb14⟩; have HB14 := Lib.hid (HBK.out.trans (hb14.mono HBK.out.size)); clear hb14)
                      | fail)
                    go_roundw
                    case rel => exact ⟨i + 1, by go_num, by omega, HV9.out.trans (HB14.out.mono HV9.out.size)⟩
                    case measure => simp [RowKit.intOf]; omega
      · have hd4 : decide ((i : Int) < 4) = false := decide_eq_false h4
        go_wp2_with (first | (go_at_call 30; refine (HWK.out _).mono ?_; rintro x2 w2 ⟨rfl, hb2⟩; have HB2 := Lib.hid (HBW.out.trans (hb2.mono HBW.out.size)); clear hb2) | fail)
        go_ret
        exact ⟨rfl, HB2.out⟩
    · have hd4 : decide ((i : Int) < (n0 : Int)) = false := decide_eq_false (by omega)
      go_wp2_with (first | (go_at_call 30; refine (HWK.out _).mono ?_; rintro x2 w2 ⟨rfl, hb2⟩; have HB2 := Lib.hid (HBW.out.trans (hb2.mono HBW.out.size)); clear hb2) | fail)
      go_ret
      exact ⟨rfl, HB2.out⟩
end Go.Proofs.YthnedehihbploaaGreatDoor
