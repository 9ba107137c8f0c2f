/- CaretUndoes: the walk -/
import Derived.Test.YthnedehihbploaaGreatDoorCTog
import Derived.Test.YthnedehihbploaaGreatDoorYNear
import Derived.Test.YthnedehihbploaaGreatDoorVArgs
import Derived.Deep.DeepCutAuto
import Derived.Deep.CutBlock
import Derived.Lib.QuietBelow
import Derived.Deep.QuietTactic
import Derived.BigQuiet
import Derived.IntWalk
namespace Go.Proofs.YthnedehihbploaaGreatDoor
open Go.RowKit Go.Lib Go.Sort

set_option maxRecDepth 100000 in
set_option maxHeartbeats 32000000 in
theorem undoes_walk (p : AskD) (W : World) (h : AskAt W p) (hT : Tabs W) (hnone : p.ae = none → p.e.length = 0 ∧ p.ce = 0) : Calls Tryz.prog 7 #[p.v] W (BoB true W) := by
  have HHV := Lib.hid (fun wx (hx : Below W.heap.size W wx) => Heavy_light p wx (h.below hx))
  have HX := Lib.hid (BoxA.new W p)
  have hb0 : Below W.heap.size W (W.alloc p.obj) := (Below.refl _ _).alloc (Nat.le_refl _) _
  have HB0 := Lib.hid hb0
  have HRW := Lib.hid h.l
  have HTB := Lib.hid (fun wx (hx : Below W.heap.size W wx) => hT.next hx)
  have HEL5 := Lib.hid (fun a cap l wx (hx : Below W.heap.size W wx) => fun (ho : OpsAt wx a l) (hn9 : p.e.length ≤ 900) => Elems5_any p a cap l wx (h.e.below hx) hn9 hnone ho)
  have hl3 := h.l.len
  have HWK := Lib.hid wakes11_any
  clear h hb0 hT hnone
  unfold AskD.v at HHV HEL5 ⊢
  generalize hLP : Light p = LP at HHV
  have HLP := Lib.hid (show LP → Light p from fun h => by rw [hLP]; exact h)
  clear hLP
  unfold Light at HLP
  obtain ⟨lr, le, lo, ln, ar, ae, ao, an, cr, ce, co, cn⟩ := p
  unfold AskD.obj at HX HB0
  simp only at HHV HX HB0 HRW hl3 HLP HEL5 ⊢
  have hbi := big_is
  obtain ⟨n0, hn0⟩ : ∃ n, lr.length = n := ⟨_, rfl⟩
  have HL0 := Lib.hid hn0
  have h0a : (n0 : Int) ≤ 140737488351232 := by omega
  rw [hn0] at HHV HX HB0 HEL5 ⊢
  clear hl3 hbi hn0
  obtain ⟨n2, hn2⟩ : ∃ n, le.length = n := ⟨_, rfl⟩
  obtain ⟨n1, hn1⟩ : ∃ n, lo.length = n := ⟨_, rfl⟩
  obtain ⟨n3, hn3⟩ : ∃ n, ln.length = n := ⟨_, rfl⟩
  have HL2 := Lib.hid hn2
  have HL1 := Lib.hid hn1
  have HL3 := Lib.hid hn3
  rw [hn2, hn1, hn3] at HHV HX HB0 HEL5 ⊢
  clear hn1 hn2 hn3
  go_enter Tryz.func7, Tryz.ntmps7
  go_wp2_with (first | (go_at_call 8; refine (HHV.out _ HB0.out).mono ?_; rintro x1 w1 ⟨b1, rfl, hlp, hb1⟩; have HPP := Lib.hid hlp; have HB1 := Lib.hid (HB0.out.trans (hb1.mono HB0.out.size)); have HA1 := Lib.hid (HX.out.next hb1 HX.out.lt); clear hb1 hlp; cases b1) | fail)
  rotate_left
  · go_wp2_with fail
    go_ret
    exact ⟨rfl, HB1.out⟩
  have HLT := Lib.hid (HLP.out (HPP.out (by simp)))
  clear HLP HPP
  go_wp2_with fail
  clear HHV
  have HXX := Lib.hid (fun (wx : World) (hx : Below w1.heap.size w1 wx) => (by
    obtain ⟨g1, g2, g3, g4, g5⟩ := HA1.out.next hx HA1.out.lt
    simp only [HL0.out, HL2.out, HL1.out, HL3.out] at g2 g3 g4 g5
    exact ⟨g2, g3, g4, g5, g1, HB1.out.trans (hx.mono HB1.out.size)⟩ : wx.cell? ⟨W.heap.size, 0, none⟩ = some (.slice ar n0 cr) ∧ wx.cell? ⟨W.heap.size, 1, none⟩ = some (.slice ae n2 ce) ∧ wx.cell? ⟨W.heap.size, 2, none⟩ = some (.slice ao n1 co) ∧ wx.cell? ⟨W.heap.size, 3, none⟩ = some (.slice an n3 cn) ∧ W.heap.size < wx.heap.size ∧ Below W.heap.size W wx))
  clear HX HA1
  have HN2 := Lib.hid (show n2 ≤ 900 ∧ n3 ≤ 900 from ⟨by have := HLT.out.1; rw [HL2.out] at this; exact this, by have := HLT.out.2.1; rw [HL3.out] at this; exact this⟩)
  go_loopw [3] (fun s3 wr => ∃ i : Nat, s3 = .int .i64 i ∧ i ≤ n0 ∧ Below w1.heap.size w1 wr) (fun s3 _ => n0 - (RowKit.intOf s3).toNat)
  case atStart => exact ⟨0, rfl, Nat.zero_le _, Below.refl _ _⟩
  case round =>
    obtain ⟨i, rfl, hi, hb⟩ := hrel
    obtain ⟨q0, q1, q2, q3, ql, hbW⟩ := HXX.out _ hb
    have HB := Lib.hid hb
    have HBW := Lib.hid hbW
    by_cases hlt : i < n0
    · by_cases h4 : (i : Int) < 4
      · have hil : i < lr.length := by rw [HL0.out]; exact hlt
        obtain ⟨b, off, rfl, hbb, cW⟩ := HRW.out.cell i hil
        have hro := HRW.out.row i hil
        have hlr := light_row (HLT.out.2.2.2 i hil)
        generalize lr[i] = r at *
        clear hil
        obtain ⟨rl, ra, rc⟩ := r
        simp only at cW hro hlr
        have HOP := Lib.hid (fun (wx : World) (hx : Below W.heap.size W wx) => hro.1.below hx)
        have HRR := Lib.hid (fun (wx : World) (hx : Below W.heap.size W wx) => rRow_any ra rc rl wx (HTB.out _ hx) (fun r hr => by have := (hlr.2 r hr).1; omega) (hro.1.below hx) hro.2)
        have HCAP := Lib.hid hro.2
        obtain ⟨nr, hnr⟩ : ∃ n, rl.length = n := ⟨_, rfl⟩
        have HNR := Lib.hid hnr
        rw [hnr] at cW HRR
        have HCW := Lib.hid (fun (wx : World) (hx : Below W.heap.size W wx) => And.intro ((hx.cell (p := ⟨b, off + i, none⟩) hbb).trans cW) (Nat.lt_of_lt_of_le hbb hx.size))
        obtain ⟨cr0, hbr⟩ := HCW.out _ hbW
        have HLR := Lib.hid hlr.1
        clear hnr hro hb hbW cW hlr HRW
        by_cases hrow : rowP (OpR.os rl)
        · rw [show rowB (OpR.os rl) = true from (rowB_iff _).2 hrow] at HRR
          have HROW := Lib.hid hrow
          have hl40 : nr ≤ 40 := by have := hrow.1; rw [os_len, HNR.out] at this; exact this
          by_cases hz : nr = 0
          · subst hz
            clear q0 q1 q2 q3
            obtain ⟨q0, -⟩ := HXX.out _ HB.out
            clear hrow
            go_wp2_with (first | (go_at_call 19; refine (HRR.out wr HBW.out).mono ?_; rintro x2 w2 ⟨rfl, hb2⟩; have HB2 := Lib.hid (HB.out.trans (hb2.mono HB.out.size)); have HW2 := Lib.hid (HBW.out.trans (hb2.mono HBW.out.size)); clear hb2) | fail)
            go_roundw
            case rel => exact ⟨i + 1, by go_num, by omega, HB2.out⟩
            case measure => simp [RowKit.intOf]; omega
          · have hn3 := HN2.out.2
            have hmd : ((i : Int) + (n3 : Int)).tmod (nr : Int) = (((i + n3) % nr : Nat) : Int) := by
              rw [show ((i : Int) + (n3 : Int)) = ((i + n3 : Nat) : Int) from by omega, Int.tmod_eq_emod_of_nonneg (by omega)]
              rfl
            have hjn : (i + n3) % nr < nr := Nat.mod_lt _ (by omega)
            generalize (i + n3) % nr = j at *
            have hjl : j < rl.length := by rw [HNR.out]; exact hjn
            have hnz : ¬ ((nr : Int) = 0) := by omega
            have hnz2 : ¬ nr = 0 := hz
            have hnz3 : ((nr : Int) == 0) = false := by simp; omega
            have hw1 : IntKind.i64.wrap ((i : Int) + (n3 : Int)) = (i : Int) + (n3 : Int) := by rw [IntKind.wrap_i64]; omega
            have hw2 : IntKind.i64.wrap (j : Int) = (j : Int) := by rw [IntKind.wrap_i64]; omega
            have hji : (j : Int) < (nr : Int) := by omega
            have hj0 : (0 : Int) ≤ (j : Int) := by omega
            have hn3i : (n3 : Int) ≤ 900 := by omega
            have hi4 : (i : Int) ≤ 4 := by omega
            have hl40i : (nr : Int) ≤ 40 := by omega
            have HJC := Lib.hid (fun (wx : World) (hx : Below W.heap.size W wx) => (HOP.out wx hx).cells j hjl)
            generalize rl[j] = oj at *
            obtain ⟨⟨os_, oq, ok, ⟨ox, oy, oz⟩, ot, og, of_, om, on_⟩, oa, oc⟩ := oj
            simp only at HJC
            obtain ⟨jb, jo, hjra, -⟩ := HJC.out W (Below.refl _ _)
            subst hjra
            have HJD := Lib.hid (fun (wx : World) (hx : Below W.heap.size W wx) => (by
              obtain ⟨b2, o2, h1, h2⟩ := HJC.out wx hx
              simp only [Option.some.injEq, Addr.mk.injEq] at h1
              obtain ⟨rfl, rfl, -⟩ := h1
              exact h2))
            clear hjl hz hrow HJC
            have HTG := Lib.hid (fun (wx : World) (hx : Below W.heap.size W wx) => (by
              have h9 := rToggle_is (some ⟨jb, jo, none⟩) rc rl 1 os_ oq wx (HTB.out wx hx) (HOP.out wx hx) HROW.out
              rw [HNR.out] at h9
              exact h9 : Calls Tryz.prog 35 #[.slice (some ⟨jb, jo, none⟩) nr rc, .int .i64 1, .int .i64 os_, .int .i64 oq] wx (TogX (OpR.os rl) 1 os_ oq wx)))
            unfold TogX at HTG
            go_upto_region 9 with (first | (go_at_call 19; refine (HRR.out wr HBW.out).mono ?_; rintro x2 w2 ⟨rfl, hb2⟩; have HB2 := Lib.hid (HB.out.trans (hb2.mono HB.out.size)); have HW2 := Lib.hid (HBW.out.trans (hb2.mono HBW.out.size)); obtain ⟨r0, r1, r2, r3, rl2, -⟩ := HXX.out _ HB2.out; clear q0 q1 q2 q3 ql; obtain ⟨jl, j0, j1, j2, j3, j4, j5, j6, j7, j8, j9, ja⟩ := HJD.out _ HW2.out; clear hb2) | fail)
            have hba := (Below.refl w2.heap.size w2).alloc (Nat.le_refl _) (.cells #[.int .i64 os_, .int .i64 oq, .int .i64 ok, .int .i64 ox, .int .i64 oy, .int .i64 oz, .string ot, .slice oa og.length oc, .int .i64 of_, .int .i64 om, .int .i64 on_] 39)
            have hq5 := heap_alloc_new w2 (.cells #[.int .i64 os_, .int .i64 oq, .int .i64 ok, .int .i64 ox, .int .i64 oy, .int .i64 oz, .string ot, .slice oa og.length oc, .int .i64 of_, .int .i64 om, .int .i64 on_] 39)
            have HBa := Lib.hid (HW2.out.trans (hba.mono HW2.out.size))
            have HBa1 := Lib.hid (HB2.out.trans (hba.mono HB2.out.size))
            clear hba jl j0 j1 j2 j3 j4 j5 j6 j7 j8 j9 ja r0 r1 r2 r3 rl2
            generalize w2.alloc (.cells #[.int .i64 os_, .int .i64 oq, .int .i64 ok, .int .i64 ox, .int .i64 oy, .int .i64 oz, .string ot, .slice oa og.length oc, .int .i64 of_, .int .i64 om, .int .i64 on_] 39) = wa at *
            generalize w2.heap.size = b5 at *
            have HT5 := Lib.hid (fun (wx : World) (hx : Below wa.heap.size wa wx) => (by
              obtain ⟨k0, k1, k2, k3, k4, k5, k6, k7, k8, k9, ka, kf, kl⟩ := cCells11P hq5
              exact ⟨(hx.cell (p := ⟨b5, 0, none⟩) kl).trans k0, (hx.cell (p := ⟨b5, 1, none⟩) kl).trans k1, Nat.lt_of_lt_of_le kl hx.size⟩ : wx.cell? ⟨b5, 0, none⟩ = some (.int .i64 os_) ∧ wx.cell? ⟨b5, 1, none⟩ = some (.int .i64 oq) ∧ b5 < wx.heap.size))
            obtain ⟨g0, g1, g2⟩ := HT5.out wa (Below.refl _ _)
            clear hq5
            go_upto_region 10 with (first
              | (go_at_call 35; refine (HTG.out wa HBa.out).mono ?_; rintro x3 w3 ⟨ts, tq, tk, tf, tn, tg, er, rfl, hok, hb3⟩; have HOK := Lib.hid hok; have HB3 := Lib.hid hb3; clear hok hb3)
              | fail)
            have hbt := HB3.out.trans (((Below.refl w3.heap.size w3).alloc (Nat.le_refl _) (.cells #[.int .i64 ts, .int .i64 tq, .int .i64 tk, .int .i64 0, .int .i64 0, .int .i64 0, .string ⟨#[]⟩, .slice none 0 0, .int .i64 tf, .int .i64 tn, .int .i64 tg] 39)).mono HB3.out.size)
            have HB4 := Lib.hid hbt
            have hq6 := heap_alloc_new w3 (.cells #[.int .i64 ts, .int .i64 tq, .int .i64 tk, .int .i64 0, .int .i64 0, .int .i64 0, .string ⟨#[]⟩, .slice none 0 0, .int .i64 tf, .int .i64 tn, .int .i64 tg] 39)
            clear g0 g1 g2 hbt
            generalize w3.alloc (.cells #[.int .i64 ts, .int .i64 tq, .int .i64 tk, .int .i64 0, .int .i64 0, .int .i64 0, .string ⟨#[]⟩, .slice none 0 0, .int .i64 tf, .int .i64 tn, .int .i64 tg] 39) = w4 at *
            generalize w3.heap.size = b6 at *
            by_cases her : er = 0
            · subst her
              obtain ⟨e1, e2, e3, e4, e5, e6, hr1⟩ := HOK.out rfl
              subst e1
              subst e3
              have e4s := e4.symm; clear e4; subst e4s
              have e5s := e5.symm; clear e5; subst e5s
              rw [← e2, ← e6] at hr1
              have HR1 := Lib.hid hr1
              have HE2 := Lib.hid e2
              have HE6 := Lib.hid e6
              have HBH := Lib.hid (fun (wx : World) (hx : Below W.heap.size W wx) => (by
                have h9 := cRBehind_o (some ⟨jb, jo, none⟩) rc rl (togD 1 tq os_ oq tg) none 0 wx (HOP.out wx hx) HROW.out (ElemsAt.nil none) (Nat.zero_le _) (Nat.zero_le _)
                rw [HNR.out] at h9
                exact h9 : Calls Tryz.prog 34 #[.slice (some ⟨jb, jo, none⟩) nr rc, .agg #[.int .i64 1, .int .i64 tq, .int .i64 2, .int .i64 0, .int .i64 0, .int .i64 0, .string ⟨#[]⟩, .slice none 0 0, .int .i64 os_, .int .i64 oq, .int .i64 tg]] wx (cBehO (nr + 1) (OpR.os rl ++ [togD 1 tq os_ oq tg]) wx)))
              unfold cBehO at HBH
              have HW4 := Lib.hid (HBa.out.trans (HB4.out.mono HBa.out.size))
              obtain ⟨k0, k1, k2, k3, k4, k5, k6, k7, k8, k9, ka, kf, kl⟩ := cCells11P hq6
              clear e2 e6 hr1 hq6
              go_upto_region 12 with (first
                | (go_at_call 34; refine (HBH.out w4 HW4.out).mono ?_; rintro x5 w5 ⟨a5, c5, L5, rfl, hl5, hc5, hops5, hos5, hb5⟩; have HL5 := Lib.hid hl5; have HC5 := Lib.hid hc5; have HO5 := Lib.hid hops5; have HS5 := Lib.hid hos5; have HB5 := Lib.hid (HB4.out.trans (hb5.mono HB4.out.size)); clear hl5 hc5 hops5 hos5 hb5 k0 k1 k2 k3 k4 k5 k6 k7 k8 k9 ka kf kl)
                | fail)
              have HW5 := Lib.hid (HBa.out.trans (HB5.out.mono HBa.out.size))
              have HTG2 := Lib.hid (fun (wx : World) (hx : Below w5.heap.size w5 wx) => (by
                have h9 := rToggle_is a5 c5 L5 2 os_ oq wx (HTB.out wx (HW5.out.trans (hx.mono HW5.out.size))) (HO5.out.below hx) (by rw [HS5.out]; exact HR1.out)
                rw [HL5.out, HS5.out] at h9
                exact h9 : Calls Tryz.prog 35 #[.slice a5 (nr + 1) c5, .int .i64 2, .int .i64 os_, .int .i64 oq] wx (TogX (OpR.os rl ++ [togD 1 tq os_ oq tg]) 2 os_ oq wx)))
              unfold TogX at HTG2
              obtain ⟨g0, g1, g2⟩ := HT5.out w5 HB5.out
              go_upto_region 13 with (first
                | (go_at_call 35; refine (HTG2.out w5 (Below.refl _ _)).mono ?_; rintro x6 w6 ⟨us, uq, uk, uf, un, ug, er, rfl, hok2, hb6⟩; have HOK2 := Lib.hid hok2; have HB6 := Lib.hid hb6; clear hok2 hb6)
                | fail)
              have hbt := HB6.out.trans (((Below.refl w6.heap.size w6).alloc (Nat.le_refl _) (.cells #[.int .i64 us, .int .i64 uq, .int .i64 uk, .int .i64 0, .int .i64 0, .int .i64 0, .string ⟨#[]⟩, .slice none 0 0, .int .i64 uf, .int .i64 un, .int .i64 ug] 39)).mono HB6.out.size)
              have HB7 := Lib.hid hbt
              have hq7 := heap_alloc_new w6 (.cells #[.int .i64 us, .int .i64 uq, .int .i64 uk, .int .i64 0, .int .i64 0, .int .i64 0, .string ⟨#[]⟩, .slice none 0 0, .int .i64 uf, .int .i64 un, .int .i64 ug] 39)
              clear g0 g1 g2 hbt
              generalize w6.alloc (.cells #[.int .i64 us, .int .i64 uq, .int .i64 uk, .int .i64 0, .int .i64 0, .int .i64 0, .string ⟨#[]⟩, .slice none 0 0, .int .i64 uf, .int .i64 un, .int .i64 ug] 39) = w7 at *
              generalize w6.heap.size = b7 at *
              by_cases her : er = 0
              · subst her
                obtain ⟨e1, e2, e3, e4, e5, e6, hr2⟩ := HOK2.out rfl
                subst e1
                subst e3
                have e4s := e4.symm; clear e4; subst e4s
                have e5s := e5.symm; clear e5; subst e5s
                rw [← e2, ← e6] at hr2
                have HR2 := Lib.hid hr2
                have HPL := Lib.hid (fun (e : El) => (by
                  have h9 := tw_pl (OpR.os rl) 1 2 tq uq os_ oq e
                  rw [← HE6.out, ← e6] at h9
                  exact h9 : plN (OpR.os rl ++ [togD 1 tq os_ oq tg] ++ [togD 2 uq os_ oq ug]) e = plN (OpR.os rl) e ∧ plR (OpR.os rl ++ [togD 1 tq os_ oq tg] ++ [togD 2 uq os_ oq ug]) e = plR (OpR.os rl) e))
                have HBH2 := Lib.hid (fun (wx : World) (hx : Below w5.heap.size w5 wx) => (by
                  have h9 := cRBehind_o a5 c5 L5 (togD 2 uq os_ oq ug) none 0 wx (HO5.out.below hx) (by rw [HS5.out]; exact HR1.out) (ElemsAt.nil none) (Nat.zero_le _) (Nat.zero_le _)
                  rw [HL5.out, HS5.out] at h9
                  exact h9 : Calls Tryz.prog 34 #[.slice a5 (nr + 1) c5, .agg #[.int .i64 2, .int .i64 uq, .int .i64 2, .int .i64 0, .int .i64 0, .int .i64 0, .string ⟨#[]⟩, .slice none 0 0, .int .i64 os_, .int .i64 oq, .int .i64 ug]] wx (cBehO (nr + 1 + 1) (OpR.os rl ++ [togD 1 tq os_ oq tg] ++ [togD 2 uq os_ oq ug]) wx)))
                unfold cBehO at HBH2
                obtain ⟨k0, k1, k2, k3, k4, k5, k6, k7, k8, k9, ka, kf, kl⟩ := cCells11P hq7
                clear e2 e6 hr2 hq7
                go_upto_region 15 with (first
                  | (go_at_call 34; refine (HBH2.out w7 HB7.out).mono ?_; rintro x8 w8 ⟨a8, c8, L8, rfl, hl8, hc8, hops8, hos8, hb8⟩; have HL8 := Lib.hid hl8; have HO8 := Lib.hid hops8; have HS8 := Lib.hid hos8; have HB8 := Lib.hid (HB7.out.trans (hb8.mono HB7.out.size)); clear hl8 hc8 hops8 hos8 hb8 k0 k1 k2 k3 k4 k5 k6 k7 k8 k9 ka kf kl)
                  | fail)
                have HW8 := Lib.hid (HW5.out.trans (HB8.out.mono HW5.out.size))
                have HV8 := Lib.hid (HBa1.out.trans ((HB5.out.trans (HB8.out.mono HB5.out.size)).mono HBa1.out.size))
                have h9 := HEL5.out (some ⟨jb, jo, none⟩) rc rl w8 HW8.out (HOP.out w8 HW8.out) HN2.out.1
                rw [HNR.out] at h9
                have HEL := Lib.hid h9
                clear h9
                unfold AnyPost OwnPost at HEL
                obtain ⟨r0, r1, r2, r3, rl2, -⟩ := HXX.out _ HV8.out
                go_upto_region 16 with (first
                  | (go_at_call 23; refine HEL.out.mono ?_; rintro x9 w9 ⟨X, hX, v9, rfl, hown9, hb9⟩; obtain ⟨a9, c9, hv9, he9, -⟩ := elems_own hown9; subst hv9; have HE9 := Lib.hid he9; have HB9 := Lib.hid hb9; clear hown9 hb9 he9)
                  | fail)
                obtain ⟨nx, hnx⟩ : ∃ n, X.length = n := ⟨_, rfl⟩
                have HNX := Lib.hid hnx
                rw [hnx] at hX ⊢
                have HV9 := Lib.hid (HV8.out.trans (HB9.out.mono HV8.out.size))
                have HW9 := Lib.hid (HW8.out.trans (HB9.out.mono HW8.out.size))
                clear hnx r0 r1 r2 r3 rl2 HEL
                go_wp2_with fail
                go_loopw [12] (fun s12 wr => ∃ k : Nat, s12 = .int .i64 k ∧ k ≤ nx ∧ Below w9.heap.size w9 wr) (fun s12 _ => nx - (RowKit.intOf s12).toNat)
                case atStart => exact ⟨0, rfl, Nat.zero_le _, Below.refl _ _⟩
                case round =>
                  obtain ⟨k, rfl, hk, hbk⟩ := hrel
                  have HBK := Lib.hid hbk
                  by_cases hkx : k < nx
                  · have hkl : k < X.length := by rw [HNX.out]; exact hkx
                    have hd0 : decide ((k : Int) < (nx : Int)) = true := decide_eq_true (by omega)
                    have hki : (k : Int) < (nx : Int) := by omega
                    have hk0 : (0 : Int) ≤ (k : Int) := by omega
                    have HXE := Lib.hid (fun (wx : World) (hx : Below w9.heap.size w9 wx) => (HE9.out.below hx).cell k hkl)
                    obtain ⟨b9, o9, h1, -⟩ := HXE.out w9 (Below.refl _ _)
                    subst h1
                    have HP1 := Lib.hid (fun (wx : World) (hx : Below w9.heap.size w9 wx) => (by
                      have h9 := cPlace_ok (some ⟨jb, jo, none⟩) rc rl X[k] wx (HOP.out wx (HW9.out.trans (hx.mono HW9.out.size))) HROW.out
                      rw [HNR.out] at h9
                      exact h9 : Calls Tryz.prog 24 #[.slice (some ⟨jb, jo, none⟩) nr rc, X[k].v] wx (PlcPost (plN (OpR.os rl) X[k]) (plR (OpR.os rl) X[k]) wx)))
                    have HP2 := Lib.hid (fun (wx : World) (hx : Below w9.heap.size w9 wx) => (by
                      have h9 := cPlace_ok a8 c8 L8 X[k] wx (HO8.out.below (HB9.out.trans (hx.mono HB9.out.size))) (by rw [HS8.out]; exact HR2.out)
                      rw [HL8.out, HS8.out, (HPL.out X[k]).1, (HPL.out X[k]).2] at h9
                      exact h9 : Calls Tryz.prog 24 #[.slice a8 (nr + 1 + 1) c8, X[k].v] wx (PlcPost (plN (OpR.os rl) X[k]) (plR (OpR.os rl) X[k]) wx)))
                    have HXD := Lib.hid (fun (wx : World) (hx : Below w9.heap.size w9 wx) => (by
                      obtain ⟨b2, o2, h1, h2⟩ := HXE.out wx hx
                      simp only [Option.some.injEq, Addr.mk.injEq] at h1
                      obtain ⟨rfl, rfl, -⟩ := h1
                      exact h2))
                    clear HXE
                    generalize plN (OpR.os rl) X[k] = pn at *
                    generalize plR (OpR.os rl) X[k] = pr at *
                    generalize X[k] = e at *
                    obtain ⟨es, eq_, ei⟩ := e
                    unfold PlcPost El.v at HP1 HP2
                    simp only at HP1 HP2 HXD
                    obtain ⟨x0, x1, x2, x3⟩ := HXD.out wr hbk
                    clear hbk hkl
                    go_wp2_with (first
                      | (go_at_call_has 24 (Value.slice a8 (nr + 1 + 1) c8); refine (HP2.out wy HBY.out).mono ?_; rintro x13 wz ⟨rfl, hbz⟩; have HBZ := Lib.hid (HBY.out.trans (hbz.mono HBY.out.size)); clear hbz y0 y1 y2 y3)
                      | (go_at_call_has 24 (Value.slice (some ⟨jb, jo, none⟩) nr rc); refine (HP1.out wr HBK.out).mono ?_; rintro x12 wy ⟨rfl, hby⟩; have HBY := Lib.hid (HBK.out.trans (hby.mono HBK.out.size)); obtain ⟨y0, y1, y2, y3⟩ := HXD.out wy HBY.out; clear hby x0 x1 x2 x3)
                      | (go_at_call 22; refine (num11_same _ _).mono ?_; rintro xn wn ⟨rfl, hnn⟩; have hns := hnn.symm; clear hnn; subst hns)
                      | fail)
                    go_roundw
                    case rel => exact ⟨k + 1, by go_num, by omega, HBZ.out⟩
                    case measure => simp [RowKit.intOf]; omega
                  · have hd0 : decide ((k : Int) < (nx : Int)) = false := decide_eq_false (by omega)
                    clear hbk
                    go_wp2_with fail
                    go_roundw
                    case rel => exact ⟨i + 1, by go_num, by omega, HV9.out.trans (HBK.out.mono HV9.out.size)⟩
                    case measure => simp [RowKit.intOf]; omega
              · have her2 : (er == 0) = false := by simp; exact her
                have her3 : (er != 0) = true := by simp; exact her
                clear hq7
                go_wp2_with fail
                go_roundw
                case rel => exact ⟨i + 1, by go_num, by omega, HBa1.out.trans ((HB5.out.trans (HB7.out.mono HB5.out.size)).mono HBa1.out.size)⟩
                case measure => simp [RowKit.intOf]; omega
            · have her2 : (er == 0) = false := by simp; exact her
              have her3 : (er != 0) = true := by simp; exact her
              clear hq6
              go_wp2_with fail
              go_roundw
              case rel => exact ⟨i + 1, by go_num, by omega, HBa1.out.trans (HB4.out.mono HBa1.out.size)⟩
              case measure => simp [RowKit.intOf]; omega
        · rw [show rowB (OpR.os rl) = false from rowB_no hrow] at HRR
          clear hrow
          go_wp2_with (first | (go_at_call 19; refine (HRR.out wr HBW.out).mono ?_; rintro x2 w2 ⟨rfl, hb2⟩; have HB2 := Lib.hid (HB.out.trans (hb2.mono HB.out.size)); have HW2 := Lib.hid (HBW.out.trans (hb2.mono HBW.out.size)); clear hb2) | fail)
          go_roundw
          case rel => exact ⟨i + 1, by go_num, by omega, HB2.out⟩
          case measure => simp [RowKit.intOf]; omega
      · have hd4 : decide ((i : Int) < 4) = false := decide_eq_false h4
        go_wp2_with (first | (go_at_call 30; refine (HWK.out _).mono ?_; rintro x2 w2 ⟨rfl, hb2⟩; have HB2 := Lib.hid (HBW.out.trans (hb2.mono HBW.out.size)); clear hb2) | fail)
        go_ret
        exact ⟨rfl, HB2.out⟩
    · have hd4 : decide ((i : Int) < (n0 : Int)) = false := decide_eq_false (by omega)
      go_wp2_with (first | (go_at_call 30; refine (HWK.out _).mono ?_; rintro x2 w2 ⟨rfl, hb2⟩; have HB2 := Lib.hid (HBW.out.trans (hb2.mono HBW.out.size)); clear hb2) | fail)
      go_ret
      exact ⟨rfl, HB2.out⟩
end Go.Proofs.YthnedehihbploaaGreatDoor
