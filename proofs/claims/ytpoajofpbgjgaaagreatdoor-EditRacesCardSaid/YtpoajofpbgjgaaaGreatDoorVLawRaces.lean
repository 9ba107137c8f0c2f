/- EditRaces: the walk -/
import Derived.Test.YtpoajofpbgjgaaaGreatDoorERc
import Derived.Test.YtpoajofpbgjgaaaGreatDoorEPure
import Derived.Test.YtpoajofpbgjgaaaGreatDoorYNear
import Derived.Deep.DeepCutAuto
import Derived.Deep.CutBlock
import Derived.IntWalk
namespace Go.Proofs.YtpoajofpbgjgaaaGreatDoor
open Go.RowKit Go.Lib Go.Sort

set_option maxRecDepth 100000 in
set_option maxHeartbeats 32000000 in
theorem editRaces_walk (p : AskD) (W : World) (h : AskAt W p) (hT : Tabs W) : Calls Tryz.prog 3 #[p.v] W (BoB true W) := by
  have HHV := Lib.hid (fun wx (hx : Below W.heap.size W wx) => Heavy_light p wx (h.below hx))
  have HX := Lib.hid (BoxA.new W p)
  have hb0 : Below W.heap.size W (W.alloc p.obj) := (Below.refl _ _).alloc (Nat.le_refl _) _
  have HB0 := Lib.hid hb0
  have HRW := Lib.hid h.l
  have hl3 := h.l.len
  have HWK := Lib.hid wakes7_any
  have HTB := Lib.hid (fun wx (hx : Below W.heap.size W wx) => hT.next hx)
  clear h hb0 hT
  unfold AskD.v at HHV ⊢
  generalize hLP : Light p = LP at HHV
  have HLP := Lib.hid (show LP → Light p from fun h => by rw [hLP]; exact h)
  clear hLP
  unfold Light at HLP
  obtain ⟨lr, le, lo, ln, ar, ae, ao, an, cr, ce, co, cn⟩ := p
  unfold AskD.obj at HX HB0
  simp only at HHV HX HB0 HRW hl3 HLP ⊢
  have hbi := big_is
  obtain ⟨n0, hn0⟩ : ∃ n, lr.length = n := ⟨_, rfl⟩
  have HL0 := Lib.hid hn0
  have h0a : (n0 : Int) ≤ 140737488351232 := by omega
  rw [hn0] at HHV HX HB0 ⊢
  clear hl3 hbi hn0
  generalize hn2 : le.length = n2 at *
  generalize hn1 : lo.length = n1 at *
  generalize hn3 : ln.length = n3 at *
  have HL2 := Lib.hid hn2
  have HL1 := Lib.hid hn1
  have HL3 := Lib.hid hn3
  clear hn1 hn2 hn3
  go_enter Tryz.func3, Tryz.ntmps3
  go_wp2_with (first | (go_at_call 4; refine (HHV.out _ HB0.out).mono ?_; rintro x1 w1 ⟨b1, rfl, hlp, hb1⟩; have HPP := Lib.hid hlp; have HB1 := Lib.hid (HB0.out.trans (hb1.mono HB0.out.size)); have HA1 := Lib.hid (HX.out.next hb1 HX.out.lt); clear hb1 hlp; cases b1) | fail)
  rotate_left
  · go_wp2_with fail
    go_ret
    exact ⟨rfl, HB1.out⟩
  have HLT := Lib.hid (HLP.out (HPP.out (by simp)))
  clear HLP HPP
  go_wp2_with fail
  clear HHV
  have HXX := Lib.hid (fun (wx : World) (hx : Below w1.heap.size w1 wx) => And.intro ((hx.cell (p := ⟨W.heap.size, 0, none⟩) HA1.out.lt).trans HA1.out.c0) (And.intro ((hx.cell (p := ⟨W.heap.size, 1, none⟩) HA1.out.lt).trans HA1.out.c1) (And.intro ((hx.cell (p := ⟨W.heap.size, 2, none⟩) HA1.out.lt).trans HA1.out.c2) (And.intro ((hx.cell (p := ⟨W.heap.size, 3, none⟩) HA1.out.lt).trans HA1.out.c3) (And.intro (Nat.lt_of_lt_of_le HA1.out.lt hx.size) (HB1.out.trans (hx.mono HB1.out.size)))))))
  simp only [HL0.out, HL1.out, HL2.out, HL3.out] at HXX
  go_loopw [3] (fun s3 wr => ∃ i : Nat, s3 = .int .i64 i ∧ i ≤ n0 ∧ Below w1.heap.size w1 wr) (fun s3 _ => n0 - (RowKit.intOf s3).toNat)
  case atStart => exact ⟨0, rfl, Nat.zero_le _, Below.refl _ _⟩
  case round =>
    obtain ⟨i, rfl, hi, hb⟩ := hrel
    obtain ⟨q0, q1, q2, q3, hq0, hbW⟩ := HXX.out _ hb
    have HB := Lib.hid hb
    have HBW := Lib.hid hbW
    by_cases hlt : i < n0
    · by_cases h4 : (i : Int) < 4
      · have hil : i < lr.length := by rw [HL0.out]; exact hlt
        obtain ⟨b, off, rfl, hbb, cW⟩ := HRW.out.cell i hil
        have hro := HRW.out.row i hil
        have hlr := light_row (HLT.out.2.2.2 i hil)
        generalize lr[i] = r at *
        clear hil
        obtain ⟨rl, ra, rc⟩ := r
        simp only at cW hro hlr
        have HSZ := Lib.hid (show ∀ q ∈ OpR.os rl, q.text.size ≤ 60000 from fun q hq => by
          obtain ⟨r2, h2, h3⟩ := List.mem_map.1 hq
          rw [← h3]
          have := (hlr.2 r2 h2).1
          omega)
        have HRO := Lib.hid (fun (wx : World) (hx : Below W.heap.size W wx) => hro.1.below hx)
        have HGN := Lib.hid (show ∀ L : List OpR, OpR.os L = OpR.os rl → ∀ r ∈ L, r.o.gone.length ≤ 1000000 from fun L hL r hr => by
          have h1 : r.o ∈ OpR.os rl := by rw [← hL]; exact List.mem_map_of_mem hr
          obtain ⟨r2, h2, h3⟩ := List.mem_map.1 h1
          rw [← h3]
          have := (hlr.2 r2 h2).2
          omega)
        obtain ⟨nr, hnr⟩ : ∃ n, rl.length = n := ⟨_, rfl⟩
        have HNR := Lib.hid hnr
        have HCAP : RowKit.Hid (nr ≤ rc) := Lib.hid (by rw [← hnr]; exact hro.2)
        rw [hnr] at cW
        have HCW := Lib.hid (fun (wx : World) (hx : Below W.heap.size W wx) => And.intro ((hx.cell (p := ⟨b, off + i, none⟩) hbb).trans cW) (Nat.lt_of_lt_of_le hbb hx.size))
        obtain ⟨cr0, hbr⟩ := HCW.out _ hbW
        clear hnr hro hb hbW cW HRW hlr
        have HRR := Lib.hid (fun (wx : World) (hx : Below W.heap.size W wx) => row_is (c := rc) wx (HTB.out _ hx) (HRO.out _ hx) HNR.out rfl HCAP.out HSZ.out (rowB (OpR.os rl)) rfl)
        have HDL := Lib.hid (show (OpR.os rl).length = nr from by rw [olen]; exact HNR.out)
        by_cases hrow : rowP (OpR.os rl)
        · as_aux_lemma =>
          -- @G
          rw [show rowB (OpR.os rl) = true from (rowB_iff _).2 hrow] at HRR
          have HROW := Lib.hid hrow
          have hv200 := visE_le hrow.2
          have HVS := Lib.hid (fun (wx : World) (hx : Below W.heap.size W wx) => rVis_any _ rc rl wx (HTB.out _ hx) (fun r hr => HSZ.out r.o (List.mem_map_of_mem hr)) (HRO.out _ hx) hrow)
          have HGD := Lib.hid (gone_ok_row hrow.2)
          unfold OwnPost at HVS
          rw [HNR.out] at HVS
          generalize hD : OpR.os rl = D at *
          obtain ⟨nv, hnv⟩ : ∃ n, (visE D).length = n := ⟨_, rfl⟩
          have HNV := Lib.hid hnv
          rw [hnv] at hv200
          have HD := Lib.hid hD
          unfold BoB at HRR
          clear hrow hnv hD
          go_wp2_with (first
            | (go_at_call 5; refine (HRR.out wr HBW.out).mono ?_; rintro x4 w4 ⟨rfl, hb4⟩; have HB4 := Lib.hid (HB.out.trans (hb4.mono HB.out.size)); have HBW4 := Lib.hid (HBW.out.trans (hb4.mono HBW.out.size)); clear hb4)
            | (go_at_call 6; refine (HVS.out w4 HBW4.out).mono ?_; rintro x5 w5 ⟨v5, rfl, hown5, hb5⟩; obtain ⟨va, vc, hv5, _⟩ := elems_own hown5; rw [HNV.out] at hv5; subst hv5; have HB5 := Lib.hid (HB4.out.trans (hb5.mono HB4.out.size)); have HBW5 := Lib.hid (HBW4.out.trans (hb5.mono HBW4.out.size)); clear hown5 hb5)
            | fail)
          clear cr0 hbr q0 q1 q2 q3 hq0 HRR HVS
          go_loopw [6] (fun s6 wr => ∃ k : Nat, s6 = .int .i64 k ∧ k ≤ 6 ∧ Below w5.heap.size w5 wr) (fun s6 _ => 6 - (RowKit.intOf s6).toNat)
          case atStart => exact ⟨0, rfl, Nat.zero_le _, Below.refl _ _⟩
          case round =>
            obtain ⟨k, rfl, hk, hbk⟩ := hrel
            have HBK := Lib.hid hbk
            have HBWK := Lib.hid (HBW5.out.trans (hbk.mono HBW5.out.size))
            clear hbk
            by_cases hk6 : (k : Int) < 6
            · as_aux_lemma =>
              -- @K
              have hd6 : decide ((k : Int) < 6) = true := decide_eq_true hk6
              obtain ⟨at1, hm1, hat1⟩ : ∃ m : Nat, ((k : Int) * 3 + (i : Int)).tmod ((nv : Int) + 1) = (m : Int) ∧ m ≤ nv := ⟨(k * 3 + i) % (nv + 1), by rw [show (k : Int) * 3 + (i : Int) = ((k * 3 + i : Nat) : Int) from by omega]; exact mod_nv _ _, by have := Nat.mod_lt (k * 3 + i) (show 0 < nv + 1 from by omega); omega⟩
              obtain ⟨at2, hm2, hat2⟩ : ∃ m : Nat, ((k : Int) * 5).tmod ((nv : Int) + 1) = (m : Int) ∧ m ≤ nv := ⟨(k * 5) % (nv + 1), by rw [show (k : Int) * 5 = ((k * 5 : Nat) : Int) from by omega]; exact mod_nv _ _, by have := Nat.mod_lt (k * 5) (show 0 < nv + 1 from by omega); omega⟩
              obtain ⟨nk, hm3, hnk⟩ : ∃ m : Nat, ((k : Int)).tmod 2 = (m : Int) ∧ m ≤ 1 := ⟨k % 2, by rw [Int.tmod_eq_emod_of_nonneg (by omega)]; rfl, by omega⟩
              have hv0 : ¬ ((nv : Int) + 1 = 0) := by omega
              have hv2 : (nv : Int) ≤ 200 := by omega
              go_upto_if 61 with fail
              go_cut [8] (fun s8 wx => ∃ n : Nat, s8 = .int .i64 n ∧ n ≤ 1 ∧ n ≤ nv - at1 ∧ wr = wx)
              case first =>
                by_cases hlv : at1 < nv
                · have hd1 : decide ((at1 : Int) < (nv : Int)) = true := decide_eq_true (by omega)
                  have hlv2 : (at1 : Int) < (nv : Int) := by omega
                  go_wp2_with fail
                  go_meet
                  exact ⟨nk, by go_num, hnk, by omega, rfl⟩
                · have hd1 : decide ((at1 : Int) < (nv : Int)) = false := decide_eq_false (by omega)
                  have hlv2 : ¬ (at1 : Int) < (nv : Int) := by omega
                  go_wp2_with fail
                  go_meet
                  exact ⟨0, by first | rfl | go_num, by omega, by omega, rfl⟩
              case rest =>
                -- @M
                obtain ⟨n, rfl, hn1, hnv1, hwr⟩ := hcut
                subst hwr
                clear hm1 hm3 hnk
                obtain ⟨A, hA⟩ : ∃ o, repOp D 1 at1 n ⟨#[112, 113]⟩ = o := ⟨_, rfl⟩
                obtain ⟨B, hB⟩ : ∃ o, repOp D 2 at2 0 ⟨#[114, 115]⟩ = o := ⟨_, rfl⟩
                obtain ⟨ba, hba⟩ : ∃ b, rowB (D ++ [A]) = b := ⟨_, rfl⟩
                obtain ⟨bb, hbb⟩ : ∃ b, rowB (D ++ [B]) = b := ⟨_, rfl⟩
                have HA := Lib.hid hA
                have HBo := Lib.hid hB
                have HBA := Lib.hid hba
                have HBB := Lib.hid hbb
                have hra := rep_gives wr (HRO.out _ HBWK.out) HNR.out HD.out HCAP.out HROW.out HNV.out (site := 1) ⟨by omega, by omega⟩ pq_ok (by show 2 ≤ 60000; omega) (by rw [pq_rc]; omega) hat1 hnv1 hn1 (two_ne _ _) ba (by rw [hA]; exact hba)
                rw [hA] at hra
                have HRA := Lib.hid hra
                have HRB := Lib.hid (fun (wx : World) (hx : Below W.heap.size W wx) => rep_gives wx (HRO.out _ hx) HNR.out HD.out HCAP.out HROW.out HNV.out (site := 2) ⟨by omega, by omega⟩ rs_ok (by show 2 ≤ 60000; omega) (by rw [rs_rc]; omega) hat2 (Nat.zero_le _) (Nat.zero_le _) (two_ne _ _) bb (by rw [hB]; exact hbb))
                rw [hB] at HRB
                clear hra hA hB hba hbb
                unfold OpD.v at HRA HRB
                go_upto_region 15 with fail
                refine rc_r15 wr (Lib.hid (gone_keeps (pick ba A))) HRA ?_
                clear HRA
                intro v64 v65 v66 v67 v68 v69 v70 b9 ga gca w6 hq9 hl9 hga hb6
                have HQ9 := Lib.hid hq9
                have HGA := Lib.hid hga
                have HB6 := Lib.hid (HBK.out.trans (hb6.mono HBK.out.size))
                have HBW6 := Lib.hid (HBWK.out.trans (hb6.mono HBWK.out.size))
                clear hq9 hga hb6 hl9
                go_upto_region 16 with fail
                refine rc_r16 w6 (Lib.hid (gone_keeps (pick bb B))) (Lib.hid (HRB.out w6 HBW6.out)) hm2 (by omega) hv2 hv0 ?_
                clear HRB hm2
                intro v71 v72 v73 v74 v75 v76 v77 v78 v79 v80 v81 b11 gb gcb w7 hq11 hl11 hgb hb7
                have HQ11 := Lib.hid hq11
                have HGB := Lib.hid hgb
                have HB67 := Lib.hid hb7
                have HB7 := Lib.hid (HB6.out.trans (hb7.mono HB6.out.size))
                have HBW7 := Lib.hid (HBW6.out.trans (hb7.mono HBW6.out.size))
                clear hq11 hgb hb7 hl11
                cases ba
                · as_aux_lemma =>
                  -- @F
                  unfold errF
                  simp only [Bool.false_eq_true, if_false]
                  go_wp2_with (first
                    | (go_at_call 8; refine (num7_same _ _).mono ?_; rintro xn wn ⟨rfl, hnn⟩; have hns := hnn.symm; clear hnn; subst hns)
                    | fail)
                  go_roundw
                  case rel => exact ⟨k + 1, by go_num, by omega, HB7.out⟩
                  case measure => simp [RowKit.intOf]; omega
                  -- @F end
                · cases bb
                  · as_aux_lemma =>
                    -- @H
                    unfold errF
                    simp only [Bool.false_eq_true, if_false, if_true]
                    go_wp2_with (first
                      | (go_at_call 8; refine (num7_same _ _).mono ?_; rintro xn wn ⟨rfl, hnn⟩; have hns := hnn.symm; clear hnn; subst hns)
                      | fail)
                    go_roundw
                    case rel => exact ⟨k + 1, by go_num, by omega, HB7.out⟩
                    case measure => simp [RowKit.intOf]; omega
                    -- @H end
                  · as_aux_lemma =>
                    -- @Y
                    have hpA : pick true A = A := rfl
                    have hpB : pick true B = B := rfl
                    rw [hpA] at HQ9 HGA
                    rw [hpB] at HQ11 HGB
                    have hAg : A.gone = ((visE D).drop at1).take n := by rw [← HA.out]; rfl
                    have hBg : B.gone = [] := by rw [← HBo.out]; show ((visE D).drop at2).take 0 = []; rw [List.take_zero]
                    have hAl : A.gone.length = n := by rw [hAg, List.length_take, List.length_drop, HNV.out]; omega
                    have hAt : A.text = ⟨#[112, 113]⟩ := by rw [← HA.out]; rfl
                    have hBt : B.text = ⟨#[114, 115]⟩ := by rw [← HBo.out]; rfl
                    have hAk : A.kind = 1 := by rw [← HA.out]; rfl
                    have hBk : B.kind = 1 := by rw [← HBo.out]; rfl
                    have hAn : nR A.text = 2 := by rw [hAt]; exact pq_nR
                    have hBn : nR B.text = 2 := by rw [hBt]; exact rs_nR
                    have hAz : A.text.size = 2 := by rw [hAt]; rfl
                    have hBz : B.text.size = 2 := by rw [hBt]; rfl
                    have hl9 : b9 < w6.heap.size := (Array.getElem?_eq_some_iff.1 HQ9.out).1
                    have hl97 : b9 < w7.heap.size := Nat.lt_of_lt_of_le hl9 HB67.out.size
                    have hl11 : b11 < w7.heap.size := (Array.getElem?_eq_some_iff.1 HQ11.out).1
                    have HC9 := Lib.hid (fun (wx : World) (hx : Below w7.heap.size w7 wx) => cells11c ((hx.block b9 hl97).trans ((HB67.out.block b9 hl9).trans HQ9.out)))
                    have HC11 := Lib.hid (fun (wx : World) (hx : Below w7.heap.size w7 wx) => cells11c ((hx.block b11 hl11).trans HQ11.out))
                    have HGA7 := Lib.hid (fun (wx : World) (hx : Below w7.heap.size w7 wx) => (show ElemsAt wx ga A.gone from ((show ElemsAt w6 ga A.gone from HGA.out).below HB67.out).below hx))
                    have HGB7 := Lib.hid (fun (wx : World) (hx : Below w7.heap.size w7 wx) => (show ElemsAt wx gb B.gone from (show ElemsAt w7 gb B.gone from HGB.out).below hx))
                    have HWX := Lib.hid (fun (wx : World) (hx : Below w7.heap.size w7 wx) => HBW7.out.trans (hx.mono HBW7.out.size))
                    have hglA : A.gone.length ≤ 1000000 := by omega
                    have hglB : B.gone.length ≤ 1000000 := by rw [hBg]; exact Nat.zero_le _
                    have htsA : A.text.size ≤ BIG := by rw [hAz]; unfold BIG; omega
                    have htsB : B.text.size ≤ BIG := by rw [hBz]; unfold BIG; omega
                    have HGDA := Lib.hid (show ∀ q ∈ D ++ [A], q.gone.length ≤ 1000000 from fun q hq => by
                      rcases List.mem_append.1 hq with hq | hq
                      · exact HGD.out q hq
                      · rw [List.mem_singleton.1 hq]; exact hglA)
                    have HGDB := Lib.hid (show ∀ q ∈ D ++ [B], q.gone.length ≤ 1000000 from fun q hq => by
                      rcases List.mem_append.1 hq with hq | hq
                      · exact HGD.out q hq
                      · rw [List.mem_singleton.1 hq]; exact hglB)
                    have HSZX := Lib.hid (show ∀ q ∈ D ++ [A] ++ [B], q.text.size ≤ 60000 from fun q hq => by
                      rcases List.mem_append.1 hq with hq | hq
                      · rcases List.mem_append.1 hq with hq | hq
                        · exact HSZ.out q hq
                        · rw [List.mem_singleton.1 hq]; omega
                      · rw [List.mem_singleton.1 hq]; omega)
                    have HSZY := Lib.hid (show ∀ q ∈ D ++ [B] ++ [A], q.text.size ≤ 60000 from fun q hq => by
                      rcases List.mem_append.1 hq with hq | hq
                      · rcases List.mem_append.1 hq with hq | hq
                        · exact HSZ.out q hq
                        · rw [List.mem_singleton.1 hq]; omega
                      · rw [List.mem_singleton.1 hq]; omega)
                    have H1 := Lib.hid (fun (wx : World) (hx : Below w7.heap.size w7 wx) => beh_gives (cap := rc) (oc := gca) wx (HRO.out wx (HWX.out wx hx)) HNR.out HD.out (by have h8 := HROW.out.1; have h9 := HDL.out; omega) HGD.out (HGA7.out wx hx) hglA htsA)
                    have H3 := Lib.hid (fun (wx : World) (hx : Below w7.heap.size w7 wx) => beh_gives (cap := rc) (oc := gcb) wx (HRO.out wx (HWX.out wx hx)) HNR.out HD.out (by have h8 := HROW.out.1; have h9 := HDL.out; omega) HGD.out (HGB7.out wx hx) hglB htsB)
                    have H2 := Lib.hid (fun v (wx : World) (hr : BehR (nr + 1) (D ++ [A]) v wx) (hx : Below w7.heap.size w7 wx) => beh_more (oc := gcb) wx v hr (by have h8 := HROW.out.1; have h9 := HDL.out; omega) HGDA.out (HGB7.out wx hx) hglB htsB)
                    have H4 := Lib.hid (fun v (wx : World) (hr : BehR (nr + 1) (D ++ [B]) v wx) (hx : Below w7.heap.size w7 wx) => beh_more (oc := gca) wx v hr (by have h8 := HROW.out.1; have h9 := HDL.out; omega) HGDB.out (HGA7.out wx hx) hglA htsA)
                    unfold OpD.v at H1 H2 H3 H4
                    unfold errF
                    simp only [if_true]
                    go_upto_region 18 with (first
                      | (go_at_call 8; refine (num7_same _ _).mono ?_; rintro xn wn ⟨rfl, hnn⟩; have hns := hnn.symm; clear hnn; subst hns)
                      | fail)
                    refine rc_r18 w7 HC9 HC11 hl97 hl11 (Lib.hid (beh_keeps _ _)) (Lib.hid (beh_keeps _ _)) (Lib.hid (beh_keeps _ _)) H1 H2 H3 H4 ?_
                    clear H1 H2 H3 H4
                    intro v90 v91 v92 v93 v94 v95 v96 v97 v98 v99 x2 x4 w8 r2 r4 hb8
                    obtain ⟨a13, c13, L13, rfl, hops13, hl13, hos13, hc13⟩ := r2
                    obtain ⟨a14, c14, L14, rfl, hops14, hl14, hos14, hc14⟩ := r4
                    have HB78 := Lib.hid hb8
                    have HB8 := Lib.hid (HB7.out.trans (hb8.mono HB7.out.size))
                    have HBW8 := Lib.hid (HBW7.out.trans (hb8.mono HBW7.out.size))
                    have HO13 := Lib.hid (fun (wx : World) (hx : Below w8.heap.size w8 wx) => hops13.below hx)
                    have HO14 := Lib.hid (fun (wx : World) (hx : Below w8.heap.size w8 wx) => hops14.below hx)
                    have HL13 := Lib.hid hl13
                    have HL14 := Lib.hid hl14
                    have HS13 := Lib.hid hos13
                    have HS14 := Lib.hid hos14
                    have HC13 := Lib.hid hc13
                    have HC14 := Lib.hid hc14
                    have HTW := Lib.hid (fun (wx : World) (hx : Below w8.heap.size w8 wx) => HTB.out wx (HBW8.out.trans (hx.mono HBW8.out.size)))
                    clear hops13 hops14 hl13 hl14 hos13 hos14 hc13 hc14 hb8
                    obtain ⟨bx, hbx⟩ : ∃ b, rowB (D ++ [A] ++ [B]) = b := ⟨_, rfl⟩
                    obtain ⟨bY, hbY⟩ : ∃ b, rowB (D ++ [B] ++ [A]) = b := ⟨_, rfl⟩
                    have HBX := Lib.hid hbx
                    have HBY := Lib.hid hbY
                    have HR13 := Lib.hid (fun (wx : World) (hx : Below w8.heap.size w8 wx) => row_is (c := c13) wx (HTW.out wx hx) (HO13.out wx hx) HL13.out HS13.out HC13.out HSZX.out bx hbx)
                    have HR14 := Lib.hid (fun (wx : World) (hx : Below w8.heap.size w8 wx) => row_is (c := c14) wx (HTW.out wx hx) (HO14.out wx hx) HL14.out HS14.out HC14.out HSZY.out bY hbY)
                    unfold BoB at HR13 HR14
                    clear hbx hbY
                    by_cases hgood : bx = true ∧ bY = true
                    · as_aux_lemma =>
                      -- @Z
                      obtain ⟨rfl, rfl⟩ := hgood
                      have hrx := (rowB_iff _).1 HBX.out
                      have hry := (rowB_iff _).1 HBY.out
                      have htB := (eRow_snoc (eRow_snoc hry.2).1).2
                      have htA := (eRow_snoc (eRow_snoc hrx.2).1).2
                      have hga1 : A.gone = [] ∨ ∃ g, A.gone = [g] ∧ g ∈ visE D := by
                        have h0 : n = 0 ∨ n = 1 := by omega
                        rcases h0 with h0 | h0
                        · left; rw [hAg, h0, List.take_zero]
                        · right
                          have hlt : at1 < (visE D).length := by rw [HNV.out]; omega
                          refine ⟨(visE D)[at1], ?_, List.getElem_mem hlt⟩
                          rw [hAg, h0, List.drop_eq_getElem_cons hlt]
                          rfl
                      obtain ⟨hlx, hly⟩ := race_len hrx.2 hry.2 hAk hBk hAn hBn hBg hga1
                      obtain ⟨⟨hxa0, hxa1⟩, ⟨hxb0, hxb1⟩⟩ := race_at hrx.2 htB hAk hBk hAn hBn
                      obtain ⟨⟨hyb0, hyb1⟩, ⟨hya0, hya1⟩⟩ := race_at hry.2 htA hBk hAk hBn hAn
                      rw [hAl, HNV.out] at hlx hly
                      obtain ⟨nx, hnx⟩ : ∃ x, (visE (D ++ [A] ++ [B])).length = x := ⟨_, rfl⟩
                      have hny : (visE (D ++ [B] ++ [A])).length = nx := by omega
                      have HNX := Lib.hid hnx
                      have HNY := Lib.hid hny
                      have hnx1 : nx + n = nv + 4 := by omega
                      have hnxi : (nx : Int) = (nv : Int) - (n : Int) + 4 := by omega
                      have hnx9 : nx ≤ 1000 := by omega
                      have HV13 := Lib.hid (fun (wx : World) (hx : Below w8.heap.size w8 wx) => vis_is (c := c13) wx (HO13.out wx hx) HL13.out HS13.out hrx hnx)
                      have HV14 := Lib.hid (fun (wx : World) (hx : Below w8.heap.size w8 wx) => vis_is (c := c14) wx (HO14.out wx hx) HL14.out HS14.out hry hny)
                      have HFA := Lib.hid (And.intro (And.intro hxa0 hxa1) (And.intro hya0 hya1))
                      have HFB := Lib.hid (And.intro (And.intro hxb0 hxb1) (And.intro hyb0 hyb1))
                      clear hrx hry htA htB hga1 hlx hly hxa0 hxa1 hxb0 hxb1 hyb0 hyb1 hya0 hya1 hnx hny HGDA HGDB HSZX HSZY
                      go_upto_region 22 with (first
                        | (go_at_call_has 10 (Value.slice a13 (nr + 1 + 1) c13); refine (HV13.out w8 (Below.refl _ _)).mono ?_; rintro x9 w9 ⟨sa, sc, rfl, hel9, hb9⟩; have HE9 := Lib.hid hel9; have HB9 := Lib.hid hb9; clear hel9 hb9)
                        | (go_at_call_has 10 (Value.slice a14 (nr + 1 + 1) c14); refine (HV14.out w9 HB9.out).mono ?_; rintro x10 w10 ⟨ta, tc, rfl, hel10, hb10⟩; have HE9' := Lib.hid (HE9.out.below hb10); have HE10 := Lib.hid hel10; have HB10 := Lib.hid (HB9.out.trans (hb10.mono HB9.out.size)); clear hel10 hb10)
                        | (go_at_call_has 5 (Value.slice a13 (nr + 1 + 1) c13); refine (HR13.out w10 HB10.out).mono ?_; rintro x11 w11 ⟨rfl, hb11⟩; have HB1011 := Lib.hid hb11; have HB11 := Lib.hid (HB10.out.trans (hb11.mono HB10.out.size)); clear hb11)
                        | (go_at_call_has 5 (Value.slice a14 (nr + 1 + 1) c14); refine (HR14.out w11 HB11.out).mono ?_; rintro x12 w12 ⟨rfl, hb12⟩; have HB1012 := Lib.hid (HB1011.out.trans (hb12.mono HB1011.out.size)); have HB12 := Lib.hid (HB11.out.trans (hb12.mono HB11.out.size)); clear hb12)
                        | fail)
                      have hdn : decide ((nx : Int) = (nv : Int) - (n : Int) + 4) = true := decide_eq_true hnxi
                      go_upto_region 24 with (first
                        | (go_at_call 8; refine (num7_same _ _).mono ?_; rintro xn wn ⟨rfl, hnn⟩; have hns := hnn.symm; clear hnn; subst hns)
                        | fail)
                      -- @U
                      have HB712 := Lib.hid (HB78.out.trans (HB12.out.mono HB78.out.size))
                      have HEX := Lib.hid (fun (wx : World) (hx : Below w12.heap.size w12 wx) => (HE9'.out.below HB1012.out).below hx)
                      have HEY := Lib.hid (fun (wx : World) (hx : Below w12.heap.size w12 wx) => (HE10.out.below HB1012.out).below hx)
                      have H1 := Lib.hid (fun (wx : World) (hx : Below w12.heap.size w12 wx) => els_gives (o := A) (oa := ga) (oc := gca) wx (HTW.out wx (HB12.out.trans (hx.mono HB12.out.size))) (by omega) hAn)
                      have H2 := Lib.hid (fun (wx : World) (hx : Below w12.heap.size w12 wx) => els_gives (o := B) (oa := gb) (oc := gcb) wx (HTW.out wx (HB12.out.trans (hx.mono HB12.out.size))) (by omega) hBn)
                      unfold OpD.v at H1 H2
                      have HC9' := Lib.hid (fun (wx : World) (hx : Below w12.heap.size w12 wx) => HC9.out wx (HB712.out.trans (hx.mono HB712.out.size)))
                      have HC11' := Lib.hid (fun (wx : World) (hx : Below w12.heap.size w12 wx) => HC11.out wx (HB712.out.trans (hx.mono HB712.out.size)))
                      refine rc_r24 w12 HC9' HC11' (Nat.lt_of_lt_of_le hl97 HB712.out.size) (Nat.lt_of_lt_of_le hl11 HB712.out.size) (Lib.hid (els_keeps _ _)) (Lib.hid (els_keeps _ _)) H1 H2 ?_
                      clear H1 H2 HC9' HC11'
                      intro v143 v144 v145 v146 v147 x1 y1 x2 y2 b19 w13 hq19 hl19 r1 r2 hb13
                      have HB1213 := Lib.hid hb13
                      have HB13 := Lib.hid (HB12.out.trans (hb13.mono HB12.out.size))
                      obtain ⟨ge, oe, rfl, hge, e0, e1, e2, e3, e4, e5⟩ := r1
                      obtain ⟨gf, of', rfl, hgf, f0, f1, f2, f3, f4, f5⟩ := r2
                      have hz0 : w13.cell? ⟨b19, 0, none⟩ = some (.slice (some ⟨ge, oe, none⟩) 2 y1) := by simp [World.cell?, hq19]
                      have hz1 : w13.cell? ⟨b19, 1, none⟩ = some (.slice (some ⟨gf, of', none⟩) 2 y2) := by simp [World.cell?, hq19]
                      have hzl : b19 < w13.heap.size := (Array.getElem?_eq_some_iff.1 hq19).1
                      have HDA := Lib.hid (fun (wx : World) (hx : Below w13.heap.size w13 wx) => And.intro ((hx.cell (p := ⟨b19, 0, none⟩) hzl).trans hz0) (And.intro ((hx.cell (p := ⟨ge, oe, none⟩) hge).trans e0) (And.intro ((hx.cell (p := ⟨ge, oe + 1, none⟩) hge).trans e1) (And.intro ((hx.cell (p := ⟨ge, oe + 2, none⟩) hge).trans e2) (And.intro ((hx.cell (p := ⟨ge, oe + 3, none⟩) hge).trans e3) (And.intro ((hx.cell (p := ⟨ge, oe + 4, none⟩) hge).trans e4) (And.intro ((hx.cell (p := ⟨ge, oe + 5, none⟩) hge).trans e5) (And.intro (Nat.lt_of_lt_of_le hzl hx.size) (Nat.lt_of_lt_of_le hge hx.size)))))))))
                      have HDB := Lib.hid (fun (wx : World) (hx : Below w13.heap.size w13 wx) => And.intro ((hx.cell (p := ⟨b19, 1, none⟩) hzl).trans hz1) (And.intro ((hx.cell (p := ⟨gf, of', none⟩) hgf).trans f0) (And.intro ((hx.cell (p := ⟨gf, of' + 1, none⟩) hgf).trans f1) (And.intro ((hx.cell (p := ⟨gf, of' + 2, none⟩) hgf).trans f2) (And.intro ((hx.cell (p := ⟨gf, of' + 3, none⟩) hgf).trans f3) (And.intro ((hx.cell (p := ⟨gf, of' + 4, none⟩) hgf).trans f4) (And.intro ((hx.cell (p := ⟨gf, of' + 5, none⟩) hgf).trans f5) (And.intro (Nat.lt_of_lt_of_le hzl hx.size) (Nat.lt_of_lt_of_le hgf hx.size)))))))))
                      clear hq19 hl19 hge hgf e0 e1 e2 e3 e4 e5 f0 f1 f2 f3 f4 f5 hz0 hz1 hzl hb13
                      clear hAg hBg hAl hAt hBt hAk hBk hAn hBn hAz hBz hglA hglB htsA htsB hdn hnxi hnx1 hv0 hv2 hl9 hl97 hl11 hpA hpB
                      have HOWN := Lib.hid (show ∀ q, q < 2 → OwnAt sa nx sc ta nx tc b19 q w13 from fun q hq => by
                        rcases (show q = 0 ∨ q = 1 by omega) with rfl | rfl
                        · exact race_own w13 HDA.out (fun wx hx => HEX.out wx (HB1213.out.trans (hx.mono HB1213.out.size))) (fun wx hx => HEY.out wx (HB1213.out.trans (hx.mono HB1213.out.size))) HNX.out HNY.out hnx9 HFA.out
                        · exact race_own w13 HDB.out (fun wx hx => HEX.out wx (HB1213.out.trans (hx.mono HB1213.out.size))) (fun wx hx => HEY.out wx (HB1213.out.trans (hx.mono HB1213.out.size))) HNX.out HNY.out hnx9 HFB.out)
                      clear HDA HDB HFA HFB HEX HEY
                      go_upto_block 4 with fail
                      refine rc_b4 w13 HOWN ?_
                      clear HOWN
                      intro v2 v20 v21 v22 v148 v149 v150 v151 v152 v153 v154 v155 v156 v157 v158 v159 v160 v161 v162 v163 v164 v165 v166 v167 v168 v169 v170 v171 v172 v173 v174 v175 v176 v177 v178 v179 v180 v181 v182 v183 v184 v185 v186 v187 v188 v189 v190 v191 v192 v193 v194 v195 v196 v197 v198 v199 w15 hb15
                      have HB15 := Lib.hid (HB8.out.trans ((HB13.out.trans (hb15.mono HB13.out.size)).mono HB8.out.size))
                      clear hb15
                      go_upto_region 11 with fail
                      refine rc_r11 (k := k) (by omega) w15 ?_
                      intro v48 v49 v6 hv6
                      subst hv6
                      dsimp only
                      go_big_round
                      go_roundw
                      case rel => exact ⟨k + 1, rfl, by omega, HB15.out⟩
                      case measure => simp [RowKit.intOf]; omega
                      -- @U end
                      -- @Z end
                    · as_aux_lemma =>
                      -- @V
                      have HV13 := Lib.hid (fun (wx : World) (hx : Below w8.heap.size w8 wx) => vis_some (c := c13) wx (HO13.out wx hx) HL13.out)
                      have HV14 := Lib.hid (fun (wx : World) (hx : Below w8.heap.size w8 wx) => vis_some (c := c14) wx (HO14.out wx hx) HL14.out)
                      have hcase : bx = false ∨ (bx = true ∧ bY = false) := by
                        cases bx
                        · exact .inl rfl
                        · cases bY
                          · exact .inr ⟨rfl, rfl⟩
                          · exact absurd ⟨rfl, rfl⟩ hgood
                      rcases hcase with rfl | ⟨rfl, rfl⟩
                      all_goals
                        go_wp2_with (first
                          | (go_at_call_has 10 (Value.slice a13 (nr + 1 + 1) c13); refine (HV13.out w8 (Below.refl _ _)).mono ?_; rintro x9 w9 ⟨sa, ns, sc, er9, rfl, hb9⟩; have HB9 := Lib.hid hb9; clear hb9)
                          | (go_at_call_has 10 (Value.slice a14 (nr + 1 + 1) c14); refine (HV14.out w9 HB9.out).mono ?_; rintro x10 w10 ⟨ta, nt, tc, er10, rfl, hb10⟩; have HB10 := Lib.hid (HB9.out.trans (hb10.mono HB9.out.size)); clear hb10)
                          | (go_at_call_has 5 (Value.slice a13 (nr + 1 + 1) c13); refine (HR13.out w10 HB10.out).mono ?_; rintro x11 w11 ⟨rfl, hb11⟩; have HB11 := Lib.hid (HB10.out.trans (hb11.mono HB10.out.size)); clear hb11)
                          | (go_at_call_has 5 (Value.slice a14 (nr + 1 + 1) c14); refine (HR14.out w11 HB11.out).mono ?_; rintro x12 w12 ⟨rfl, hb12⟩; have HB11 := Lib.hid (HB11.out.trans (hb12.mono HB11.out.size)); clear hb12)
                          | fail)
                        go_roundw
                        case rel => exact ⟨k + 1, by go_num, by omega, HB8.out.trans (HB11.out.mono HB8.out.size)⟩
                        case measure => simp [RowKit.intOf]; omega
                      -- @V end
                    -- @Y end
                -- @M end
              -- @K end
            · as_aux_lemma =>
              have hd6 : decide ((k : Int) < 6) = false := decide_eq_false hk6
              go_wp2_with fail
              go_roundw
              case rel => exact ⟨i + 1, by go_num, by omega, HB5.out.trans (HBK.out.mono HB5.out.size)⟩
              case measure => simp [RowKit.intOf]; omega
          -- @G end
        · as_aux_lemma =>
          -- @B
          rw [show rowB (OpR.os rl) = false from by cases h : rowB (OpR.os rl) with | false => rfl | true => exact absurd ((rowB_iff _).1 h) hrow] at HRR
          unfold BoB at HRR
          clear hrow
          go_wp2_with (first
            | (go_at_call 5; refine (HRR.out wr HBW.out).mono ?_; rintro x4 w4 ⟨rfl, hb4⟩; have HB4 := Lib.hid (HB.out.trans (hb4.mono HB.out.size)); clear hb4)
            | fail)
          go_roundw
          case rel => exact ⟨i + 1, by go_num, by omega, HB4.out⟩
          case measure => simp [RowKit.intOf]; omega
          -- @B end
      · have hd4 : decide ((i : Int) < 4) = false := decide_eq_false h4
        go_wp2_with (first | (go_at_call 13; refine (HWK.out _).mono ?_; rintro x2 w2 ⟨rfl, hb2⟩; have HB2 := Lib.hid (HBW.out.trans (hb2.mono HBW.out.size)); clear hb2) | fail)
        go_ret
        exact ⟨rfl, HB2.out⟩
    · have hd4 : decide ((i : Int) < (n0 : Int)) = false := decide_eq_false (by omega)
      go_wp2_with (first | (go_at_call 13; refine (HWK.out _).mono ?_; rintro x2 w2 ⟨rfl, hb2⟩; have HB2 := Lib.hid (HBW.out.trans (hb2.mono HBW.out.size)); clear hb2) | fail)
      go_ret
      exact ⟨rfl, HB2.out⟩
end Go.Proofs.YtpoajofpbgjgaaaGreatDoor
