/- DocToggles: the walk (begun, not built yet: see NOTES item 15) -/
import Derived.Test.YtbhfokpakljfoaaDIdle
import Derived.Test.YtbhfokpakljfoaaDTog
import Derived.Test.YtbhfokpakljfoaaDTogS
import Derived.Test.YtbhfokpakljfoaaYNear
import Derived.Test.YtbhfokpakljfoaaVEq
import Derived.Deep.DeepCutAuto
import Derived.Deep.CutBlock
import Derived.Deep.AppendLies
import Derived.Deep.RegionHeld3
import Derived.Lib.QuietBelow
import Derived.Deep.QuietTactic
import Derived.BigQuiet
import Derived.IntWalk
namespace Go.Proofs.Ytbhfokpakljfoaa
open Go.RowKit Go.Lib Go.Sort

theorem row_name_fit6 {l : List OpR} (h : rowP (OpR.os l)) {k : Nat} (hk : k < l.length) : (⟨l[k].o.site, l[k].o.seq, 0⟩ : El).fit := by
  have := okOp_name (row_ok h.2 l[k].o (List.mem_map_of_mem (List.getElem_mem hk)))
  unfold El.fit in64
  simp only
  omega
theorem mod8 (i k : Nat) : ((i : Int) + (k : Int)).tmod 8 = (((i + k) % 8 : Nat) : Int) := by
  rw [show ((i : Int) + (k : Int)) = ((i + k : Nat) : Int) from by omega, Int.tmod_eq_emod_of_nonneg (by omega)]
  rfl
theorem mod3 (k : Nat) : ((k : Int)).tmod 3 = ((k % 3 : Nat) : Int) := by
  rw [Int.tmod_eq_emod_of_nonneg (by omega)]
  rfl
set_option maxRecDepth 100000 in
set_option maxHeartbeats 32000000 in
theorem docToggles_walk (p : AskD) (W : World) (h : AskAt W p) : Calls Try.prog 3 #[p.v] W (BoB true W) := by
  have HHV := Lib.hid (fun wx (hx : Below W.heap.size W wx) => Heavy_light p wx (h.below hx))
  have HX := Lib.hid (BoxA.new W p)
  have hb0 : Below W.heap.size W (W.alloc p.obj) := (Below.refl _ _).alloc (Nat.le_refl _) _
  have HB0 := Lib.hid hb0
  have HRW := Lib.hid h.l
  have hl3 := h.l.len
  have HWK := Lib.hid wakes6_any
  clear h hb0
  unfold AskD.v at HHV ⊢
  generalize hLP : Light p = LP at HHV
  have HLP := Lib.hid (show LP → Light p from fun h => by rw [hLP]; exact h)
  clear hLP
  unfold Light at HLP
  obtain ⟨lr, le, lo, ln, ar, ae, ao, an, cr, ce, co, cn⟩ := p
  unfold AskD.obj at HX HB0
  simp only at HHV HX HB0 HRW hl3 HLP ⊢
  have hbi := big_is
  obtain ⟨n0, hn0⟩ : ∃ n, lr.length = n := ⟨_, rfl⟩
  have HL0 := Lib.hid hn0
  have h0a : (n0 : Int) ≤ 140737488351232 := by omega
  rw [hn0] at HHV HX HB0 ⊢
  clear hl3 hbi hn0
  generalize hn2 : le.length = n2 at *
  generalize hn1 : lo.length = n1 at *
  generalize hn3 : ln.length = n3 at *
  have HL2 := Lib.hid hn2
  have HL1 := Lib.hid hn1
  have HL3 := Lib.hid hn3
  clear hn1 hn2 hn3
  go_enter Try.func3, Try.ntmps3
  go_wp2_with (first | (go_at_call 4; refine (HHV.out _ HB0.out).mono ?_; rintro x1 w1 ⟨b1, rfl, hlp, hb1⟩; have HPP := Lib.hid hlp; have HB1 := Lib.hid (HB0.out.trans (hb1.mono HB0.out.size)); have HA1 := Lib.hid (HX.out.next hb1 HX.out.lt); clear hb1 hlp; cases b1) | fail)
  rotate_left
  · go_wp2_with fail
    go_ret
    exact ⟨rfl, HB1.out⟩
  have HLT := Lib.hid (HLP.out (HPP.out (by simp)))
  clear HLP HPP
  go_wp2_with fail
  clear HHV
  have HXX := Lib.hid (fun (wx : World) (hx : Below w1.heap.size w1 wx) => And.intro ((hx.cell (p := ⟨W.heap.size, 0, none⟩) HA1.out.lt).trans HA1.out.c0) (And.intro ((hx.cell (p := ⟨W.heap.size, 1, none⟩) HA1.out.lt).trans HA1.out.c1) (And.intro ((hx.cell (p := ⟨W.heap.size, 2, none⟩) HA1.out.lt).trans HA1.out.c2) (And.intro ((hx.cell (p := ⟨W.heap.size, 3, none⟩) HA1.out.lt).trans HA1.out.c3) (And.intro (Nat.lt_of_lt_of_le HA1.out.lt hx.size) (HB1.out.trans (hx.mono HB1.out.size)))))))
  simp only [HL0.out, HL1.out, HL2.out, HL3.out] at HXX
  go_loopw [3] (fun s3 wr => ∃ i : Nat, s3 = .int .i64 i ∧ i ≤ n0 ∧ Below w1.heap.size w1 wr) (fun s3 _ => n0 - (RowKit.intOf s3).toNat)
  case atStart => exact ⟨0, rfl, Nat.zero_le _, Below.refl _ _⟩
  case round =>
    obtain ⟨i, rfl, hi, hb⟩ := hrel
    obtain ⟨q0, q1, q2, q3, hq0, hbW⟩ := HXX.out _ hb
    have HB := Lib.hid hb
    have HBW := Lib.hid hbW
    by_cases hlt : i < n0
    · by_cases h4 : (i : Int) < 4
      · have hil : i < lr.length := by rw [HL0.out]; exact hlt
        obtain ⟨b, off, rfl, hbb, cW⟩ := HRW.out.cell i hil
        have hro := HRW.out.row i hil
        have hlr := light_row (HLT.out.2.2.2 i hil)
        generalize lr[i] = r at *
        clear hil
        obtain ⟨rl, ra, rc⟩ := r
        simp only at cW hro hlr
        have HRO := Lib.hid (fun (wx : World) (hx : Below W.heap.size W wx) => hro.1.below hx)
        have HGN := Lib.hid (show ∀ L : List OpR, OpR.os L = OpR.os rl → ∀ r ∈ L, r.o.gone.length ≤ 1000000 from fun L hL r hr => by
          have h1 : r.o ∈ OpR.os rl := by rw [← hL]; exact List.mem_map_of_mem hr
          obtain ⟨r2, h2, h3⟩ := List.mem_map.1 h1
          rw [← h3]
          have := (hlr.2 r2 h2).2
          omega)
        obtain ⟨nr, hnr⟩ : ∃ n, rl.length = n := ⟨_, rfl⟩
        have HNR := Lib.hid hnr
        have HCAP : RowKit.Hid (nr ≤ rc) := Lib.hid (by rw [← hnr]; exact hro.2)
        rw [hnr] at cW
        have HCW := Lib.hid (fun (wx : World) (hx : Below W.heap.size W wx) => And.intro ((hx.cell (p := ⟨b, off + i, none⟩) hbb).trans cW) (Nat.lt_of_lt_of_le hbb hx.size))
        obtain ⟨cr0, hbr⟩ := HCW.out _ hbW
        clear hnr hro hb hbW cW HRW hlr
        by_cases hrow : rowP (OpR.os rl)
        · skip
          -- @G
          have HROW := Lib.hid hrow
          have hl40 : nr ≤ 40 := by have := hrow.1; rw [olen, HNR.out] at this; exact this
          obtain ⟨TX, htx⟩ : ∃ T, docT (OpR.os rl) = T := ⟨_, rfl⟩
          have HTX := Lib.hid htx
          clear hrow htx
          go_wp2_with (first
            | (go_at_call 5; have ho := dText_ok ra rc rl wr (HRO.out _ HBW.out) HROW.out; unfold TextPost at ho; rw [HNR.out, HTX.out] at ho; refine ho.mono ?_; rintro x6 w6 ⟨rfl, hb6⟩; have HBW6 := Lib.hid (HBW.out.trans (hb6.mono HBW.out.size)); have HB6 := Lib.hid (HB.out.trans (hb6.mono HB.out.size)); clear hb6 ho)
            | (go_at_call 6; refine (num6_same _ _).mono ?_; rintro xn wn ⟨rfl, hnn⟩; have hns := hnn.symm; clear hnn; subst hns)
            | fail)
          clear cr0 hbr q0 q1 q2 q3 hq0
          go_loopw [7] (fun s7 wr => ∃ k : Nat, s7 = .int .i64 k ∧ k ≤ nr ∧ Below w6.heap.size w6 wr) (fun s7 _ => nr - (RowKit.intOf s7).toNat)
          case atStart => exact ⟨0, rfl, Nat.zero_le _, Below.refl _ _⟩
          case round =>
            obtain ⟨k, rfl, hk, hbk⟩ := hrel
            have HBK := Lib.hid hbk
            have HBWK := Lib.hid (HBW6.out.trans (hbk.mono HBW6.out.size))
            by_cases hkr : k < nr
            · have hkl : k < rl.length := by rw [HNR.out]; exact hkr
              have hk1 : (k : Int) < (nr : Int) := by omega
              have hk0 : (0 : Int) ≤ (k : Int) := by omega
              have hd0 : decide ((k : Int) < (nr : Int)) = true := decide_eq_true hk1
              obtain ⟨b8, off8, rfl, hb8, d0, d1, -⟩ := (HRO.out w6 HBW6.out).cells k hkl
              have hfit := row_name_fit6 HROW.out hkl
              have HFIT := Lib.hid hfit
              have HCU := Lib.hid (fun (wx : World) (hx : Below W.heap.size W wx) => dCount_ok _ rc rl rl[k].o.site rl[k].o.seq wx (HRO.out _ hx) HROW.out hfit)
              have HEF := Lib.hid (fun (wx : World) (hx : Below W.heap.size W wx) => dEff_ok _ rc rl rl[k].o.site rl[k].o.seq wx (HRO.out _ hx) HROW.out hfit)
              unfold CouPost at HCU
              unfold EffPost at HEF
              rw [HNR.out] at HCU HEF
              obtain ⟨ks, hks⟩ : ∃ x, rl[k].o.site = x := ⟨_, rfl⟩
              obtain ⟨kq, hkq⟩ : ∃ x, rl[k].o.seq = x := ⟨_, rfl⟩
              rw [hks, hkq] at HCU HEF HFIT
              rw [hks] at d0
              rw [hkq] at d1
              clear hks hkq hfit
              have HCI := Lib.hid (fun (h : hasN (OpR.os rl) ⟨ks, kq, 0⟩ = true) => ((row_cv HROW.out.2).2 _ h).2.2.2.2)
              simp only at HCI
              obtain ⟨hb, hhb⟩ : ∃ b, hasN (OpR.os rl) ⟨ks, kq, 0⟩ = b := ⟨_, rfl⟩
              obtain ⟨c, hc⟩ : ∃ c, ct (OpR.os rl) ks kq = c := ⟨_, rfl⟩
              obtain ⟨ev, hev⟩ : ∃ b, evn (OpR.os rl) ks kq = b := ⟨_, rfl⟩
              have HHB := Lib.hid hhb
              have HC := Lib.hid hc
              have HEV := Lib.hid hev
              have hc40 : (c : Int) ≤ 40 := by
                have h1 := ct_le (OpR.os rl) ks kq
                rw [olen, HNR.out, hc] at h1
                omega
              rw [hhb, hc] at HCU
              rw [hhb, hev] at HEF
              rw [hhb] at HCI
              have HD := Lib.hid (fun (wx : World) (hx : Below w6.heap.size w6 wx) => And.intro ((hx.cell (p := ⟨b8, off8 + k * 11, none⟩) hb8).trans d0) (And.intro ((hx.cell (p := ⟨b8, off8 + k * 11 + 1, none⟩) hb8).trans d1) (Nat.lt_of_lt_of_le hb8 hx.size)))
              clear d0 d1 hb8 hbk hkl hhb hc hev
              go_upto_region 12 with fail
              have HDA := Lib.hid (fun (wx : World) (hx : Below wr.heap.size wr wx) => HD.out wx (HBK.out.trans (hx.mono HBK.out.size)))
              have HCA := Lib.hid (fun (wx : World) (hx : Below wr.heap.size wr wx) => HCU.out wx (HBWK.out.trans (hx.mono HBWK.out.size)))
              refine tog_r12 wr hkr hl40 HDA HCA ?_
              clear HDA HCA HCU
              intro v60 v61 v62 v63 v64 v65 v66 v67 v68 v69 v70 v71 v72 v73 v74 wa hba
              have HBA := Lib.hid (HBK.out.trans (hba.mono HBK.out.size))
              clear hba
              cases hb
              · as_aux_lemma =>
                -- @F
                simp only [errN, Bool.false_eq_true, if_false]
                go_wp2_with (first
                  | (go_at_call 6; refine (num6_same _ _).mono ?_; rintro xn wn ⟨rfl, hnn⟩; have hns := hnn.symm; clear hnn; subst hns)
                  | fail)
                go_roundw
                case rel => exact ⟨k + 1, by go_num, by omega, HBA.out⟩
                case measure => simp [RowKit.intOf]; omega
                -- @F end
              · as_aux_lemma =>
                -- @T
                simp only [errN, if_true, Bool.true_and] at HEF ⊢
                obtain ⟨m8, hm8, hm8l⟩ : ∃ m : Nat, ((i : Int) + (k : Int)).tmod 8 = (m : Int) ∧ m < 8 := ⟨(i + k) % 8, mod8 i k, Nat.mod_lt _ (by omega)⟩
                obtain ⟨m3, hm3, hm3l⟩ : ∃ m : Nat, ((k : Int)).tmod 3 = (m : Int) ∧ m < 3 := ⟨k % 3, mod3 k, Nat.mod_lt _ (by omega)⟩
                go_wp2_with (first
                  | (go_at_call 6; refine (num6_same _ _).mono ?_; rintro xn wn ⟨rfl, hnn⟩; have hns := hnn.symm; clear hnn; subst hns)
                  | fail)
                obtain ⟨sz, hsz⟩ : ∃ x : Int, 1 + (m8 : Int) = x := ⟨_, rfl⟩
                have hsz8 : 1 ≤ sz ∧ sz ≤ 8 := by omega
                rw [hsz]
                clear hm8 hm8l hsz
                go_loop [11, 12] (fun s11 s12 => ∃ j : Nat, s12 = .int .i64 j ∧ j ≤ nr ∧ s11 = .int .i64 ((cnt ((OpR.os rl).take j) sz : Nat) + 1 : Int)) (fun _ s12 => nr - (RowKit.intOf s12).toNat)
                case atStart => exact ⟨0, rfl, Nat.zero_le _, rfl⟩
                case round =>
                  obtain ⟨j, rfl, hj, rfl⟩ := hrel
                  by_cases hjr : j < nr
                  · as_aux_lemma =>
                    -- @J
                    have hjl : j < rl.length := by rw [HNR.out]; exact hjr
                    have hj1 : (j : Int) < (nr : Int) := by omega
                    have hj0 : (0 : Int) ≤ (j : Int) := by omega
                    have hdj : decide ((j : Int) < (nr : Int)) = true := decide_eq_true hj1
                    obtain ⟨b9, off9, heq9, hb9, e0, -⟩ := (HRO.out wa (HBW6.out.trans (HBA.out.mono HBW6.out.size))).cells j hjl
                    simp only [Option.some.injEq, Addr.mk.injEq] at heq9
                    obtain ⟨rfl, rfl, _⟩ := heq9
                    have HCT := Lib.hid (cnt_take rl sz hjl)
                    have hcle : cnt ((OpR.os rl).take j) sz ≤ j := Nat.le_trans (cnt_le _ _) (by rw [List.length_take]; omega)
                    generalize rl[j].o.site = js at *
                    generalize cnt ((OpR.os rl).take j) sz = cj at *
                    clear hjl
                    by_cases hs : js = sz
                    · have HC2 := Lib.hid (HCT.out.trans (by rw [if_pos hs]))
                      subst hs
                      go_wp2_with fail
                      go_round
                      case rel => exact ⟨j + 1, by go_num, by omega, by rw [HC2.out]; go_num⟩
                      case measure => simp [RowKit.intOf]; omega
                    · have HC2 := Lib.hid (HCT.out.trans (by rw [if_neg hs]))
                      go_wp2_with fail
                      go_round
                      case rel => exact ⟨j + 1, by go_num, by omega, by rw [HC2.out]; rfl⟩
                      case measure => simp [RowKit.intOf]; omega
                    -- @J end
                  · as_aux_lemma =>
                    -- @R
                    have hdj : decide ((j : Int) < (nr : Int)) = false := decide_eq_false (by omega)
                    have hF : (OpR.os rl).take j = OpR.os rl := List.take_of_length_le (by rw [os_len, HNR.out]; omega)
                    rw [hF]
                    obtain ⟨qn, hqn⟩ : ∃ q, cnt (OpR.os rl) sz = q := ⟨_, rfl⟩
                    have HQN := Lib.hid hqn
                    have hq40 : (qn : Int) ≤ 40 := by
                      have h1 := cnt_le (OpR.os rl) sz
                      rw [olen, HNR.out, hqn] at h1
                      omega
                    rw [hqn]
                    have hne : ¬ (sz = ks ∧ (qn : Int) + 1 = kq) := by
                      rintro ⟨h1, h2⟩
                      have h3 := HCI.out (by first | rfl | trivial)
                      rw [← h1, hqn] at h3
                      omega
                    clear hF hqn
                    go_upto_region 21 with fail
                    obtain ⟨z0, z1, zl⟩ := HD.out wa HBA.out
                    go_cut [113] (fun s wx => s = .bool false ∧ wa = wx)
                    case first =>
                      by_cases hs1 : sz = ks
                      · have hs2 : ¬ ((qn : Int) + 1 = kq) := fun h => hne ⟨hs1, h⟩
                        subst hs1
                        go_wp2_with fail
                        go_meet
                        exact ⟨by first | rfl | (simp; done) | (simp; exact hs2), rfl⟩
                      · go_wp2_with fail
                        go_meet
                        exact ⟨by first | rfl | (simp; done) | simp [hs1], rfl⟩
                    case rest =>
                      -- @C
                      obtain ⟨rfl, rfl⟩ := hcut
                      have HSZ8 := Lib.hid hsz8
                      clear z0 z1 zl hdj hj hjr hne hsz8
                      have HCO := Lib.hid (fun (wx : World) (hx : Below wa.heap.size wa wx) => CopyOps_b _ rc nr rl (OpR.os rl) wa wx (HRO.out wx (HBW6.out.trans ((HBA.out.trans (hx.mono HBA.out.size)).mono HBW6.out.size))) (HGN.out rl rfl) HNR.out rfl (by omega) hx)
                      go_upto_region 22 with fail
                      have HDA := Lib.hid (fun (wx : World) (hx : Below wa.heap.size wa wx) => HD.out wx (HBA.out.trans (hx.mono HBA.out.size)))
                      refine tog_r22 wa hkr hl40 hc40 hq40 hm3 hm3l HDA HCO ?_
                      clear HDA HCO
                      intro vv v114 v115 v116 v117 v118 v119 v120 v121 v122 v123 v124 v125 v126 v127 v128 v129 v130 v131 v132 v133 v134 v135 w13 hcut
                      obtain ⟨g13, o13, c13, L13, rfl, hops13, hl13, hos13, hcp13, hoc13, hb13⟩ := hcut
                      have HO13 := Lib.hid (fun (wx : World) (hx : Below w13.heap.size w13 wx) => hops13.below hx)
                      have HOC13 := Lib.hid (fun (wx : World) (hx : Below w13.heap.size w13 wx) => hoc13.below hx)
                      have HL13 := Lib.hid hl13
                      have HOS13 := Lib.hid hos13
                      have HB13 := Lib.hid (HBA.out.trans (hb13.mono HBA.out.size))
                      clear hops13 hl13 hos13 hcp13 hoc13 hb13
                      have HCO := Lib.hid (fun (wx : World) (hx : Below w13.heap.size w13 wx) => CopyOps_b _ rc nr rl (OpR.os rl) w13 wx (HRO.out wx (HBW6.out.trans ((HB13.out.trans (hx.mono HB13.out.size)).mono HBW6.out.size))) (HGN.out rl rfl) HNR.out rfl (by omega) hx)
                      go_upto_region 23 with fail
                      have HDA := Lib.hid (fun (wx : World) (hx : Below w13.heap.size w13 wx) => HD.out wx (HB13.out.trans (hx.mono HB13.out.size)))
                      refine tog_r23 w13 hkr hl40 hc40 hq40 hm3 hm3l HDA HCO ?_
                      clear HDA HCO
                      intro vv v136 v137 v138 v139 v140 v141 v142 v143 v144 v145 v146 v147 v148 v149 v150 v151 v152 v153 w14 hcut
                      obtain ⟨g14, o14, c14, L14, rfl, hops14, hl14, hos14, hcp14, hoc14, hb14⟩ := hcut
                      have HB14' := Lib.hid hb14
                      have HO14 := Lib.hid (fun (wx : World) (hx : Below w14.heap.size w14 wx) => hops14.below hx)
                      have HOC14 := Lib.hid (fun (wx : World) (hx : Below w14.heap.size w14 wx) => hoc14.below hx)
                      have HL14 := Lib.hid hl14
                      have HOS14 := Lib.hid hos14
                      have HB14 := Lib.hid (HB13.out.trans (hb14.mono HB13.out.size))
                      have HGN14 := Lib.hid (show ∀ r ∈ L14, r.o.gone.length ≤ 1000000 from fun r hr => by
                        have h1 : r.o ∈ OpR.os rl ++ [(togD sz ((qn : Int) + 1) ks kq (c : Int))] := by rw [← hos14]; exact List.mem_map_of_mem hr
                        rcases List.mem_append.1 h1 with h1 | h1
                        · obtain ⟨r2, h2, h3⟩ := List.mem_map.1 h1
                          rw [← h3]
                          exact HGN.out rl rfl r2 h2
                        · rw [List.mem_singleton.1 h1]
                          exact Nat.zero_le _)
                      clear hops14 hl14 hos14 hcp14 hoc14 hb14
                      have HO13 := Lib.hid (fun (wx : World) (hx : Below w14.heap.size w14 wx) => HO13.out wx (HB14'.out.trans (hx.mono HB14'.out.size)))
                      have HOC13 := Lib.hid (fun (wx : World) (hx : Below w14.heap.size w14 wx) => HOC13.out wx (HB14'.out.trans (hx.mono HB14'.out.size)))
                      have HCO := Lib.hid (fun (wx : World) (hx : Below w14.heap.size w14 wx) => CopyOps_b _ c14 (nr + 1) L14 (OpR.os rl ++ [(togD sz ((qn : Int) + 1) ks kq (c : Int))]) w14 wx (HO14.out wx hx) HGN14.out HL14.out HOS14.out (by omega) hx)
                      go_upto_region 24 with fail
                      have HDA := Lib.hid (fun (wx : World) (hx : Below w14.heap.size w14 wx) => HD.out wx (HB14.out.trans (hx.mono HB14.out.size)))
                      refine tog_r24 w14 hkr hl40 hc40 hq40 hm3 hm3l HDA HCO ?_
                      clear HDA HCO
                      intro vv v154 v155 v156 v157 v158 v159 v160 v161 v162 v163 v164 v165 v166 v167 v168 v169 v170 v171 v172 v173 w15 hcut
                      obtain ⟨g15, o15, c15, L15, rfl, hops15, hl15, hos15, hcp15, hoc15, hb15⟩ := hcut
                      have HB15' := Lib.hid hb15
                      have HO15 := Lib.hid (fun (wx : World) (hx : Below w15.heap.size w15 wx) => hops15.below hx)
                      have HL15 := Lib.hid hl15
                      have HOS15 := Lib.hid hos15
                      have HB15 := Lib.hid (HB14.out.trans (hb15.mono HB14.out.size))
                      clear hops15 hl15 hos15 hcp15 hoc15 hb15
                      have HO13 := Lib.hid (fun (wx : World) (hx : Below w15.heap.size w15 wx) => HO13.out wx (HB15'.out.trans (hx.mono HB15'.out.size)))
                      have HOC13 := Lib.hid (fun (wx : World) (hx : Below w15.heap.size w15 wx) => HOC13.out wx (HB15'.out.trans (hx.mono HB15'.out.size)))
                      have HO14 := Lib.hid (fun (wx : World) (hx : Below w15.heap.size w15 wx) => HO14.out wx (HB15'.out.trans (hx.mono HB15'.out.size)))
                      have HOC14 := Lib.hid (fun (wx : World) (hx : Below w15.heap.size w15 wx) => HOC14.out wx (HB15'.out.trans (hx.mono HB15'.out.size)))
                      by_cases h38 : nr + 1 + 1 ≤ 40
                      · as_aux_lemma =>
                        -- @E
                        have hd38 : decide ((40 : Int) < ((nr + 1 + 1 : Nat) : Int)) = false := decide_eq_false (by omega)
                        have hT0 : docT (OpR.os rl) = TX := HTX.out
                        have hr1 : rowP (OpR.os rl ++ [(togD sz ((qn : Int) + 1) ks kq ((c : Int) + 1 + (m3 : Int)))]) := by rw [← HQN.out]; exact tog_row HROW.out (by rw [olen, HNR.out]; omega) HSZ8.out HHB.out (by omega)
                        have hr2 : rowP (OpR.os rl ++ [(togD sz ((qn : Int) + 1) ks kq (c : Int))]) := by rw [← HQN.out]; exact tog_row HROW.out (by rw [olen, HNR.out]; omega) HSZ8.out HHB.out (by omega)
                        have hr3 : rowP (OpR.os rl ++ [(togD sz ((qn : Int) + 1) ks kq (c : Int))] ++ [(togD sz ((qn : Int) + 1 + 1) ks kq ((c : Int) + 1))]) := by
                          have h9 := tog_row hr2 (s := sz) (a := ks) (b := kq) (g := (c : Int) + 1) (by rw [List.length_append, olen, HNR.out]; simp only [List.length_cons, List.length_nil]; omega) HSZ8.out (by rw [tog_has]; exact HHB.out) (by omega)
                          rw [tog_cnt, HQN.out, Int.natCast_add] at h9
                          exact h9
                        have ht1 : docT (OpR.os rl ++ [(togD sz ((qn : Int) + 1) ks kq ((c : Int) + 1 + (m3 : Int)))]) = TX := by rw [← hT0, ← HQN.out]; exact tog_text1 HROW.out.2 (fun x y => late_ev (by rw [HC.out]; omega) x y)
                        have ht3 : docT (OpR.os rl ++ [(togD sz ((qn : Int) + 1) ks kq (c : Int))] ++ [(togD sz ((qn : Int) + 1 + 1) ks kq ((c : Int) + 1))]) = TX := by rw [← hT0, ← HQN.out, ← HC.out]; exact tog_text2 HROW.out.2 (by rw [olen, HNR.out]; omega) HSZ8.out HHB.out (by rw [HC.out]; omega) (fun x y => twice_ev _ _ _ _ _ _ x y)
                        have he2 : evn (OpR.os rl ++ [(togD sz ((qn : Int) + 1) ks kq (c : Int))]) ks kq = !ev := by rw [← HEV.out, ← HC.out]; exact once_ev _ _ _ _ _
                        have hh2 : hasN (OpR.os rl ++ [(togD sz ((qn : Int) + 1) ks kq (c : Int))]) ⟨ks, kq, 0⟩ = true := by rw [tog_has]; exact HHB.out
                        have hi1 : idl (OpR.os rl) (togD sz ((qn : Int) + 1) ks kq ((c : Int) + 1 + (m3 : Int))) = true := by
                          unfold idl togD
                          simp only [HC.out]
                          rw [decide_eq_false (by omega : ¬ ((c : Int) + 1 + (m3 : Int) = (c : Int)))]
                          rfl
                        have hi2 : idl (OpR.os rl) (togD sz ((qn : Int) + 1) ks kq (c : Int)) = false := by
                          unfold idl togD
                          simp [HC.out]
                        have HT1 := Lib.hid (fun (wx : World) (hx : Below w15.heap.size w15 wx) => text_of (c := c13) HL13.out HOS13.out hr1 wx (HO13.out wx hx))
                        have HT3 := Lib.hid (fun (wx : World) (hx : Below w15.heap.size w15 wx) => text_of (c := c15) HL15.out HOS15.out hr3 wx (HO15.out wx hx))
                        have HE2 := Lib.hid (fun (wx : World) (hx : Below w15.heap.size w15 wx) => eff_of (c := c14) HL14.out HOS14.out hr2 HFIT.out wx (HO14.out wx hx))
                        have HI1 := Lib.hid (fun (wx : World) (hx : Below W.heap.size W wx) => idle_of (c := rc) HNR.out rfl HCAP.out HROW.out hr1 HFIT.out wx (HRO.out wx hx))
                        have HI2 := Lib.hid (fun (wx : World) (hx : Below W.heap.size W wx) => idle_of (c := rc) HNR.out rfl HCAP.out HROW.out hr2 HFIT.out wx (HRO.out wx hx))
                        rw [ht1] at HT1
                        rw [ht3] at HT3
                        rw [he2, hh2] at HE2
                        rw [hi1] at HI1
                        rw [hi2] at HI2
                        unfold TextPost at HT1 HT3
                        unfold EffPost at HE2 HI1 HI2
                        simp only [errN, if_true, Bool.true_and] at HE2
                        have HBWQ := Lib.hid (fun (wx : World) (hx : Below w6.heap.size w6 wx) => HBW6.out.trans (hx.mono HBW6.out.size))
                        clear hT0 hr1 hr2 hr3 ht1 ht3 he2 hh2 hi1 hi2 hm3
                        go_upto_region 28 with (first
                          | (go_at_call 5; refine (HT3.out _ HBP.out).mono ?_; rintro xu wu ⟨rfl, hbu⟩; have HBU' := Lib.hid (HBP.out.trans (hbu.mono HBP.out.size)); have HBU := Lib.hid (HB15.out.trans (HBU'.out.mono HB15.out.size)); clear hbu)
                          | (go_at_call 5; refine (HT1.out _ (Below.refl _ _)).mono ?_; rintro xp wp ⟨rfl, hbp⟩; have HBP := Lib.hid hbp; clear hbp)
                          | fail)
                        have HDA := Lib.hid (fun (wx : World) (hx : Below wu.heap.size wu wx) => HD.out wx (HBU.out.trans (hx.mono HBU.out.size)))
                        have HEA := Lib.hid (fun (wx : World) (hx : Below wu.heap.size wu wx) => HEF.out wx (HBWQ.out _ (HBU.out.trans (hx.mono HBU.out.size))))
                        refine tog_r28 wu hkr hl40 HDA HEA ?_
                        clear HDA HEA
                        intro v187 v188 v189 v190 v191 v192 v193 v194 v195 v196 v197 v198 v199 v200 v201 wv hbn
                        have HBV' := Lib.hid (HBU'.out.trans (hbn.mono HBU'.out.size))
                        have HBV := Lib.hid (HBU.out.trans (hbn.mono HBU.out.size))
                        clear hbn
                        go_upto_region 29 with fail
                        have HDA := Lib.hid (fun (wx : World) (hx : Below wv.heap.size wv wx) => HD.out wx (HBV.out.trans (hx.mono HBV.out.size)))
                        have HEA := Lib.hid (fun (wx : World) (hx : Below wv.heap.size wv wx) => HE2.out wx (HBV'.out.trans (hx.mono HBV'.out.size)))
                        refine tog_r29 wv hkr hl40 HDA HEA ?_
                        clear HDA HEA
                        intro v202 v203 v204 v205 v206 v207 v208 v209 v210 v211 v212 v213 v214 v215 v216 wy hbn
                        have HBY' := Lib.hid (HBV'.out.trans (hbn.mono HBV'.out.size))
                        have HBY := Lib.hid (HBV.out.trans (hbn.mono HBV.out.size))
                        clear hbn
                        go_upto_region 30 with fail
                        have HOA := Lib.hid (HOC13.out wy HBY'.out)
                        rw [show nr + 1 - 1 = nr from rfl] at HOA
                        have HIA := Lib.hid (HI1.out wy (HBWQ.out _ HBY.out))
                        refine tog_r30 wy HOA HIA ?_
                        clear HOA HIA
                        intro v217 v218 v219 v220 v221 v222 v223 v224 v225 v226 wg hbn
                        have HBG' := Lib.hid (HBY'.out.trans (hbn.mono HBY'.out.size))
                        have HBG := Lib.hid (HBY.out.trans (hbn.mono HBY.out.size))
                        clear hbn
                        go_upto_region 31 with fail
                        have HOA := Lib.hid (HOC14.out wg HBG'.out)
                        rw [show nr + 1 - 1 = nr from rfl] at HOA
                        have HIA := Lib.hid (HI2.out wg (HBWQ.out _ HBG.out))
                        refine tog_r31 wg HOA HIA ?_
                        clear HOA HIA
                        intro v227 v228 v229 v230 v231 v232 v233 v234 v235 v236 wh hbn
                        have HBH' := Lib.hid (HBG'.out.trans (hbn.mono HBG'.out.size))
                        have HBH := Lib.hid (HBG.out.trans (hbn.mono HBG.out.size))
                        clear hbn
                        go_upto_region 32 with fail
                        refine tog_r32 wh ?_
                        intro v237 v238 v239 v240 v241 v242 v243 v244 v245 v246 v247 v248 v249 v250 v251 v252 v253 v254 v255 v256 v257 v258 v259 v260 v261 v262 v263 v264 v265 v266 v267 v268 v269 v270 v271 v272 v273 v274 v275
                        go_wp2_with fail
                        go_roundw
                        case rel => exact ⟨k + 1, by go_num, by omega, HBH.out⟩
                        case measure => simp [RowKit.intOf]; omega
                        -- @E end
                      · as_aux_lemma =>
                        -- @X
                        have hd38 : decide ((40 : Int) < ((nr + 1 + 1 : Nat) : Int)) = true := decide_eq_true (by omega)
                        go_wp2_with fail
                        go_roundw
                        case rel => exact ⟨k + 1, by go_num, by omega, HB15.out⟩
                        case measure => simp [RowKit.intOf]; omega
                        -- @X end
                      -- @C end
                    -- @R end
                -- @T end
            · have hd0 : decide ((k : Int) < (nr : Int)) = false := decide_eq_false (by omega)
              clear hbk
              go_wp2_with fail
              go_roundw
              case rel => exact ⟨i + 1, by go_num, by omega, HB6.out.trans (HBK.out.mono HB6.out.size)⟩
              case measure => simp [RowKit.intOf]; omega
          -- @G end
        · skip
          -- @B
          have HROW := Lib.hid hrow
          clear hrow
          go_wp2_with (first
            | (go_at_call 5; have ho := dText_bad ra rc rl wr (HRO.out _ HBW.out) HROW.out; unfold TextPost at ho; rw [HNR.out] at ho; refine ho.mono ?_; rintro x6 w6 ⟨rfl, hb6⟩; have HB6 := Lib.hid (HB.out.trans (hb6.mono HB.out.size)); clear hb6 ho)
            | (go_at_call 6; refine (num6_same _ _).mono ?_; rintro xn wn ⟨rfl, hnn⟩; have hns := hnn.symm; clear hnn; subst hns)
            | fail)
          go_roundw
          case rel => exact ⟨i + 1, by go_num, by omega, HB6.out⟩
          case measure => simp [RowKit.intOf]; omega
          -- @B end
      · have hd4 : decide ((i : Int) < 4) = false := decide_eq_false h4
        go_wp2_with (first | (go_at_call 11; refine (rRune_yes 97 _ (by decide)).mono ?_; rintro xr wz ⟨rfl, hrz⟩; subst hrz) | (go_at_call 12; refine (HWK.out _).mono ?_; rintro x2 w2 ⟨rfl, hb2⟩; have HB2 := Lib.hid (HBW.out.trans (hb2.mono HBW.out.size)); clear hb2) | fail)
        go_ret
        exact ⟨rfl, HB2.out⟩
    · have hd4 : decide ((i : Int) < (n0 : Int)) = false := decide_eq_false (by omega)
      go_wp2_with (first | (go_at_call 11; refine (rRune_yes 97 _ (by decide)).mono ?_; rintro xr wz ⟨rfl, hrz⟩; subst hrz) | (go_at_call 12; refine (HWK.out _).mono ?_; rintro x2 w2 ⟨rfl, hb2⟩; have HB2 := Lib.hid (HBW.out.trans (hb2.mono HBW.out.size)); clear hb2) | fail)
      go_ret
      exact ⟨rfl, HB2.out⟩
end Go.Proofs.Ytbhfokpakljfoaa
