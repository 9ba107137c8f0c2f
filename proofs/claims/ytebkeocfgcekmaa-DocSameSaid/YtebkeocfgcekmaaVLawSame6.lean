/- DocSame: the walk -/
import Derived.Test.YtebkeocfgcekmaaDIdle
import Derived.Test.YtebkeocfgcekmaaYNear
import Derived.Test.YtebkeocfgcekmaaVEq
import Derived.Deep.DeepCutAuto
import Derived.Deep.CutBlock
import Derived.Lib.QuietBelow
import Derived.Deep.QuietTactic
import Derived.BigQuiet
import Derived.IntWalk
namespace Go.Proofs.Ytebkeocfgcekmaa
open Go.RowKit Go.Lib Go.Sort

theorem in64z : in64 0 := by unfold in64; omega
theorem row_nm6 {l : List OpD} (h : okRow l) : NInv l := by
  have := row_names h l.length (Nat.le_refl _)
  rwa [List.take_length] at this
theorem vis_has {l : List OpD} (h : okRow l) {e : El} (he : e ∈ visE l) : hasN l ⟨e.s, e.q, 0⟩ = true ∧ evn l e.s e.q = true ∧ (rnP l e).isSome = true := by
  obtain ⟨h1, h2, _⟩ := ord_edit h (visE_ord he)
  refine ⟨?_, ?_, ?_⟩
  · rw [← edt_eq (row_nm6 h)]
    unfold edt
    rw [List.getElem?_eq_getElem h1]
    exact decide_eq_true h2
  · have h3 := (List.mem_filter.1 he).2
    unfold vis at h3
    rw [Bool.and_eq_true] at h3
    exact h3.1
  · obtain ⟨r, h3, _⟩ := rnP_ord h (visE_ord he)
    rw [h3]
    rfl
theorem vis_gone {l : List OpD} {k : Nat} (hk : k < l.length) {e : El} (he : e ∈ l[k].gone) (hev : evn l l[k].site l[k].seq = true) : e ∉ visE l := by
  intro hv
  have h3 := (List.mem_filter.1 hv).2
  have hg : goneE l l e = true := by
    unfold goneE
    rw [List.any_eq_true]
    exact ⟨l[k], List.getElem_mem hk, by rw [hev, decide_eq_true he]; rfl⟩
  unfold vis at h3
  rw [hg] at h3
  simp at h3
theorem vis_apart {l : List OpD} (h : okRow l) : (visE l).Pairwise (fun a b => a ≠ b) := by
  have hi := (row_inv h l.length (Nat.le_refl _)).ord
  rw [List.take_length] at hi
  unfold visE
  refine List.Pairwise.filter _ ?_
  unfold ordE
  rw [List.pairwise_map, List.pairwise_iff_getElem]
  intro i j hi' hj' hij he
  have := hi.nodup i j _ _ (List.getElem?_eq_getElem hi') (List.getElem?_eq_getElem hj') he
  omega
theorem vis_ne {l : List OpD} (h : okRow l) {j k : Nat} (hk : k < (visE l).length) (hj : j < k) : (visE l)[j]'(by omega) ≠ (visE l)[k] :=
  List.pairwise_iff_getElem.1 (vis_apart h) j k (by omega) hk hj
theorem vis_text {l : List OpD} {k : Nat} (hk : k < (visE l).length) : docT l = Go.Proofs.Ytebkeocfgcekmaa.mk ((visR l).take k) ++ Lib.encodeRune (rnE l (visE l)[k]) ++ Go.Proofs.Ytebkeocfgcekmaa.mk ((visR l).drop (k + 1)) ∧ Go.Proofs.Ytebkeocfgcekmaa.mk ((visR l).take (k + 1)) = Go.Proofs.Ytebkeocfgcekmaa.mk ((visR l).take k) ++ Lib.encodeRune (rnE l (visE l)[k]) := by
  have h1 : Go.Proofs.Ytebkeocfgcekmaa.mk ((visR l).take (k + 1)) = Go.Proofs.Ytebkeocfgcekmaa.mk ((visR l).take k) ++ Lib.encodeRune (rnE l (visE l)[k]) := by
    rw [visR_take hk, mk_append]
    simp [Go.Proofs.Ytebkeocfgcekmaa.mk]
  refine ⟨?_, h1⟩
  unfold docT
  conv => lhs; rw [← List.take_append_drop (k + 1) (visR l)]
  rw [mk_append, h1]
theorem cut_in (A E Z : List UInt8) : ((⟨(A ++ E ++ Z).toArray⟩ : ByteArray).extract A.length (A.length + E.length)) = ⟨E.toArray⟩ := by
  rw [Lib.extract_eq]
  simp
theorem slice_in (A E TX : List UInt8) (hlen : (A.length : Int) + (E.length : Int) ≤ (TX.length : Int)) (hcut : (⟨TX.toArray⟩ : ByteArray).extract A.length (A.length + E.length) = ⟨E.toArray⟩) (wx : World) :
    (Instr.slice 9 (S TX) (some (.int .i64 (A.length : Int))) (some (.int .i64 ((A.length : Int) + (E.length : Int)))) none).run Try.prog wx = .ok (.string ⟨E.toArray⟩) wx := by
  have h9 := run_slice_string (P := Try.prog) wx 9 ⟨TX.toArray⟩ .i64 .i64 (A.length : Int) ((A.length : Int) + (E.length : Int)) Try.underlying9 (by omega) (by omega) (by show (A.length : Int) + (E.length : Int) ≤ ((TX.toArray.size : Nat) : Int); rw [List.size_toArray]; exact hlen)
  rw [show ((A.length : Int)).toNat = A.length from rfl, show ((A.length : Int) + (E.length : Int)).toNat = A.length + E.length from by omega, hcut] at h9
  exact h9
theorem small_take {k nv a : Nat} (h : a ≤ 4 * min k nv) (hv : nv ≤ 200) : a ≤ 100000 := by omega
theorem sum_le (A E Z TX : List UInt8) (h : TX = A ++ E ++ Z) : (A.length : Int) + (E.length : Int) ≤ (TX.length : Int) := by
  subst h
  simp
  omega
theorem sum_wrap (A E : List UInt8) (h1 : A.length ≤ 100000) (h2 : E.length ≤ 100000) : wrap64 ((A.length : Int) + (E.length : Int)) = (A.length : Int) + (E.length : Int) := IntWalk.wrap64_in _ ⟨by omega, by omega⟩
theorem row_name_fit {l : List OpR} (h : rowP (OpR.os l)) {k : Nat} (hk : k < l.length) : (⟨l[k].o.site, l[k].o.seq, 0⟩ : El).fit := by
  have := okOp_name (row_ok h.2 l[k].o (List.mem_map_of_mem (List.getElem_mem hk)))
  unfold El.fit in64
  simp only
  omega

set_option maxRecDepth 100000 in
set_option maxHeartbeats 32000000 in
theorem docSame_walk (p : AskD) (W : World) (h : AskAt W p) : Calls Try.prog 4 #[p.v] W (BoB true W) := by
  have HHV := Lib.hid (fun wx (hx : Below W.heap.size W wx) => Heavy_light p wx (h.below hx))
  have HX := Lib.hid (BoxA.new W p)
  have hb0 : Below W.heap.size W (W.alloc p.obj) := (Below.refl _ _).alloc (Nat.le_refl _) _
  have HB0 := Lib.hid hb0
  have HRW := Lib.hid h.l
  have hl3 := h.l.len
  have HWK := Lib.hid wakes6_any
  clear h hb0
  unfold AskD.v at HHV ⊢
  generalize hLP : Light p = LP at HHV
  have HLP := Lib.hid (show LP → Light p from fun h => by rw [hLP]; exact h)
  clear hLP
  unfold Light at HLP
  obtain ⟨lr, le, lo, ln, ar, ae, ao, an, cr, ce, co, cn⟩ := p
  unfold AskD.obj at HX HB0
  simp only at HHV HX HB0 HRW hl3 HLP ⊢
  have hbi := big_is
  obtain ⟨n0, hn0⟩ : ∃ n, lr.length = n := ⟨_, rfl⟩
  have HL0 := Lib.hid hn0
  have h0a : (n0 : Int) ≤ 140737488351232 := by omega
  rw [hn0] at HHV HX HB0 ⊢
  clear hl3 hbi hn0
  generalize hn2 : le.length = n2 at *
  generalize hn1 : lo.length = n1 at *
  generalize hn3 : ln.length = n3 at *
  have HL2 := Lib.hid hn2
  have HL1 := Lib.hid hn1
  have HL3 := Lib.hid hn3
  clear hn1 hn2 hn3
  go_enter Try.func4, Try.ntmps4
  go_wp2_with (first | (go_at_call 5; refine (HHV.out _ HB0.out).mono ?_; rintro x1 w1 ⟨b1, rfl, hlp, hb1⟩; have HPP := Lib.hid hlp; have HB1 := Lib.hid (HB0.out.trans (hb1.mono HB0.out.size)); have HA1 := Lib.hid (HX.out.next hb1 HX.out.lt); clear hb1 hlp; cases b1) | fail)
  rotate_left
  · go_wp2_with fail
    go_ret
    exact ⟨rfl, HB1.out⟩
  have HLT := Lib.hid (HLP.out (HPP.out (by simp)))
  clear HLP HPP
  go_wp2_with fail
  clear HHV
  have HXX := Lib.hid (fun (wx : World) (hx : Below w1.heap.size w1 wx) => And.intro ((hx.cell (p := ⟨W.heap.size, 0, none⟩) HA1.out.lt).trans HA1.out.c0) (And.intro ((hx.cell (p := ⟨W.heap.size, 1, none⟩) HA1.out.lt).trans HA1.out.c1) (And.intro ((hx.cell (p := ⟨W.heap.size, 2, none⟩) HA1.out.lt).trans HA1.out.c2) (And.intro ((hx.cell (p := ⟨W.heap.size, 3, none⟩) HA1.out.lt).trans HA1.out.c3) (And.intro (Nat.lt_of_lt_of_le HA1.out.lt hx.size) (HB1.out.trans (hx.mono HB1.out.size)))))))
  simp only [HL0.out, HL1.out, HL2.out, HL3.out] at HXX
  go_loopw [3] (fun s3 wr => ∃ i : Nat, s3 = .int .i64 i ∧ i ≤ n0 ∧ Below w1.heap.size w1 wr) (fun s3 _ => n0 - (RowKit.intOf s3).toNat)
  case atStart => exact ⟨0, rfl, Nat.zero_le _, Below.refl _ _⟩
  case round =>
    obtain ⟨i, rfl, hi, hb⟩ := hrel
    obtain ⟨q0, q1, q2, q3, hq0, hbW⟩ := HXX.out _ hb
    have HB := Lib.hid hb
    have HBW := Lib.hid hbW
    by_cases hlt : i < n0
    · by_cases h4 : (i : Int) < 4
      · have hil : i < lr.length := by rw [HL0.out]; exact hlt
        obtain ⟨b, off, rfl, hbb, cW⟩ := HRW.out.cell i hil
        have hro := HRW.out.row i hil
        generalize lr[i] = r at *
        clear hil
        obtain ⟨rl, ra, rc⟩ := r
        simp only at cW hro
        have HRO := Lib.hid (fun (wx : World) (hx : Below W.heap.size W wx) => hro.1.below hx)
        obtain ⟨nr, hnr⟩ : ∃ n, rl.length = n := ⟨_, rfl⟩
        have HNR := Lib.hid hnr
        rw [hnr] at cW
        have HCW := Lib.hid (fun (wx : World) (hx : Below W.heap.size W wx) => And.intro ((hx.cell (p := ⟨b, off + i, none⟩) hbb).trans cW) (Nat.lt_of_lt_of_le hbb hx.size))
        obtain ⟨cr0, hbr⟩ := HCW.out _ hbW
        clear hnr hro hb hbW cW HRW
        by_cases hrow : rowP (OpR.os rl)
        · skip
          -- @G
          have HROW := Lib.hid hrow
          have hl40 : nr ≤ 40 := by have := hrow.1; rw [olen, HNR.out] at this; exact this
          obtain ⟨XV, hxv⟩ : ∃ X, visE (OpR.os rl) = X := ⟨_, rfl⟩
          have HXV := Lib.hid hxv
          have hv200 := visE_le hrow.2
          rw [hxv] at hv200
          obtain ⟨nv, hnv⟩ : ∃ n, XV.length = n := ⟨_, rfl⟩
          have HNV := Lib.hid hnv
          rw [hnv] at hv200
          obtain ⟨TX, htx⟩ : ∃ T, docT (OpR.os rl) = T := ⟨_, rfl⟩
          have HTX := Lib.hid htx
          have HRL := Lib.hid (show (visR (OpR.os rl)).length = nv from by rw [visR_len, hxv, hnv])
          clear hrow hxv hnv htx
          go_wp2_with (first
            | (go_at_call 14; have ho := dVis_ok ra rc rl wr (HRO.out _ HBW.out) HROW.out; unfold VisPost at ho; rw [HNR.out, HXV.out] at ho; refine ho.mono ?_; rintro x5 w5 ⟨v5, rfl, hown5, hb5⟩; obtain ⟨a5, c5, hv5, he5, _⟩ := elems_own hown5; rw [HNV.out] at hv5; subst hv5; have HE5 := Lib.hid he5; have HBW5 := Lib.hid (HBW.out.trans (hb5.mono HBW.out.size)); have HB5 := Lib.hid (HB.out.trans (hb5.mono HB.out.size)); clear hown5 he5 hb5 ho)
            | (go_at_call 6; have ho := dText_ok ra rc rl w5 (HRO.out _ HBW5.out) HROW.out; unfold TextPost at ho; rw [HNR.out, HTX.out] at ho; refine ho.mono ?_; rintro x6 w6 ⟨rfl, hb6⟩; have HE6 := Lib.hid (HE5.out.below hb6); have HBW6 := Lib.hid (HBW5.out.trans (hb6.mono HBW5.out.size)); have HB6 := Lib.hid (HB5.out.trans (hb6.mono HB5.out.size)); clear hb6 ho)
            | (go_at_call 7; refine (num6_same _ _).mono ?_; rintro xn wn ⟨rfl, hnn⟩; have hns := hnn.symm; clear hnn; subst hns)
            | fail)
          clear cr0 hbr q0 q1 q2 q3 hq0
          go_loopw [9, 10] (fun s9 s10 wr => ∃ k : Nat, s10 = .int .i64 k ∧ k ≤ nv ∧ s9 = .int .i64 ((Go.Proofs.Ytebkeocfgcekmaa.mk ((visR (OpR.os rl)).take k)).length : Nat) ∧ Below w6.heap.size w6 wr) (fun _ s10 _ => nv - (RowKit.intOf s10).toNat)
          case atStart => exact ⟨0, rfl, Nat.zero_le _, rfl, Below.refl _ _⟩
          case round =>
            obtain ⟨k, rfl, hk, rfl, hbk⟩ := hrel
            have HBK := Lib.hid hbk
            have HBWK := Lib.hid (HBW6.out.trans (hbk.mono HBW6.out.size))
            by_cases hkv : k < nv
            · skip
              -- @V
              have hkl : k < XV.length := by rw [HNV.out]; exact hkv
              have hkl2 : k < (visE (OpR.os rl)).length := by rw [HXV.out]; exact hkl
              have hkv1 : (k : Int) < (nv : Int) := by omega
              have hkv0 : (0 : Int) ≤ (k : Int) := by omega
              have hd0 : decide ((k : Int) < (nv : Int)) = true := decide_eq_true hkv1
              obtain ⟨b7, off7, rfl, hb7, y0, y1, y2⟩ := HE6.out.cell k hkl
              have hXk : (visE (OpR.os rl))[k] = XV[k] := by simp only [HXV.out]
              have hmem : XV[k] ∈ visE (OpR.os rl) := by rw [HXV.out]; exact List.getElem_mem hkl
              obtain ⟨hh1, hh2, hh3⟩ := vis_has HROW.out.2 hmem
              have hfit := e_fit HROW.out (.inr (visE_ord hmem))
              obtain ⟨ht1, ht2⟩ := vis_text hkl2
              rw [hXk] at ht1 ht2
              have HNE := Lib.hid (fun (j : Nat) (hj : j < k) => show XV[j]'(by rw [HNV.out]; omega) ≠ XV[k] from by
                have := vis_ne HROW.out.2 hkl2 hj
                simpa only [HXV.out] using this)
              generalize XV[k] = e at *
              have HRUN := Lib.hid (fun (wx : World) (hx : Below W.heap.size W wx) => dRune_ok ra rc rl e wx (HRO.out _ hx) HROW.out hfit)
              have HEFF := Lib.hid (fun (wx : World) (hx : Below W.heap.size W wx) => dEff_ok ra rc rl e.s e.q wx (HRO.out _ hx) HROW.out ⟨hfit.1, hfit.2.1, in64z⟩)
              unfold DRnPost at HRUN
              unfold EffPost at HEFF
              rw [HNR.out, hh3] at HRUN
              rw [HNR.out, hh1, hh2] at HEFF
              have hmk := mk_length ((visR (OpR.os rl)).take k)
              rw [List.length_take, HRL.out] at hmk
              generalize rnE (OpR.os rl) e = rr at *
              have hen := encode_eq rr
              have hel := encodeRune_le rr
              generalize Lib.encodeRune rr = E at *
              generalize Go.Proofs.Ytebkeocfgcekmaa.mk ((visR (OpR.os rl)).drop (k + 1)) = Z at *
              have HT2 := Lib.hid ht2
              generalize Go.Proofs.Ytebkeocfgcekmaa.mk ((visR (OpR.os rl)).take k) = A at *
              rw [HTX.out] at ht1
              have hlen := sum_le A E Z TX ht1
              have hcut : (⟨TX.toArray⟩ : ByteArray).extract A.length (A.length + E.length) = ⟨E.toArray⟩ := by rw [ht1]; exact cut_in A E Z
              have hsl := slice_in A E TX hlen hcut
              have hsw := sum_wrap A E (small_take hmk hv200) (Nat.le_trans hel (by decide))
              have hd7 : decide ((TX.length : Int) < (A.length : Int) + (E.length : Int)) = false := decide_eq_false (Int.not_lt.2 hlen)
              have HSW := Lib.hid hsw
              clear ht1 ht2 hkl2 hXk hmem hh1 hh2 hh3 hcut hlen hmk hel
              obtain ⟨es, eq, ei⟩ := e
              unfold El.v at HRUN
              simp only [errN, if_true, Bool.and_true] at y0 y1 y2 HRUN HEFF
              have HY := Lib.hid (fun (wx : World) (hx : Below w6.heap.size w6 wx) => And.intro ((hx.cell (p := ⟨b7, off7 + k * 3, none⟩) hb7).trans y0) (And.intro ((hx.cell (p := ⟨b7, off7 + k * 3 + 1, none⟩) hb7).trans y1) (And.intro ((hx.cell (p := ⟨b7, off7 + k * 3 + 2, none⟩) hb7).trans y2) (Nat.lt_of_lt_of_le hb7 hx.size))))
              clear y0 y1 y2 hbk hb7 hfit
              obtain ⟨z0, z1, z2, zl⟩ := HY.out wr HBK.out
              go_wp2_with (first
                | (go_at_call 15; refine (HRUN.out wr HBWK.out).mono ?_; rintro xa wa ⟨rfl, hba⟩; have HBA := Lib.hid (HBK.out.trans (hba.mono HBK.out.size)); have HBWA := Lib.hid (HBWK.out.trans (hba.mono HBWK.out.size)); clear hba)
                | fail)
              clear z0 z1 z2 zl
              obtain ⟨z0, z1, z2, zl⟩ := HY.out wa HBA.out
              have r0 := cell_regrown z0
              have r1 := cell_regrown z1
              have hq0 := fun d os => HEFF.out (Sort.grow (redrawn wa d) os) (HBWA.out.trans ((below_regrown wa d os).mono HBWA.out.size))
              refine wp_region_quiet_below (by kernel_rfl) (by kernel_rfl) ?_
              repeat (first | go_big_quiet_step (exact Calls.regrown_of (hq0 _ _)) | quiet_step (exact Calls.regrown_of (hq0 _ _)))
              refine wpQuiet_nil ?_
              intro _ hw'
              obtain ⟨⟨dq, osq⟩, hw''⟩ := hw'
              subst hw''
              have HBB := Lib.hid (HBA.out.trans ((below_regrown wa dq osq).mono HBA.out.size))
              have HBWB := Lib.hid (HBWA.out.trans ((below_regrown wa dq osq).mono HBWA.out.size))
              clear hq0 r0 r1 z0 z1 z2 zl
              generalize Sort.grow (redrawn wa dq) osq = wb2 at *
              go_wp2_with (first
                | (go_at_call 7; refine (num6_same _ _).mono ?_; rintro xn wn ⟨rfl, hnn⟩; have hns := hnn.symm; clear hnn; subst hns)
                | fail)
              clear hsl hd7
              go_loopw [15] (fun s15 wr => ∃ j : Nat, s15 = .int .i64 j ∧ j ≤ k ∧ Below w6.heap.size w6 wr) (fun s15 _ => k - (RowKit.intOf s15).toNat)
              case atStart => exact ⟨0, rfl, Nat.zero_le _, HBB.out⟩
              case round =>
                obtain ⟨j, rfl, hj, hbj⟩ := hrel
                have HBJ := Lib.hid hbj
                by_cases hjk : j < k
                · as_aux_lemma =>
                  have hjl : j < XV.length := by rw [HNV.out]; omega
                  obtain ⟨b8, off8, heq8, hb8, x0, x1, x2⟩ := (HE6.out.below hbj).cell j hjl
                  simp only [Option.some.injEq, Addr.mk.injEq] at heq8
                  obtain ⟨rfl, rfl, _⟩ := heq8
                  have hne := HNE.out j hjk
                  generalize XV[j] = e2 at *
                  obtain ⟨z0, z1, z2, zl⟩ := HY.out wr hbj
                  have hsp := el_split e2 ⟨es, eq, ei⟩
                  obtain ⟨fs, fq, fi⟩ := e2
                  simp only at x0 x1 x2 hsp
                  have hj1 : (j : Int) < (nv : Int) := by omega
                  have hj0 : (0 : Int) ≤ (j : Int) := by omega
                  have hjk1 : decide ((j : Int) < (k : Int)) = true := decide_eq_true (by omega)
                  rcases hsp with ⟨he, _⟩ | ⟨_, hz⟩
                  · exact absurd he hne
                  clear hne HNE hbj hjl
                  rcases hz with v0 | ⟨v0, v1⟩ | ⟨v0, v1, v2⟩
                  all_goals
                    try subst v0
                    try subst v1
                    go_wp2_with fail
                    go_quiet (fail)
                    go_wp2_with fail
                    go_roundw
                    case rel => exact ⟨j + 1, by go_num, by omega, HBJ.out.trans ((Same.drewN wr nq).below _)⟩
                    case measure => simp [RowKit.intOf]; omega
                · as_aux_lemma =>
                  have hjk1 : decide ((j : Int) < (k : Int)) = false := decide_eq_false (by omega)
                  clear hbj
                  go_wp2_with fail
                  go_roundw
                  case rel => exact ⟨k + 1, by go_num, by omega, by rw [HT2.out, List.length_append, Int.natCast_add, HSW.out], HBJ.out⟩
                  case measure => simp [RowKit.intOf]; omega
              -- @V end
            · skip
              -- @L
              have hd0 : decide ((k : Int) < (nv : Int)) = false := decide_eq_false (by omega)
              have hfull : (Go.Proofs.Ytebkeocfgcekmaa.mk ((visR (OpR.os rl)).take k)).length = TX.length := by
                rw [List.take_of_length_le (by rw [HRL.out]; omega)]
                have := HTX.out
                unfold docT at this
                rw [this]
              rw [hfull]
              clear hbk hfull
              go_wp2_with fail
              go_loopw [16] (fun s16 wr => ∃ m : Nat, s16 = .int .i64 m ∧ m ≤ nr ∧ Below w6.heap.size w6 wr) (fun s16 _ => nr - (RowKit.intOf s16).toNat)
              case atStart => exact ⟨0, rfl, Nat.zero_le _, HBK.out⟩
              case round =>
                obtain ⟨m, rfl, hm, hbm⟩ := hrel
                have HBM := Lib.hid hbm
                have HBWM := Lib.hid (HBW6.out.trans (hbm.mono HBW6.out.size))
                by_cases hmr : m < nr
                · skip
                  -- @M
                  have hml : m < rl.length := by rw [HNR.out]; exact hmr
                  have hm1 : (m : Int) < (nr : Int) := by omega
                  have hm0 : (0 : Int) ≤ (m : Int) := by omega
                  have hd1 : decide ((m : Int) < (nr : Int)) = true := decide_eq_true hm1
                  obtain ⟨b8, off8, rfl, hb8, d0, d1, -, -, -, -, -, d7, -, -, -⟩ := (HRO.out w6 HBW6.out).cells m hml
                  have hop := (HRO.out w6 HBW6.out).op m hml
                  have hfit := row_name_fit HROW.out hml
                  have hmo : m < (OpR.os rl).length := by rw [olen]; exact hml
                  have hgo := fun (e : El) (he : e ∈ rl[m].o.gone) (hev : evn (OpR.os rl) rl[m].o.site rl[m].o.seq = true) => (show e ∉ XV from by
                    have hg : (OpR.os rl)[m] = rl[m].o := by simp [OpR.os]
                    have := vis_gone (l := OpR.os rl) hmo (e := e) (by rw [hg]; exact he) (by rw [hg]; exact hev)
                    rw [HXV.out] at this
                    exact this)
                  have HEFF := Lib.hid (fun (wx : World) (hx : Below W.heap.size W wx) => dEff_ok _ rc rl rl[m].o.site rl[m].o.seq wx (HRO.out _ hx) HROW.out hfit)
                  unfold EffPost at HEFF
                  rw [HNR.out] at HEFF
                  generalize rl[m] = ro at *
                  obtain ⟨o, ga, gc⟩ := ro
                  simp only at d0 d1 d7 hop hgo HEFF hfit
                  generalize hasN (OpR.os rl) ⟨o.site, o.seq, 0⟩ = hb at *
                  generalize evn (OpR.os rl) o.site o.seq = ev at *
                  obtain ⟨ng, hng⟩ : ∃ n, o.gone.length = n := ⟨_, rfl⟩
                  have HNG := Lib.hid hng
                  have hngb : ng ≤ BIG := by rw [← hng]; exact hop.len
                  have HGO := Lib.hid hgo
                  have HGE := Lib.hid (fun (wx : World) (hx : Below w6.heap.size w6 wx) => hop.gone.below hx)
                  rw [hng] at d7
                  have hbi := big_is
                  have hng1 : (ng : Int) ≤ 140737488351232 := by omega
                  have HD := Lib.hid (fun (wx : World) (hx : Below w6.heap.size w6 wx) => And.intro ((hx.cell (p := ⟨b8, off8 + m * 11, none⟩) hb8).trans d0) (And.intro ((hx.cell (p := ⟨b8, off8 + m * 11 + 1, none⟩) hb8).trans d1) (And.intro ((hx.cell (p := ⟨b8, off8 + m * 11 + 7, none⟩) hb8).trans d7) (Nat.lt_of_lt_of_le hb8 hx.size))))
                  have HAT := Lib.hid (fun (wx : World) (hx : Below w6.heap.size w6 wx) (g : El) => At_any a5 c5 XV g wx (HE6.out.below hx) (by rw [HNV.out]; omega))
                  rw [HNV.out] at HAT
                  clear d0 d1 d7 hop hgo hfit hmo hml hng hngb hbi hbm hb8
                  go_wp2_with fail
                  obtain ⟨z0, z1, z2, zl⟩ := HD.out wr HBM.out
                  have r0 := cell_regrown z0
                  have r1 := cell_regrown z1
                  have hq0 := fun d os => HEFF.out (Sort.grow (redrawn wr d) os) (HBWM.out.trans ((below_regrown wr d os).mono HBWM.out.size))
                  refine wp_region_quiet_below (by kernel_rfl) (by kernel_rfl) ?_
                  repeat (first | go_big_quiet_step (exact Calls.regrown_of (hq0 _ _)) | quiet_step (exact Calls.regrown_of (hq0 _ _)))
                  refine wpQuiet_nil ?_
                  intro _ hw'
                  obtain ⟨⟨dq, osq⟩, hw''⟩ := hw'
                  subst hw''
                  have HBA := Lib.hid (HBM.out.trans ((below_regrown wr dq osq).mono HBM.out.size))
                  clear hq0 r0 r1 z0 z1 z2 zl
                  generalize Sort.grow (redrawn wr dq) osq = wa at *
                  go_wp2_with fail
                  go_loopw [19] (fun s19 wr => ∃ j : Nat, s19 = .int .i64 j ∧ j ≤ ng ∧ Below w6.heap.size w6 wr) (fun s19 _ => ng - (RowKit.intOf s19).toNat)
                  case atStart => exact ⟨0, rfl, Nat.zero_le _, HBA.out⟩
                  case round =>
                    obtain ⟨j, rfl, hj, hbj⟩ := hrel
                    have HBJ := Lib.hid hbj
                    obtain ⟨z0, z1, z2, zl⟩ := HD.out wr hbj
                    by_cases hjk : j < ng
                    · have hj1 : (j : Int) < (ng : Int) := by omega
                      have hj0 : (0 : Int) ≤ (j : Int) := by omega
                      have hjd : decide ((j : Int) < (ng : Int)) = true := decide_eq_true hj1
                      cases hb
                      · simp only [errN, Bool.false_eq_true, if_false, Bool.false_and]
                        clear hbj
                        go_wp2_with (first
                          | (go_at_call 7; refine (num6_same _ _).mono ?_; rintro xn wn ⟨rfl, hnn⟩; have hns := hnn.symm; clear hnn; subst hns)
                          | fail)
                        go_roundw
                        case rel => exact ⟨m + 1, by go_num, by omega, HBJ.out⟩
                        case measure => simp [RowKit.intOf]; omega
                      · cases ev
                        · simp only [errN, if_true, Bool.and_false]
                          clear hbj
                          go_wp2_with (first
                            | (go_at_call 7; refine (num6_same _ _).mono ?_; rintro xn wn ⟨rfl, hnn⟩; have hns := hnn.symm; clear hnn; subst hns)
                            | fail)
                          go_roundw
                          case rel => exact ⟨m + 1, by go_num, by omega, HBJ.out⟩
                          case measure => simp [RowKit.intOf]; omega
                        · simp only [errN, if_true, Bool.and_true]
                          have hjl : j < o.gone.length := by rw [HNG.out]; exact hjk
                          obtain ⟨b9, off9, rfl, hb9, x0, x1, x2⟩ := (HGE.out wr hbj).cell j hjl
                          have hno := HGO.out o.gone[j] (List.getElem_mem hjl) (by first | rfl | trivial)
                          have hat := HAT.out wr hbj o.gone[j]
                          rw [atI_neg hno] at hat
                          generalize o.gone[j] = g at *
                          obtain ⟨gs, gq, gi⟩ := g
                          unfold El.v IntB at hat
                          simp only at x0 x1 x2 hat
                          have HATT := Lib.hid hat
                          clear hat hno hjl hbj
                          go_wp2_with (first
                            | (go_at_call 7; refine (num6_same _ _).mono ?_; rintro xn wn ⟨rfl, hnn⟩; have hns := hnn.symm; clear hnn; subst hns)
                            | (go_at_call 16; refine HATT.out.mono ?_; rintro xb wb3 ⟨rfl, hbb3⟩; have HBB3 := Lib.hid (HBJ.out.trans (hbb3.mono HBJ.out.size)); clear hbb3)
                            | fail)
                          go_roundw
                          case rel => exact ⟨j + 1, by go_num, by omega, HBB3.out⟩
                          case measure => simp [RowKit.intOf]; omega
                    · have hjd : decide ((j : Int) < (ng : Int)) = false := decide_eq_false (by omega)
                      clear hbj
                      go_wp2_with (first
                        | (go_at_call 7; refine (num6_same _ _).mono ?_; rintro xn wn ⟨rfl, hnn⟩; have hns := hnn.symm; clear hnn; subst hns)
                        | fail)
                      go_roundw
                      case rel => exact ⟨m + 1, by go_num, by omega, HBJ.out⟩
                      case measure => simp [RowKit.intOf]; omega
                  -- @M end
                · have hd1 : decide ((m : Int) < (nr : Int)) = false := decide_eq_false (by omega)
                  clear hbm
                  go_wp2_with fail
                  go_roundw
                  case rel => exact ⟨i + 1, by go_num, by omega, HB6.out.trans (HBM.out.mono HB6.out.size)⟩
                  case measure => simp [RowKit.intOf]; omega
              -- @L end
          -- @G end
        · skip
          -- @B
          have HROW := Lib.hid hrow
          clear hrow
          go_wp2_with (first
            | (go_at_call 14; have ho := dVis_bad ra rc rl wr (HRO.out _ HBW.out) HROW.out; unfold OrdNo at ho; rw [HNR.out] at ho; refine ho.mono ?_; rintro x5 w5 ⟨rfl, hb5⟩; have HBW5 := Lib.hid (HBW.out.trans (hb5.mono HBW.out.size)); have HB5 := Lib.hid (HB.out.trans (hb5.mono HB.out.size)); clear hb5 ho)
            | (go_at_call 6; have ho := dText_bad ra rc rl w5 (HRO.out _ HBW5.out) HROW.out; unfold TextPost at ho; rw [HNR.out] at ho; refine ho.mono ?_; rintro x6 w6 ⟨rfl, hb6⟩; have HB6 := Lib.hid (HB5.out.trans (hb6.mono HB5.out.size)); clear hb6 ho)
            | (go_at_call 7; refine (num6_same _ _).mono ?_; rintro xn wn ⟨rfl, hnn⟩; have hns := hnn.symm; clear hnn; subst hns)
            | fail)
          go_roundw
          case rel => exact ⟨i + 1, by go_num, by omega, HB6.out⟩
          case measure => simp [RowKit.intOf]; omega
          -- @B end
      · have hd4 : decide ((i : Int) < 4) = false := decide_eq_false h4
        go_wp2_with (first | (go_at_call 13; refine (HWK.out _).mono ?_; rintro x2 w2 ⟨rfl, hb2⟩; have HB2 := Lib.hid (HBW.out.trans (hb2.mono HBW.out.size)); clear hb2) | fail)
        go_ret
        exact ⟨rfl, HB2.out⟩
    · have hd4 : decide ((i : Int) < (n0 : Int)) = false := decide_eq_false (by omega)
      go_wp2_with (first | (go_at_call 13; refine (HWK.out _).mono ?_; rintro x2 w2 ⟨rfl, hb2⟩; have HB2 := Lib.hid (HBW.out.trans (hb2.mono HBW.out.size)); clear hb2) | fail)
      go_ret
      exact ⟨rfl, HB2.out⟩
end Go.Proofs.Ytebkeocfgcekmaa
