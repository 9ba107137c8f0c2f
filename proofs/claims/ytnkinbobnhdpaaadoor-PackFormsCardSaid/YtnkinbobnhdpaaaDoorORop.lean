/- the page's own word on which ops may be: all of it -/
import Derived.Test.YtnkinbobnhdpaaaDoorOOk
import Derived.Test.YtnkinbobnhdpaaaDoorPOp
namespace Go.Proofs.YtnkinbobnhdpaaaDoor
open Go.RowKit Go.Lib

theorem ok_toggle {o : OpD} (hk : o.kind = 2) : okTog o = okOp o := by
  unfold okTog okOp okToggle
  rw [if_neg (by omega), if_pos hk]
  have e1 : decide (o.text = ⟨#[]⟩) = emptyB o.text := rfl
  have e2 : decide (¬ (o.of = o.site ∧ o.num = o.seq)) = !decide (o.of = o.site ∧ o.num = o.seq) := by simp
  rw [e1, e2]
  generalize nameB o.site o.seq = b1
  generalize nameB o.of o.num = b2
  generalize decide (o.of = o.site ∧ o.num = o.seq) = b3
  generalize btw o.gen 0 268435456 = b4
  generalize o.after.begin = b5
  generalize emptyB o.text = b6
  generalize decide (o.gone.length = 0) = b7
  cases b1 <;> cases b2 <;> cases b3 <;> cases b4 <;> cases b5 <;> cases b6 <;> cases b7 <;> rfl
theorem ok_head {o : OpD} (hk : o.kind = 1) (h : okHead o = false) : okOp o = false := by
  cases ho : okOp o
  · rfl
  · exfalso
    unfold okOp at ho
    rw [if_pos hk] at ho
    unfold okEdit OpD.head OpD.none okGone emptyB at ho
    simp only [Bool.and_eq_true, Bool.not_eq_true'] at ho
    obtain ⟨h1, ⟨h2, h3, h4⟩, h5, _, _, h6, _⟩ := ho
    unfold okHead at h
    rw [h1, h2, h3, h4, h6, h5] at h
    cases h
theorem ok_edit {o : OpD} (hk : o.kind = 1) (h : okHead o = true) : okOp o = (okTx o.text && (okAfter o && gOk o.site o.seq none o.gone)) ∧ nameB o.site o.seq = true ∧ o.of = 0 ∧ o.num = 0 ∧ o.gen = 0 ∧ o.gone.length ≤ 200 ∧ (emptyB o.text && decide (o.gone.length = 0)) = false := by
  unfold okHead at h
  simp only [Bool.and_eq_true, Bool.not_eq_true', decide_eq_true_eq] at h
  obtain ⟨h1, h2, h3, h4, h6, h5⟩ := h
  refine ⟨?_, h1, h2, h3, h4, h6, h5⟩
  unfold okOp okEdit okGone OpD.head OpD.none emptyB
  rw [if_pos hk, h1, h5, h2, h3, h4, show decide (o.gone.length ≤ 200) = true from decide_eq_true h6]
  simp
theorem begin_ok {e : El} (h : e.ok = false) : e.begin = false := by
  cases hb : e.begin
  · rfl
  · unfold El.ok at h; rw [hb] at h; cases h
theorem begin_own {e : El} {s q : Int} (hb : e.begin = true) (hn : nameB s q = true) : e.own s q = false := by
  have h1 : e.s = 0 ∧ e.q = 0 ∧ e.i = 0 := of_decide_eq_true hb
  have h2 := nameB_of hn
  exact decide_eq_false (fun h => by omega)
theorem okTx_of {s : ByteArray} (h : okT s = true) : okTx s = decide ((rns s).length ≤ 12) := by unfold okTx; rw [h]; rfl
theorem okAfter_not {o : OpD} (h : o.after.ok = false) : okAfter o = false := by
  unfold okAfter
  split
  · exact begin_ok h
  · rw [h]; rfl
theorem okAfter_empty {o : OpD} (h : o.text = ⟨#[]⟩) : okAfter o = o.after.begin := by unfold okAfter; rw [if_pos h]
theorem okAfter_some {o : OpD} (h : ¬ o.text = ⟨#[]⟩) : okAfter o = (o.after.ok && !o.after.own o.site o.seq) := by unfold okAfter; rw [if_neg h]

set_option maxRecDepth 100000 in
set_option maxHeartbeats 4000000 in
theorem rOp_edit (o : OpD) (a : Option Addr) (cap : Nat) (w : World) (hT : Tabs w) (hs : o.text.size ≤ 60000) (hg : ElemsAt w a o.gone) (hk : o.kind = 1) (hh : okHead o = true) : Calls Tryd.prog 17 #[o.v a cap] w (BoB (okOp o) w) := by
  obtain ⟨hE, hnm, hof, hnu, hge, h200, hne⟩ := ok_edit hk hh
  have HE := Lib.hid hE
  have HAN := Lib.hid (@okAfter_not o)
  have HAE := Lib.hid (@okAfter_empty o)
  have HAS := Lib.hid (@okAfter_some o)
  generalize okOp o = res at *
  have HR := Lib.hid (fun w h => rRunes_any o.text w h hs)
  have HO := Lib.hid (fun e w => own4_any o a cap e w)
  have HT := Lib.hid hT
  have HNM := Lib.hid hnm
  have HOT := Lib.hid (@okTx_of o.text)
  generalize okAfter o = oa at *
  clear hE hh hT
  obtain ⟨site, seq, kind, ⟨es, eq, ei⟩, text, gone, of, num, gen⟩ := o
  have hb0 : Below w.heap.size w (w.alloc (OpD.obj ⟨site, seq, kind, ⟨es, eq, ei⟩, text, gone, of, num, gen⟩ a cap)) := (Below.refl _ _).alloc (Nat.le_refl _) _
  have HX := Lib.hid (BoxO.new w ⟨site, seq, kind, ⟨es, eq, ei⟩, text, gone, of, num, gen⟩ a cap)
  unfold OpD.obj at hb0 HX
  have HB := Lib.hid hb0
  clear hb0
  unfold OpD.v at *
  simp only at hk hs hg hnm hof hnu hge h200 hne HR HO HAN HAE HAS HE HNM HOT ⊢
  subst hk hof hnu hge
  have HN := Lib.hid (fun w => name_any site seq w)
  rw [hnm] at HN
  have HG := Lib.hid (hg.below HB.out)
  have hrz := rns_zero (s := text)
  have HRZ := Lib.hid hrz
  have hcase : (text = ⟨#[]⟩ ∧ ((gone.length : Int) == 0) = false) ∨ (¬ text.toList = [] ∧ text.toList.isEmpty = false) := by
    rcases text_cases text with h | ⟨h1, h2, h3⟩
    · left
      refine ⟨h, ?_⟩
      subst h
      have h9 : ¬ gone.length = 0 := fun h => by rw [h] at hne; cases hne
      rw [beq_eq_false_iff_ne]; omega
    · exact .inr ⟨h2, h3⟩
  have HL200 := Lib.hid h200
  obtain ⟨n, hn⟩ : ∃ n, gone.length = n := ⟨_, rfl⟩
  have HL := Lib.hid hn
  rw [hn] at h200
  have hd : decide ((200 : Int) < (n : Int)) = false := by simp; omega
  simp only [hn] at hcase HX HB HO HG ⊢
  clear hne hnm hg hn hrz
  have HTX := Lib.hid (HT.out.next HB.out)
  rcases hcase with ⟨rfl, hgn⟩ | ⟨ht1, ht2⟩
  case inl =>
    go_enter Tryd.func17, Tryd.ntmps17
    go_wp2_with fail
    refine (HN.out _).mono ?_
    rintro x w0 ⟨rfl, rfl⟩
    go_wp2_with fail
    generalize w.alloc (.cells #[.int .i64 site, .int .i64 seq, .int .i64 1, .int .i64 es, .int .i64 eq, .int .i64 ei, .string _, .slice a n cap, .int .i64 0, .int .i64 0, .int .i64 0] 36) = W0 at *
    refine (HR.out _ HTX.out).mono ?_
    rintro x w1 (⟨hk1, ar, cr, rfl, _, _, _, hb1⟩ | ⟨hk1, rfl, hb1⟩)
    case inr =>
      have HB1 := Lib.hid (HB.out.trans (hb1.mono HB.out.size))
      have HRES := Lib.hid (show res = false from by rw [HE.out]; unfold okTx; rw [hk1]; rfl)
      clear hb1 hk1
      go_wp2_with fail
      go_ret
      exact ⟨ret_bool HRES.out.symm, HB1.out⟩
    have HB1 := Lib.hid (HB.out.trans (hb1.mono HB.out.size))
    have HX1 := Lib.hid (HX.out.step hb1)
    have HG1 := Lib.hid (HG.out.below hb1)
    have HTX1 := Lib.hid (HOT.out hk1)
    have HZ := HRZ.out
    clear hb1 hk1 HR HTX
    have hr0 : (rns ⟨#[]⟩).length = 0 := rfl
    rw [hr0]
    clear HZ
    have f3 := HX1.out.c3
    have f4 := HX1.out.c4
    have f5 := HX1.out.c5
    simp only at f3 f4 f5
    cases haf : El.ok ⟨es, eq, ei⟩
    · have HRES := Lib.hid (show res = false from by rw [HE.out, HAN.out haf]; simp)
      have HEL := Lib.hid (fun w => rElem_any ⟨es, eq, ei⟩ w)
      rw [haf] at HEL
      unfold El.v at HEL
      simp only at HEL
      clear haf
      go_wp2_with fail
      refine (HEL.out _).mono ?_
      rintro x w2 ⟨rfl, hb2⟩
      have HB2 := Lib.hid (HB1.out.trans (hb2.mono HB1.out.size))
      clear hb2
      go_wp2_with fail
      go_ret
      exact ⟨ret_bool HRES.out.symm, HB2.out⟩
    have HEL := Lib.hid (fun w => rElem_any ⟨es, eq, ei⟩ w)
    rw [haf] at HEL
    unfold El.v at HEL
    simp only at HEL
    go_wp2_with fail
    clear f3 f4 f5
    refine (HEL.out _).mono ?_
    rintro x w2 ⟨rfl, hb2⟩
    have HB2 := Lib.hid (HB1.out.trans (hb2.mono HB1.out.size))
    have HX2 := Lib.hid (HX1.out.step hb2)
    have HG2 := Lib.hid (HG1.out.below hb2)
    clear hb2 HX1 HB1 HG1
    have HBG := Lib.hid (fun w => Begin_any ⟨es, eq, ei⟩ w)
    have HRB := Lib.hid (show res = (true && (El.begin ⟨es, eq, ei⟩ && gOk site seq none gone)) from by rw [HE.out, HAE.out (by trivial), HTX1.out]; rfl)
    unfold El.v at HBG
    simp only at HBG
    have f3 := HX2.out.c3
    have f4 := HX2.out.c4
    have f5 := HX2.out.c5
    simp only at f3 f4 f5
    cases hbe : El.begin ⟨es, eq, ei⟩
    · rw [hbe] at HBG HRB
      clear hbe haf
      go_wp2_with fail
      refine (HBG.out _).mono ?_
      rintro x w3 ⟨rfl, hb3⟩
      have HB3 := Lib.hid (HB2.out.trans (hb3.mono HB2.out.size))
      clear hb3
      go_wp2_with fail
      go_ret
      exact ⟨ret_bool (by rw [HRB.out]; rfl), HB3.out⟩
    rw [hbe] at HBG HRB
    have HOO := Lib.hid (fun w => HO.out ⟨es, eq, ei⟩ w)
    rw [begin_own hbe HNM.out] at HOO
    have HRES := Lib.hid (show res = gOk site seq none gone from by rw [HRB.out]; rfl)
    unfold El.v at HOO
    simp only at HOO
    clear hbe haf HRB
    go_wp2_with fail
    clear f3 f4 f5
    refine (HBG.out _).mono ?_
    rintro x w3 ⟨rfl, hb3⟩
    have HB3 := Lib.hid (HB2.out.trans (hb3.mono HB2.out.size))
    have HX3 := Lib.hid (HX2.out.step hb3)
    have HG3 := Lib.hid (HG2.out.below hb3)
    clear hb3 HX2 HB2 HG2
    have g0 := HX3.out.c0
    have g1 := HX3.out.c1
    have g2 := HX3.out.c2
    have g3 := HX3.out.c3
    have g4 := HX3.out.c4
    have g5 := HX3.out.c5
    have g6 := HX3.out.c6
    have g7 := HX3.out.c7
    have g8 := HX3.out.c8
    have g9 := HX3.out.c9
    have ga := HX3.out.ca
    simp only at g0 g1 g2 g3 g4 g5 g6 g8 g9 ga
    simp only [HL.out] at g7
    go_wp2_with fail
    clear g0 g1 g2 g3 g4 g5 g6 g7 g8 g9 ga
    refine (HOO.out _).mono ?_
    rintro x w4 ⟨rfl, hb4⟩
    have HB4 := Lib.hid (HB3.out.trans (hb4.mono HB3.out.size))
    have HX4 := Lib.hid (HX3.out.step hb4)
    have HG4 := Lib.hid (HG3.out.below hb4)
    clear hb4 HX3 HB3 HG3
    clear HE HAN HAE HAS HOT HOO HEL HTX1
    go_wp2_with fail
    go_loopw [5] (fun i wr => ∃ k : Nat, k ≤ n ∧ i = .int .i64 k ∧ gOk site seq none gone = gOk site seq (prevE gone k) (gone.drop k) ∧ Below w4.heap.size w4 wr) (fun i _ => n - (RowKit.intOf i).toNat)
    case atStart => exact ⟨0, by omega, rfl, rfl, Below.refl _ _⟩
    case round =>
      obtain ⟨k, hk, rfl, hgk, hbel⟩ := hrel
      have HK := Lib.hid hgk
      have HXr := Lib.hid (HX4.out.step hbel)
      have c7 := HXr.out.c7
      simp only [HL.out] at c7
      clear hgk
      by_cases hlt : k < n
      · have hltg : k < gone.length := by rw [HL.out]; exact hlt
        have HGr := Lib.hid (HG4.out.below hbel)
        obtain ⟨b1, o1, h1, hb1, hc1, hc2, hc3⟩ := HGr.out.cell k hltg
        have HS := Lib.hid (HK.out.trans (gOk_step site seq gone k hltg))
        have HP := Lib.hid (show ∀ j, k = j + 1 → ∃ p : El, gone[j]? = some p ∧ wr.cell? ⟨b1, o1 + j * 3, none⟩ = some (.int .i64 p.s) ∧ wr.cell? ⟨b1, o1 + j * 3 + 1, none⟩ = some (.int .i64 p.q) ∧ wr.cell? ⟨b1, o1 + j * 3 + 2, none⟩ = some (.int .i64 p.i) from fun j hj => by
          obtain ⟨b2, o2, h2, hb2, hd1, hd2, hd3⟩ := HGr.out.cell j (by omega)
          rw [h1] at h2
          simp only [Option.some.injEq, Addr.mk.injEq] at h2
          obtain ⟨rfl, rfl, _⟩ := h2
          exact ⟨gone[j], by simp, hd1, hd2, hd3⟩)
        clear HK
        generalize gone[k] = e at *
        have HBg := Lib.hid (fun w => Begin_any e w)
        have HEl := Lib.hid (fun w => rElem_any e w)
        have HOn := Lib.hid (fun w => HO.out e w)
        subst h1
        have q0 := cell_regrown hc1
        have q1 := cell_regrown hc2
        have q2 := cell_regrown hc3
        have HC7 := Lib.hid c7
        have i0 := cell_regrown HXr.out.c0
        have i1 := cell_regrown HXr.out.c1
        have i2 := cell_regrown HXr.out.c2
        have i3 := cell_regrown HXr.out.c3
        have i4 := cell_regrown HXr.out.c4
        have i5 := cell_regrown HXr.out.c5
        have i6 := cell_regrown HXr.out.c6
        have i8 := cell_regrown HXr.out.c8
        have i9 := cell_regrown HXr.out.c9
        have ia := cell_regrown HXr.out.ca
        simp only at i0 i1 i2 i3 i4 i5 i6 i8 i9 ia
        clear hc1 hc2 hc3
        cases hbg : e.begin
        · rw [hbg] at HBg HS
          cases hok : e.ok
          · rw [hok] at HEl HS
            clear hbg hok
            go_wp2_with fail
            clear c7
            have i7 := cell_regrown HC7.out
            refine wp_region_quiet_below (by kernel_rfl) (by kernel_rfl) ?_
            repeat (first | go_big_quiet_step (first | exact Calls.regrown_of (HBg.out _) | exact Calls.regrown_of (HEl.out _) | exact Calls.regrown_of (HOn.out _)) | quiet_step (first | exact Calls.regrown_of (HBg.out _) | exact Calls.regrown_of (HEl.out _) | exact Calls.regrown_of (HOn.out _)))
            refine wpQuiet_nil ?_
            intro _ hw'
            obtain ⟨⟨dq, osq⟩, hw''⟩ := hw'
            subst hw''
            have hbv := hbel.trans ((below_regrown wr dq osq).mono hbel.size)
            clear q0 q1 q2 i0 i1 i2 i3 i4 i5 i6 i8 i9 ia i7
            generalize Sort.grow (redrawn wr dq) osq = wv at *
            go_wp2_with fail
            go_ret
            exact ⟨ret_bool (by rw [HRES.out, HS.out]; rfl), HB4.out.trans (hbv.mono HB4.out.size)⟩
          · rw [hok] at HEl HS
            cases hon : El.own site seq e
            · rw [hon] at HOn HS
              by_cases hk0 : k = 0
              · subst hk0
                simp only [Nat.zero_mul, Nat.add_zero] at q0 q1 q2
                clear hbg hok hon
                go_wp2_with fail
                clear c7
                have i7 := cell_regrown HC7.out
                refine wp_region_quiet_below (by kernel_rfl) (by kernel_rfl) ?_
                repeat (first | go_big_quiet_step (first | exact Calls.regrown_of (HBg.out _) | exact Calls.regrown_of (HEl.out _) | exact Calls.regrown_of (HOn.out _)) | quiet_step (first | exact Calls.regrown_of (HBg.out _) | exact Calls.regrown_of (HEl.out _) | exact Calls.regrown_of (HOn.out _)))
                refine wpQuiet_nil ?_
                intro _ hw'
                obtain ⟨⟨dq, osq⟩, hw''⟩ := hw'
                subst hw''
                have hbv := hbel.trans ((below_regrown wr dq osq).mono hbel.size)
                clear q0 q1 q2 i0 i1 i2 i3 i4 i5 i6 i8 i9 ia i7
                generalize Sort.grow (redrawn wr dq) osq = wv at *
                go_wp2_with fail
                go_roundw
                case rel => exact ⟨1, by omega, by go_num, by rw [HS.out]; rfl, hbv⟩
                case measure => simp [RowKit.intOf]; omega
              · obtain ⟨j, rfl⟩ : ∃ j, k = j + 1 := ⟨k - 1, by omega⟩
                obtain ⟨p, hp, d1, d2, d3⟩ := HP.out j rfl
                have p0 := cell_regrown d1
                have p1 := cell_regrown d2
                have p2 := cell_regrown d3
                have hjw : wrap64 (((j + 1 : Nat) : Int) - 1) = (j : Int) := by rw [IntWalk.wrap64_in _ ⟨by omega, by omega⟩]; omega
                have HPP := Lib.hid hp
                have HLs := Lib.hid (fun w => Less_any p e w)
                clear d1 d2 d3 hp hbg hok hon
                cases hlt2 : p.lt e
                · rw [hlt2] at HLs
                  have HRR := Lib.hid (show res = false from by rw [HRES.out, HS.out, prevE, HPP.out, pairOk, hlt2]; rfl)
                  clear hlt2
                  go_wp2_with fail
                  clear c7
                  have i7 := cell_regrown HC7.out
                  refine wp_region_quiet_below (by kernel_rfl) (by kernel_rfl) ?_
                  repeat (first | go_big_quiet_step (first | exact Calls.regrown_of (HBg.out _) | exact Calls.regrown_of (HEl.out _) | exact Calls.regrown_of (HOn.out _) | exact Calls.regrown_of (HLs.out _)) | quiet_step (first | exact Calls.regrown_of (HBg.out _) | exact Calls.regrown_of (HEl.out _) | exact Calls.regrown_of (HOn.out _) | exact Calls.regrown_of (HLs.out _)))
                  refine wpQuiet_nil ?_
                  intro _ hw'
                  obtain ⟨⟨dq, osq⟩, hw''⟩ := hw'
                  subst hw''
                  have hbv := hbel.trans ((below_regrown wr dq osq).mono hbel.size)
                  clear q0 q1 q2 i0 i1 i2 i3 i4 i5 i6 i8 i9 ia i7 p0 p1 p2 hjw
                  generalize Sort.grow (redrawn wr dq) osq = wv at *
                  go_wp2_with fail
                  go_ret
                  exact ⟨ret_bool HRR.out.symm, HB4.out.trans (hbv.mono HB4.out.size)⟩
                · rw [hlt2] at HLs
                  have HRR := Lib.hid (show gOk site seq none gone = gOk site seq (prevE gone (j + 1 + 1)) (gone.drop (j + 1 + 1)) from by rw [HS.out, prevE, HPP.out, pairOk, hlt2]; rfl)
                  clear hlt2
                  go_wp2_with fail
                  clear c7
                  have i7 := cell_regrown HC7.out
                  refine wp_region_quiet_below (by kernel_rfl) (by kernel_rfl) ?_
                  repeat (first | go_big_quiet_step (first | exact Calls.regrown_of (HBg.out _) | exact Calls.regrown_of (HEl.out _) | exact Calls.regrown_of (HOn.out _) | exact Calls.regrown_of (HLs.out _)) | quiet_step (first | exact Calls.regrown_of (HBg.out _) | exact Calls.regrown_of (HEl.out _) | exact Calls.regrown_of (HOn.out _) | exact Calls.regrown_of (HLs.out _)))
                  refine wpQuiet_nil ?_
                  intro _ hw'
                  obtain ⟨⟨dq, osq⟩, hw''⟩ := hw'
                  subst hw''
                  have hbv := hbel.trans ((below_regrown wr dq osq).mono hbel.size)
                  clear q0 q1 q2 i0 i1 i2 i3 i4 i5 i6 i8 i9 ia i7 p0 p1 p2 hjw
                  generalize Sort.grow (redrawn wr dq) osq = wv at *
                  go_wp2_with fail
                  go_roundw
                  case rel => exact ⟨j + 1 + 1, by omega, by go_num, HRR.out, hbv⟩
                  case measure => simp [RowKit.intOf]; omega
            · rw [hon] at HOn HS
              clear hbg hok hon
              go_wp2_with fail
              clear c7
              have i7 := cell_regrown HC7.out
              refine wp_region_quiet_below (by kernel_rfl) (by kernel_rfl) ?_
              repeat (first | go_big_quiet_step (first | exact Calls.regrown_of (HBg.out _) | exact Calls.regrown_of (HEl.out _) | exact Calls.regrown_of (HOn.out _)) | quiet_step (first | exact Calls.regrown_of (HBg.out _) | exact Calls.regrown_of (HEl.out _) | exact Calls.regrown_of (HOn.out _)))
              refine wpQuiet_nil ?_
              intro _ hw'
              obtain ⟨⟨dq, osq⟩, hw''⟩ := hw'
              subst hw''
              have hbv := hbel.trans ((below_regrown wr dq osq).mono hbel.size)
              clear q0 q1 q2 i0 i1 i2 i3 i4 i5 i6 i8 i9 ia i7
              generalize Sort.grow (redrawn wr dq) osq = wv at *
              go_wp2_with fail
              go_ret
              exact ⟨ret_bool (by rw [HRES.out, HS.out]; rfl), HB4.out.trans (hbv.mono HB4.out.size)⟩
        · rw [hbg] at HBg HS
          clear hbg
          go_wp2_with fail
          clear c7
          have i7 := cell_regrown HC7.out
          refine wp_region_quiet_below (by kernel_rfl) (by kernel_rfl) ?_
          repeat (first | go_big_quiet_step (first | exact Calls.regrown_of (HBg.out _) | exact Calls.regrown_of (HEl.out _) | exact Calls.regrown_of (HOn.out _)) | quiet_step (first | exact Calls.regrown_of (HBg.out _) | exact Calls.regrown_of (HEl.out _) | exact Calls.regrown_of (HOn.out _)))
          refine wpQuiet_nil ?_
          intro _ hw'
          obtain ⟨⟨dq, osq⟩, hw''⟩ := hw'
          subst hw''
          have hbv := hbel.trans ((below_regrown wr dq osq).mono hbel.size)
          clear q0 q1 q2 i0 i1 i2 i3 i4 i5 i6 i8 i9 ia i7
          generalize Sort.grow (redrawn wr dq) osq = wv at *
          go_wp2_with fail
          go_ret
          exact ⟨ret_bool (by rw [HRES.out, HS.out]; rfl), HB4.out.trans (hbv.mono HB4.out.size)⟩
      · have HF := Lib.hid (HRES.out.trans (HK.out.trans (gOk_end site seq gone k (by rw [HL.out]; omega) _)))
        clear HK
        go_wp2_with fail
        go_ret
        exact ⟨ret_bool HF.out.symm, HB4.out.trans (hbel.mono HB4.out.size)⟩
  case inr =>
    go_enter Tryd.func17, Tryd.ntmps17
    go_wp2_with fail
    refine (HN.out _).mono ?_
    rintro x w0 ⟨rfl, rfl⟩
    go_wp2_with fail
    generalize w.alloc (.cells #[.int .i64 site, .int .i64 seq, .int .i64 1, .int .i64 es, .int .i64 eq, .int .i64 ei, .string _, .slice a n cap, .int .i64 0, .int .i64 0, .int .i64 0] 36) = W0 at *
    refine (HR.out _ HTX.out).mono ?_
    rintro x w1 (⟨hk1, ar, cr, rfl, _, _, _, hb1⟩ | ⟨hk1, rfl, hb1⟩)
    case inr =>
      have HB1 := Lib.hid (HB.out.trans (hb1.mono HB.out.size))
      have HRES := Lib.hid (show res = false from by rw [HE.out]; unfold okTx; rw [hk1]; rfl)
      clear hb1 hk1
      go_wp2_with fail
      go_ret
      exact ⟨ret_bool HRES.out.symm, HB1.out⟩
    have HB1 := Lib.hid (HB.out.trans (hb1.mono HB.out.size))
    have HX1 := Lib.hid (HX.out.step hb1)
    have HG1 := Lib.hid (HG.out.below hb1)
    have HTX1 := Lib.hid (HOT.out hk1)
    have HZ := HRZ.out
    clear hb1 hk1 HR HTX
    have hnz : ¬ (rns text).length = 0 := fun h => ht1 ((toList_nil_iff_emptyBytes text).2 (HZ.1 h))
    have HTE := Lib.hid (show ¬ text = ⟨#[]⟩ from fun h => ht1 ((toList_nil_iff_emptyBytes text).2 h))
    generalize (rns text).length = L at *
    clear HZ
    by_cases h12 : L ≤ 12
    case neg =>
      have d12 : decide ((12 : Int) < (L : Int)) = true := by simp; omega
      have HRES := Lib.hid (show res = false from by rw [HE.out, HTX1.out, show decide (L ≤ 12) = false from decide_eq_false h12]; rfl)
      clear h12
      go_wp2_with fail
      go_ret
      exact ⟨ret_bool HRES.out.symm, HB1.out⟩
    have d12 : decide ((12 : Int) < (L : Int)) = false := by simp; omega
    have dz : ((L : Int) == 0) = false := by simp; omega
    have HTX2 := Lib.hid (show okTx text = true from by rw [HTX1.out]; exact decide_eq_true h12)
    clear h12 hnz
    have f3 := HX1.out.c3
    have f4 := HX1.out.c4
    have f5 := HX1.out.c5
    simp only at f3 f4 f5
    cases haf : El.ok ⟨es, eq, ei⟩
    · have HRES := Lib.hid (show res = false from by rw [HE.out, HAN.out haf]; simp)
      have HEL := Lib.hid (fun w => rElem_any ⟨es, eq, ei⟩ w)
      rw [haf] at HEL
      unfold El.v at HEL
      simp only at HEL
      clear haf
      go_wp2_with fail
      refine (HEL.out _).mono ?_
      rintro x w2 ⟨rfl, hb2⟩
      have HB2 := Lib.hid (HB1.out.trans (hb2.mono HB1.out.size))
      clear hb2
      go_wp2_with fail
      go_ret
      exact ⟨ret_bool HRES.out.symm, HB2.out⟩
    have HEL := Lib.hid (fun w => rElem_any ⟨es, eq, ei⟩ w)
    rw [haf] at HEL
    unfold El.v at HEL
    simp only at HEL
    go_wp2_with fail
    clear f3 f4 f5
    refine (HEL.out _).mono ?_
    rintro x w2 ⟨rfl, hb2⟩
    have HB2 := Lib.hid (HB1.out.trans (hb2.mono HB1.out.size))
    have HX2 := Lib.hid (HX1.out.step hb2)
    have HG2 := Lib.hid (HG1.out.below hb2)
    clear hb2 HX1 HB1 HG1
    have HRB := Lib.hid (show res = (!El.own site seq ⟨es, eq, ei⟩ && gOk site seq none gone) from by rw [HE.out, HAS.out HTE.out, HTX2.out, haf]; rfl)
    have HOO := Lib.hid (fun w => HO.out ⟨es, eq, ei⟩ w)
    unfold El.v at HOO
    simp only at HOO
    clear haf
    have g0 := HX2.out.c0
    have g1 := HX2.out.c1
    have g2 := HX2.out.c2
    have g3 := HX2.out.c3
    have g4 := HX2.out.c4
    have g5 := HX2.out.c5
    have g6 := HX2.out.c6
    have g7 := HX2.out.c7
    have g8 := HX2.out.c8
    have g9 := HX2.out.c9
    have ga := HX2.out.ca
    simp only at g0 g1 g2 g3 g4 g5 g6 g8 g9 ga
    simp only [HL.out] at g7
    cases hown : El.own site seq ⟨es, eq, ei⟩
    case true =>
      rw [hown] at HOO HRB
      clear hown
      go_wp2_with fail
      refine (HOO.out _).mono ?_
      rintro x w4 ⟨rfl, hb4⟩
      have HB4 := Lib.hid (HB2.out.trans (hb4.mono HB2.out.size))
      clear hb4
      clear g0 g1 g2 g3 g4 g5 g6 g7 g8 g9 ga
      go_wp2_with fail
      go_ret
      exact ⟨ret_bool (by rw [HRB.out]; rfl), HB4.out⟩
    rw [hown] at HOO HRB
    have HRES := Lib.hid (show res = gOk site seq none gone from by rw [HRB.out]; rfl)
    clear hown HRB
    go_wp2_with fail
    clear g0 g1 g2 g3 g4 g5 g6 g7 g8 g9 ga
    refine (HOO.out _).mono ?_
    rintro x w4 ⟨rfl, hb4⟩
    have HB4 := Lib.hid (HB2.out.trans (hb4.mono HB2.out.size))
    have HX4 := Lib.hid (HX2.out.step hb4)
    have HG4 := Lib.hid (HG2.out.below hb4)
    clear hb4 HX2 HB2 HG2
    clear HE HAN HAE HAS HOT HOO HEL HTX1
    go_wp2_with fail
    go_loopw [5] (fun i wr => ∃ k : Nat, k ≤ n ∧ i = .int .i64 k ∧ gOk site seq none gone = gOk site seq (prevE gone k) (gone.drop k) ∧ Below w4.heap.size w4 wr) (fun i _ => n - (RowKit.intOf i).toNat)
    case atStart => exact ⟨0, by omega, rfl, rfl, Below.refl _ _⟩
    case round =>
      obtain ⟨k, hk, rfl, hgk, hbel⟩ := hrel
      have HK := Lib.hid hgk
      have HXr := Lib.hid (HX4.out.step hbel)
      have c7 := HXr.out.c7
      simp only [HL.out] at c7
      clear hgk
      by_cases hlt : k < n
      · have hltg : k < gone.length := by rw [HL.out]; exact hlt
        have HGr := Lib.hid (HG4.out.below hbel)
        obtain ⟨b1, o1, h1, hb1, hc1, hc2, hc3⟩ := HGr.out.cell k hltg
        have HS := Lib.hid (HK.out.trans (gOk_step site seq gone k hltg))
        have HP := Lib.hid (show ∀ j, k = j + 1 → ∃ p : El, gone[j]? = some p ∧ wr.cell? ⟨b1, o1 + j * 3, none⟩ = some (.int .i64 p.s) ∧ wr.cell? ⟨b1, o1 + j * 3 + 1, none⟩ = some (.int .i64 p.q) ∧ wr.cell? ⟨b1, o1 + j * 3 + 2, none⟩ = some (.int .i64 p.i) from fun j hj => by
          obtain ⟨b2, o2, h2, hb2, hd1, hd2, hd3⟩ := HGr.out.cell j (by omega)
          rw [h1] at h2
          simp only [Option.some.injEq, Addr.mk.injEq] at h2
          obtain ⟨rfl, rfl, _⟩ := h2
          exact ⟨gone[j], by simp, hd1, hd2, hd3⟩)
        clear HK
        generalize gone[k] = e at *
        have HBg := Lib.hid (fun w => Begin_any e w)
        have HEl := Lib.hid (fun w => rElem_any e w)
        have HOn := Lib.hid (fun w => HO.out e w)
        subst h1
        have q0 := cell_regrown hc1
        have q1 := cell_regrown hc2
        have q2 := cell_regrown hc3
        have HC7 := Lib.hid c7
        have i0 := cell_regrown HXr.out.c0
        have i1 := cell_regrown HXr.out.c1
        have i2 := cell_regrown HXr.out.c2
        have i3 := cell_regrown HXr.out.c3
        have i4 := cell_regrown HXr.out.c4
        have i5 := cell_regrown HXr.out.c5
        have i6 := cell_regrown HXr.out.c6
        have i8 := cell_regrown HXr.out.c8
        have i9 := cell_regrown HXr.out.c9
        have ia := cell_regrown HXr.out.ca
        simp only at i0 i1 i2 i3 i4 i5 i6 i8 i9 ia
        clear hc1 hc2 hc3
        cases hbg : e.begin
        · rw [hbg] at HBg HS
          cases hok : e.ok
          · rw [hok] at HEl HS
            clear hbg hok
            go_wp2_with fail
            clear c7
            have i7 := cell_regrown HC7.out
            refine wp_region_quiet_below (by kernel_rfl) (by kernel_rfl) ?_
            repeat (first | go_big_quiet_step (first | exact Calls.regrown_of (HBg.out _) | exact Calls.regrown_of (HEl.out _) | exact Calls.regrown_of (HOn.out _)) | quiet_step (first | exact Calls.regrown_of (HBg.out _) | exact Calls.regrown_of (HEl.out _) | exact Calls.regrown_of (HOn.out _)))
            refine wpQuiet_nil ?_
            intro _ hw'
            obtain ⟨⟨dq, osq⟩, hw''⟩ := hw'
            subst hw''
            have hbv := hbel.trans ((below_regrown wr dq osq).mono hbel.size)
            clear q0 q1 q2 i0 i1 i2 i3 i4 i5 i6 i8 i9 ia i7
            generalize Sort.grow (redrawn wr dq) osq = wv at *
            go_wp2_with fail
            go_ret
            exact ⟨ret_bool (by rw [HRES.out, HS.out]; rfl), HB4.out.trans (hbv.mono HB4.out.size)⟩
          · rw [hok] at HEl HS
            cases hon : El.own site seq e
            · rw [hon] at HOn HS
              by_cases hk0 : k = 0
              · subst hk0
                simp only [Nat.zero_mul, Nat.add_zero] at q0 q1 q2
                clear hbg hok hon
                go_wp2_with fail
                clear c7
                have i7 := cell_regrown HC7.out
                refine wp_region_quiet_below (by kernel_rfl) (by kernel_rfl) ?_
                repeat (first | go_big_quiet_step (first | exact Calls.regrown_of (HBg.out _) | exact Calls.regrown_of (HEl.out _) | exact Calls.regrown_of (HOn.out _)) | quiet_step (first | exact Calls.regrown_of (HBg.out _) | exact Calls.regrown_of (HEl.out _) | exact Calls.regrown_of (HOn.out _)))
                refine wpQuiet_nil ?_
                intro _ hw'
                obtain ⟨⟨dq, osq⟩, hw''⟩ := hw'
                subst hw''
                have hbv := hbel.trans ((below_regrown wr dq osq).mono hbel.size)
                clear q0 q1 q2 i0 i1 i2 i3 i4 i5 i6 i8 i9 ia i7
                generalize Sort.grow (redrawn wr dq) osq = wv at *
                go_wp2_with fail
                go_roundw
                case rel => exact ⟨1, by omega, by go_num, by rw [HS.out]; rfl, hbv⟩
                case measure => simp [RowKit.intOf]; omega
              · obtain ⟨j, rfl⟩ : ∃ j, k = j + 1 := ⟨k - 1, by omega⟩
                obtain ⟨p, hp, d1, d2, d3⟩ := HP.out j rfl
                have p0 := cell_regrown d1
                have p1 := cell_regrown d2
                have p2 := cell_regrown d3
                have hjw : wrap64 (((j + 1 : Nat) : Int) - 1) = (j : Int) := by rw [IntWalk.wrap64_in _ ⟨by omega, by omega⟩]; omega
                have HPP := Lib.hid hp
                have HLs := Lib.hid (fun w => Less_any p e w)
                clear d1 d2 d3 hp hbg hok hon
                cases hlt2 : p.lt e
                · rw [hlt2] at HLs
                  have HRR := Lib.hid (show res = false from by rw [HRES.out, HS.out, prevE, HPP.out, pairOk, hlt2]; rfl)
                  clear hlt2
                  go_wp2_with fail
                  clear c7
                  have i7 := cell_regrown HC7.out
                  refine wp_region_quiet_below (by kernel_rfl) (by kernel_rfl) ?_
                  repeat (first | go_big_quiet_step (first | exact Calls.regrown_of (HBg.out _) | exact Calls.regrown_of (HEl.out _) | exact Calls.regrown_of (HOn.out _) | exact Calls.regrown_of (HLs.out _)) | quiet_step (first | exact Calls.regrown_of (HBg.out _) | exact Calls.regrown_of (HEl.out _) | exact Calls.regrown_of (HOn.out _) | exact Calls.regrown_of (HLs.out _)))
                  refine wpQuiet_nil ?_
                  intro _ hw'
                  obtain ⟨⟨dq, osq⟩, hw''⟩ := hw'
                  subst hw''
                  have hbv := hbel.trans ((below_regrown wr dq osq).mono hbel.size)
                  clear q0 q1 q2 i0 i1 i2 i3 i4 i5 i6 i8 i9 ia i7 p0 p1 p2 hjw
                  generalize Sort.grow (redrawn wr dq) osq = wv at *
                  go_wp2_with fail
                  go_ret
                  exact ⟨ret_bool HRR.out.symm, HB4.out.trans (hbv.mono HB4.out.size)⟩
                · rw [hlt2] at HLs
                  have HRR := Lib.hid (show gOk site seq none gone = gOk site seq (prevE gone (j + 1 + 1)) (gone.drop (j + 1 + 1)) from by rw [HS.out, prevE, HPP.out, pairOk, hlt2]; rfl)
                  clear hlt2
                  go_wp2_with fail
                  clear c7
                  have i7 := cell_regrown HC7.out
                  refine wp_region_quiet_below (by kernel_rfl) (by kernel_rfl) ?_
                  repeat (first | go_big_quiet_step (first | exact Calls.regrown_of (HBg.out _) | exact Calls.regrown_of (HEl.out _) | exact Calls.regrown_of (HOn.out _) | exact Calls.regrown_of (HLs.out _)) | quiet_step (first | exact Calls.regrown_of (HBg.out _) | exact Calls.regrown_of (HEl.out _) | exact Calls.regrown_of (HOn.out _) | exact Calls.regrown_of (HLs.out _)))
                  refine wpQuiet_nil ?_
                  intro _ hw'
                  obtain ⟨⟨dq, osq⟩, hw''⟩ := hw'
                  subst hw''
                  have hbv := hbel.trans ((below_regrown wr dq osq).mono hbel.size)
                  clear q0 q1 q2 i0 i1 i2 i3 i4 i5 i6 i8 i9 ia i7 p0 p1 p2 hjw
                  generalize Sort.grow (redrawn wr dq) osq = wv at *
                  go_wp2_with fail
                  go_roundw
                  case rel => exact ⟨j + 1 + 1, by omega, by go_num, HRR.out, hbv⟩
                  case measure => simp [RowKit.intOf]; omega
            · rw [hon] at HOn HS
              clear hbg hok hon
              go_wp2_with fail
              clear c7
              have i7 := cell_regrown HC7.out
              refine wp_region_quiet_below (by kernel_rfl) (by kernel_rfl) ?_
              repeat (first | go_big_quiet_step (first | exact Calls.regrown_of (HBg.out _) | exact Calls.regrown_of (HEl.out _) | exact Calls.regrown_of (HOn.out _)) | quiet_step (first | exact Calls.regrown_of (HBg.out _) | exact Calls.regrown_of (HEl.out _) | exact Calls.regrown_of (HOn.out _)))
              refine wpQuiet_nil ?_
              intro _ hw'
              obtain ⟨⟨dq, osq⟩, hw''⟩ := hw'
              subst hw''
              have hbv := hbel.trans ((below_regrown wr dq osq).mono hbel.size)
              clear q0 q1 q2 i0 i1 i2 i3 i4 i5 i6 i8 i9 ia i7
              generalize Sort.grow (redrawn wr dq) osq = wv at *
              go_wp2_with fail
              go_ret
              exact ⟨ret_bool (by rw [HRES.out, HS.out]; rfl), HB4.out.trans (hbv.mono HB4.out.size)⟩
        · rw [hbg] at HBg HS
          clear hbg
          go_wp2_with fail
          clear c7
          have i7 := cell_regrown HC7.out
          refine wp_region_quiet_below (by kernel_rfl) (by kernel_rfl) ?_
          repeat (first | go_big_quiet_step (first | exact Calls.regrown_of (HBg.out _) | exact Calls.regrown_of (HEl.out _) | exact Calls.regrown_of (HOn.out _)) | quiet_step (first | exact Calls.regrown_of (HBg.out _) | exact Calls.regrown_of (HEl.out _) | exact Calls.regrown_of (HOn.out _)))
          refine wpQuiet_nil ?_
          intro _ hw'
          obtain ⟨⟨dq, osq⟩, hw''⟩ := hw'
          subst hw''
          have hbv := hbel.trans ((below_regrown wr dq osq).mono hbel.size)
          clear q0 q1 q2 i0 i1 i2 i3 i4 i5 i6 i8 i9 ia i7
          generalize Sort.grow (redrawn wr dq) osq = wv at *
          go_wp2_with fail
          go_ret
          exact ⟨ret_bool (by rw [HRES.out, HS.out]; rfl), HB4.out.trans (hbv.mono HB4.out.size)⟩
      · have HF := Lib.hid (HRES.out.trans (HK.out.trans (gOk_end site seq gone k (by rw [HL.out]; omega) _)))
        clear HK
        go_wp2_with fail
        go_ret
        exact ⟨ret_bool HF.out.symm, HB4.out.trans (hbel.mono HB4.out.size)⟩

theorem rOp_any (o : OpD) (a : Option Addr) (cap : Nat) (w : World) (hT : Tabs w) (hs : o.text.size ≤ 60000) (hg : ElemsAt w a o.gone) : Calls Tryd.prog 17 #[o.v a cap] w (BoB (okOp o) w) := by
  by_cases hk2 : o.kind = 2
  · rw [← ok_toggle hk2]
    exact rOp_toggle o a cap w hk2
  by_cases hk1 : o.kind = 1
  · cases hh : okHead o
    · rw [ok_head hk1 hh]
      exact rOp_head o a cap w hk1 hh
    · exact rOp_edit o a cap w hT hs hg hk1 hh
  · have : okOp o = false := by unfold okOp; rw [if_neg hk1, if_neg hk2]; simp
    rw [this]
    exact rOp_other o a cap w hk2 hk1
end Go.Proofs.YtnkinbobnhdpaaaDoor
