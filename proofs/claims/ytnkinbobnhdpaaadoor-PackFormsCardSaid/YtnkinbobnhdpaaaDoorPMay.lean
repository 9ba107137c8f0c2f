/- package op: which texts, elements behind which, elements that go, edits, toggles, ops may be -/
import Derived.Test.YtnkinbobnhdpaaaDoorPElem
import Derived.Test.YtnkinbobnhdpaaaDoorOBox
import Derived.Test.YtnkinbobnhdpaaaDoorRRunes
namespace Go.Proofs.YtnkinbobnhdpaaaDoor
open Go.RowKit Go.Lib

def LenIs (n er : Int) (w : World) (e : Ending) (w' : World) : Prop := e = .returned (.tuple #[.int .i64 n, .int .i64 er]) ∧ Below w.heap.size w w'
theorem Len_bad (s : ByteArray) (w : World) (hs : s.size ≤ 60000) (hk : okT s = false) : Calls Tryd.prog 128 #[.string s] w (LenIs 0 1 w) :=
  (Len_any s w hs).mono fun e w' h => by
    obtain ⟨he, hb⟩ := h
    exact ⟨by rw [he, errOf_bad hk, hk]; rfl, hb⟩
theorem Len_is (s : ByteArray) (w : World) (n : Nat) (hs : s.size ≤ 60000) (hk : okT s = true) (hn : (rns s).length = n) : Calls Tryd.prog 128 #[.string s] w (LenIs n 0 w) :=
  (Len_any s w hs).mono fun e w' h => by
    obtain ⟨he, hb⟩ := h
    exact ⟨by rw [he, errOf_ok hk, hk, ← hn]; rfl, hb⟩

set_option maxRecDepth 100000 in
set_option maxHeartbeats 1000000 in
theorem textMayBe_any (s : ByteArray) (w : World) (hz : s.size ≤ 140737488351232) : Calls Tryd.prog 120 #[.string s] w (BoB (okTx s) w) := by
  by_cases h : s.size ≤ 48
  · cases hk : okT s
    · have HL := Lib.hid (Len_bad s w (by omega) hk)
      rw [show okTx s = false from by unfold okTx; rw [hk]; rfl]
      clear hk
      go_enter Tryd.func120, Tryd.ntmps120
      go_wp2_with fail
      refine HL.out.mono ?_
      rintro e w1 ⟨rfl, hb1⟩
      go_wp2
      go_ret
      exact ⟨rfl, hb1⟩
    · obtain ⟨n, hn⟩ : ∃ n : Nat, (rns s).length = n := ⟨_, rfl⟩
      have HL := Lib.hid (Len_is s w n (by omega) hk hn)
      rw [show okTx s = decide ((n : Int) ≤ 12) from by unfold okTx; rw [hk, hn, Bool.true_and, decide_eq_decide]; omega]
      clear hk hn
      go_enter Tryd.func120, Tryd.ntmps120
      go_wp2_with fail
      refine HL.out.mono ?_
      rintro e w1 ⟨rfl, hb1⟩
      go_wp2
      go_ret
      exact ⟨rfl, hb1⟩
  · rw [show okTx s = false from by
      cases hk : okTx s
      · rfl
      · exact absurd (okTx_size hk) h]
    have h2 : decide ((48 : Int) < (s.size : Int)) = true := by simp; omega
    clear h
    go_enter Tryd.func120, Tryd.ntmps120
    go_wp2
    go_ret
    exact ⟨rfl, Below.refl _ _⟩

set_option maxRecDepth 100000 in
set_option maxHeartbeats 1000000 in
theorem afterMayBe_any (o : OpD) (a : Option Addr) (cap : Nat) (w : World) : Calls Tryd.prog 121 #[o.v a cap] w (BoB (okAfter o) w) := by
  obtain ⟨site, seq, kind, ⟨es, eq, ei⟩, text, gone, of, num, gen⟩ := o
  have hb0 : Below w.heap.size w (w.alloc (OpD.obj ⟨site, seq, kind, ⟨es, eq, ei⟩, text, gone, of, num, gen⟩ a cap)) := (Below.refl _ _).alloc (Nat.le_refl _) _
  unfold OpD.obj at hb0
  have HB := Lib.hid hb0
  clear hb0
  unfold OpD.v okAfter
  simp only
  by_cases ht : text = ⟨#[]⟩
  · subst ht
    have cB := fun w => isBegin_any ⟨es, eq, ei⟩ w
    unfold El.v at cB
    simp only [if_true] at cB ⊢
    generalize El.begin ⟨es, eq, ei⟩ = bb at *
    have CB := Lib.hid cB
    clear cB
    go_enter Tryd.func121, Tryd.ntmps121
    go_wp2_with fail
    refine (CB.out _).mono ?_
    rintro e w1 ⟨rfl, hb1⟩
    have H1 := Lib.hid hb1
    clear hb1
    go_wp2
    go_ret
    exact ⟨rfl, HB.out.trans (H1.out.mono HB.out.size)⟩
  · have h6b : ¬ text.toList = [] := fun h => ht ((toList_nil_iff_emptyBytes text).1 h)
    have h6c : text.toList.isEmpty = false := by simpa using h6b
    rw [if_neg ht]
    clear ht
    have cE := fun w => elemMayBe_any ⟨es, eq, ei⟩ w
    have cO := fun w => isOwn_any ⟨site, seq, kind, ⟨es, eq, ei⟩, text, gone, of, num, gen⟩ a cap ⟨es, eq, ei⟩ w
    unfold El.v at cE
    unfold OpD.v El.v at cO
    simp only at cE cO
    cases hE : El.ok ⟨es, eq, ei⟩
    · simp only [hE] at cE
      simp only [Bool.false_and]
      have CE := Lib.hid cE
      clear cE cO hE
      go_enter Tryd.func121, Tryd.ntmps121
      go_wp2_with fail
      refine (CE.out _).mono ?_
      rintro e w1 ⟨rfl, hb1⟩
      have H1 := Lib.hid hb1
      clear hb1
      go_wp2
      go_ret
      exact ⟨rfl, HB.out.trans (H1.out.mono HB.out.size)⟩
    · simp only [hE] at cE
      simp only [Bool.true_and]
      generalize El.own site seq ⟨es, eq, ei⟩ = bo at *
      have CE := Lib.hid cE
      have CO := Lib.hid cO
      clear cE cO hE
      go_enter Tryd.func121, Tryd.ntmps121
      go_wp2_with fail
      refine (CE.out _).mono ?_
      rintro e w1 ⟨rfl, hb1⟩
      obtain ⟨hc, hf⟩ := bcell hb1
      have hz : w.heap.size < w1.heap.size := by have := hb1.size; simp at this; omega
      have H1 := Lib.hid (HB.out.trans (hb1.mono HB.out.size))
      clear hb1
      go_wp2_with fail
      refine (CO.out _).mono ?_
      rintro e w2 ⟨rfl, hb2⟩
      have H2 := Lib.hid (H1.out.trans (hb2.mono H1.out.size))
      clear hb2
      cases bo
      all_goals
        go_wp2
        go_ret
        exact ⟨rfl, H2.out⟩

set_option maxRecDepth 100000 in
set_option maxHeartbeats 1000000 in
theorem goneMayBe_any (o : OpD) (a : Option Addr) (cap : Nat) (w : World) (hg : ElemsAt w a o.gone) (hl : o.gone.length ≤ 140737488351232) : Calls Tryd.prog 122 #[o.v a cap] w (BoB (okGone o) w) := by
  obtain ⟨site, seq, kind, ⟨es, eq, ei⟩, text, gone, of, num, gen⟩ := o
  have hb0 : Below w.heap.size w (w.alloc (OpD.obj ⟨site, seq, kind, ⟨es, eq, ei⟩, text, gone, of, num, gen⟩ a cap)) := (Below.refl _ _).alloc (Nat.le_refl _) _
  unfold OpD.obj at hb0
  have HB := Lib.hid hb0
  clear hb0
  have cO := fun e w => isOwn_any ⟨site, seq, kind, ⟨es, eq, ei⟩, text, gone, of, num, gen⟩ a cap e w
  have HX := Lib.hid (BoxO.new w ⟨site, seq, kind, ⟨es, eq, ei⟩, text, gone, of, num, gen⟩ a cap)
  unfold OpD.obj at HX
  simp only at HX
  unfold OpD.v okGone
  unfold OpD.v at cO
  simp only at cO hg hl ⊢
  have HE := Lib.hid (hg.below HB.out)
  have CO := Lib.hid cO
  clear cO hg
  by_cases h200 : gone.length ≤ 200
  · have d200 : decide ((200 : Int) < (gone.length : Int)) = false := by simp; omega
    rw [show decide (gone.length ≤ 200) = true from decide_eq_true h200, Bool.true_and]
    go_enter Tryd.func122, Tryd.ntmps122
    go_wp2_with fail
    generalize w.alloc (.cells #[.int .i64 site, .int .i64 seq, .int .i64 kind, .int .i64 es, .int .i64 eq, .int .i64 ei, .string text, .slice a gone.length cap, .int .i64 of, .int .i64 num, .int .i64 gen] 36) = W0 at *
    clear d200
    go_loopw [12] (fun i wr => ∃ k : Nat, k ≤ gone.length ∧ i = .int .i64 k ∧ gOk site seq none gone = gOk site seq (prevE gone k) (gone.drop k) ∧ Below W0.heap.size W0 wr) (fun i _ => gone.length - (RowKit.intOf i).toNat)
    case atStart => exact ⟨0, by omega, rfl, rfl, Below.refl _ _⟩
    case round =>
      obtain ⟨k, hk, rfl, hgk, hbel⟩ := hrel
      have HK := Lib.hid hgk
      clear hgk
      by_cases hlt : k < gone.length
      · obtain ⟨b1, o1, h1, hb1, hc1, hc2, hc3⟩ := HE.out.cell k hlt
        have hr1 := (hbel.cell (p := ⟨b1, o1 + k * 3, none⟩) hb1).trans hc1
        have hr2 := (hbel.cell (p := ⟨b1, o1 + k * 3 + 1, none⟩) hb1).trans hc2
        have hr3 := (hbel.cell (p := ⟨b1, o1 + k * 3 + 2, none⟩) hb1).trans hc3
        clear hc1 hc2 hc3
        have HS := Lib.hid (HK.out.trans (gOk_step site seq gone k hlt))
        clear HK
        have HP := Lib.hid (show ∀ j, k = j + 1 → ∃ p : El, gone[j]? = some p ∧ wr.cell? ⟨b1, o1 + j * 3, none⟩ = some (.int .i64 p.s) ∧ wr.cell? ⟨b1, o1 + j * 3 + 1, none⟩ = some (.int .i64 p.q) ∧ wr.cell? ⟨b1, o1 + j * 3 + 2, none⟩ = some (.int .i64 p.i) from fun j hj => by
          obtain ⟨b2, o2, h2, hb2, hd1, hd2, hd3⟩ := HE.out.cell j (by omega)
          rw [h1] at h2
          simp only [Option.some.injEq, Addr.mk.injEq] at h2
          obtain ⟨rfl, rfl, _⟩ := h2
          exact ⟨gone[j], by simp, (hbel.cell (p := ⟨b1, o1 + j * 3, none⟩) hb2).trans hd1, (hbel.cell (p := ⟨b1, o1 + j * 3 + 1, none⟩) hb2).trans hd2, (hbel.cell (p := ⟨b1, o1 + j * 3 + 2, none⟩) hb2).trans hd3⟩)
        generalize gone[k] = e at *
        have HXr := Lib.hid ((HX.out.step hbel).alloc (.cells #[.int .i64 e.s, .int .i64 e.q, .int .i64 e.i] 34))
        have HEr := Lib.hid (BoxE.new wr e)
        have HBr := Lib.hid ((HB.out.trans (hbel.mono HB.out.size)).alloc (by have := HB.out.size; have := hbel.size; omega) (.cells #[.int .i64 e.s, .int .i64 e.q, .int .i64 e.i] 34))
        have HB0 := Lib.hid (hbel.alloc hbel.size (.cells #[.int .i64 e.s, .int .i64 e.q, .int .i64 e.i] 34))
        subst h1
        go_wp2_with fail
        generalize hWr : wr.alloc (.cells #[.int .i64 e.s, .int .i64 e.q, .int .i64 e.i] 34) = Wr at *
        have HPr := Lib.hid (show ∀ j, k = j + 1 → ∃ p : El, gone[j]? = some p ∧ Wr.cell? ⟨b1, o1 + j * 3, none⟩ = some (.int .i64 p.s) ∧ Wr.cell? ⟨b1, o1 + j * 3 + 1, none⟩ = some (.int .i64 p.q) ∧ Wr.cell? ⟨b1, o1 + j * 3 + 2, none⟩ = some (.int .i64 p.i) from fun j hj => by
          obtain ⟨p, hp, d1, d2, d3⟩ := HP.out j hj
          have hb' : Below wr.heap.size wr Wr := hWr ▸ (Below.refl _ _).alloc (Nat.le_refl _) _
          have hlt' : b1 < wr.heap.size := Nat.lt_of_lt_of_le hb1 hbel.size
          exact ⟨p, hp, (hb'.cell (p := ⟨b1, o1 + j * 3, none⟩) hlt').trans d1, (hb'.cell (p := ⟨b1, o1 + j * 3 + 1, none⟩) hlt').trans d2, (hb'.cell (p := ⟨b1, o1 + j * 3 + 2, none⟩) hlt').trans d3⟩)
        have hb1r : b1 < Wr.heap.size := Nat.lt_of_lt_of_le hb1 HB0.out.size
        clear hr1 hr2 hr3 HP
        cases hbg : e.begin
        · refine (isBegin_any e _).mono ?_
          rintro x w1 ⟨rfl, hb1'⟩
          rw [hbg]
          have f0 := (HEr.out.step hb1').c0
          have f1 := (HEr.out.step hb1').c1
          have f2 := (HEr.out.step hb1').c2
          have HW1 := Lib.hid hb1'
          clear hb1'
          go_wp2_with fail
          clear f0 f1 f2
          refine (elemMayBe_any e _).mono ?_
          rintro x w2 ⟨rfl, hb2'⟩
          have HW2 := Lib.hid (HW1.out.trans (hb2'.mono HW1.out.size))
          clear hb2' HW1
          cases hok : e.ok
          · go_wp2
            go_ret
            exact ⟨ret_bool (by rw [HS.out, hbg, hok]; rfl), HBr.out.trans (HW2.out.mono HBr.out.size)⟩
          · have f0 := (HEr.out.step HW2.out).c0
            have f1 := (HEr.out.step HW2.out).c1
            have f2 := (HEr.out.step HW2.out).c2
            have g0 := (HXr.out.step HW2.out).c0
            have g1 := (HXr.out.step HW2.out).c1
            have g2 := (HXr.out.step HW2.out).c2
            have g3 := (HXr.out.step HW2.out).c3
            have g4 := (HXr.out.step HW2.out).c4
            have g5 := (HXr.out.step HW2.out).c5
            have g6 := (HXr.out.step HW2.out).c6
            have g7 := (HXr.out.step HW2.out).c7
            have g8 := (HXr.out.step HW2.out).c8
            have g9 := (HXr.out.step HW2.out).c9
            have ga := (HXr.out.step HW2.out).ca
            simp only at g0 g1 g2 g3 g4 g5 g6 g7 g8 g9 ga
            go_wp2_with fail
            clear f0 f1 f2 g0 g1 g2 g3 g4 g5 g6 g7 g8 g9 ga
            refine (CO.out e _).mono ?_
            rintro x w3 ⟨rfl, hb3'⟩
            have HW3 := Lib.hid (HW2.out.trans (hb3'.mono HW2.out.size))
            clear hb3' HW2
            cases hon : El.own site seq e
            · by_cases hk0 : k = 0
              · subst hk0
                have g7 := cell_regrown (HXr.out.step HW3.out).c7
                go_wp2_with fail
                refine wp_region_quiet_below (by kernel_rfl) (by kernel_rfl) ?_
                repeat (first | go_big_quiet_step (fail) | quiet_step (fail))
                refine wpQuiet_nil ?_
                intro _ hw'
                obtain ⟨⟨dq, osq⟩, hw''⟩ := hw'
                subst hw''
                have hbv := HB0.out.trans ((HW3.out.trans ((below_regrown w3 dq osq).mono HW3.out.size)).mono HB0.out.size)
                generalize Sort.grow (redrawn w3 dq) osq = wv at *
                go_wp2
                go_roundw
                case rel => exact ⟨1, by omega, by go_num, by rw [HS.out, hbg, hok, hon]; rfl, hbv⟩
                case measure => simp [RowKit.intOf]; omega
              · obtain ⟨j, rfl⟩ : ∃ j, k = j + 1 := ⟨k - 1, by omega⟩
                obtain ⟨p, hp, d1, d2, d3⟩ := HPr.out j rfl
                have g7 := cell_regrown (HXr.out.step HW3.out).c7
                have e0 := cell_regrown (HEr.out.step HW3.out).c0
                have e1 := cell_regrown (HEr.out.step HW3.out).c1
                have e2 := cell_regrown (HEr.out.step HW3.out).c2
                have p0 := cell_regrown ((HW3.out.cell (p := ⟨b1, o1 + j * 3, none⟩) hb1r).trans d1)
                have p1 := cell_regrown ((HW3.out.cell (p := ⟨b1, o1 + j * 3 + 1, none⟩) hb1r).trans d2)
                have p2 := cell_regrown ((HW3.out.cell (p := ⟨b1, o1 + j * 3 + 2, none⟩) hb1r).trans d3)
                simp only at g7
                have hjw : wrap64 (((j + 1 : Nat) : Int) - 1) = (j : Int) := by rw [IntWalk.wrap64_in _ ⟨by omega, by omega⟩]; omega
                have HPP := Lib.hid hp
                clear d1 d2 d3 hp
                go_wp2_with fail
                refine wp_region_quiet_below (by kernel_rfl) (by kernel_rfl) ?_
                repeat (first | go_big_quiet_step (exact Calls.regrown_of (xLess_any p e _)) | quiet_step (exact Calls.regrown_of (xLess_any p e _)))
                refine wpQuiet_nil ?_
                intro _ hw'
                obtain ⟨⟨dq, osq⟩, hw''⟩ := hw'
                subst hw''
                have hbv := HW3.out.trans ((below_regrown w3 dq osq).mono HW3.out.size)
                clear g7 e0 e1 e2 p0 p1 p2 hjw
                generalize Sort.grow (redrawn w3 dq) osq = wv at *
                cases hlt2 : p.lt e
                · go_wp2
                  go_ret
                  exact ⟨ret_bool (by rw [HS.out, hbg, hok, hon, prevE, HPP.out, pairOk, hlt2]; rfl), HBr.out.trans (hbv.mono HBr.out.size)⟩
                · go_wp2
                  go_roundw
                  case rel => exact ⟨j + 1 + 1, by omega, by go_num, by rw [HS.out, hbg, hok, hon, prevE, HPP.out, pairOk, hlt2]; rfl, HB0.out.trans (hbv.mono HB0.out.size)⟩
                  case measure => simp [RowKit.intOf]; omega
            · go_wp2
              go_ret
              exact ⟨ret_bool (by rw [HS.out, hbg, hok, hon]; rfl), HBr.out.trans (HW3.out.mono HBr.out.size)⟩
        · refine (isBegin_any e _).mono ?_
          rintro x w1 ⟨rfl, hb1'⟩
          rw [hbg]
          have HW1 := Lib.hid hb1'
          clear hb1'
          go_wp2
          go_ret
          exact ⟨ret_bool (by rw [HS.out, hbg]; rfl), HBr.out.trans (HW1.out.mono HBr.out.size)⟩
      · have HF := Lib.hid (HK.out.trans (gOk_end site seq gone k (by omega) _))
        clear HK
        go_wp2
        go_ret
        exact ⟨ret_bool HF.out.symm, HB.out.trans (hbel.mono HB.out.size)⟩
  · rw [show decide (gone.length ≤ 200) = false from decide_eq_false h200, Bool.false_and]
    have d200 : decide ((200 : Int) < (gone.length : Int)) = true := by simp; omega
    clear h200
    go_enter Tryd.func122, Tryd.ntmps122
    go_wp2
    go_ret
    exact ⟨rfl, HB.out⟩
end Go.Proofs.YtnkinbobnhdpaaaDoor
