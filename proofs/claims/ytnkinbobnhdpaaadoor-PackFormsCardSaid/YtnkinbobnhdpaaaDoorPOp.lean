/- package op: which edits, toggles, ops may be; Check -/
import Derived.Test.YtnkinbobnhdpaaaDoorPMay
namespace Go.Proofs.YtnkinbobnhdpaaaDoor
open Go.RowKit Go.Lib

/-- an op whose elements that go may be read -/
structure OpIn (w : World) (o : OpD) (a : Option Addr) : Prop where
  gone : ElemsAt w a o.gone
  len : o.gone.length ≤ 140737488351232
  size : o.text.size ≤ 140737488351232
theorem OpIn.below {w w' : World} {o : OpD} {a : Option Addr} (h : OpIn w o a) (hb : Below w.heap.size w w') : OpIn w' o a := ⟨h.gone.below hb, h.len, h.size⟩

theorem int_ne {x : Int} (h : x ≠ 0) : (x != 0) = true := by simp; exact h
theorem int_eq0 {x : Int} (h : x = 0) : (x != 0) = false := by simp; exact h
theorem head_cases (o : OpD) : (o.head = false ∧ ((o.of != 0) = true ∨ ((o.of != 0) = false ∧ (o.num != 0) = true) ∨ ((o.of != 0) = false ∧ (o.num != 0) = false ∧ (o.gen != 0) = true))) ∨ (o.head = true ∧ (o.of != 0) = false ∧ (o.num != 0) = false ∧ (o.gen != 0) = false) := by
  unfold OpD.head
  by_cases e1 : o.of = 0
  · by_cases e2 : o.num = 0
    · by_cases e3 : o.gen = 0
      · right; simp [e1, e2, e3]
      · left; simp [e1, e2, e3]
    · left; simp [e1, e2]
  · left; simp [e1]
theorem text_cases (t : ByteArray) : t = ⟨#[]⟩ ∨ (emptyB t = false ∧ ¬ t.toList = [] ∧ t.toList.isEmpty = false) := by
  by_cases h : t = ⟨#[]⟩
  · exact .inl h
  · have h6b : ¬ t.toList = [] := fun hh => h ((toList_nil_iff_emptyBytes t).1 hh)
    exact .inr ⟨decide_eq_false h, h6b, by simpa using h6b⟩

set_option maxRecDepth 100000 in
set_option maxHeartbeats 1000000 in
theorem editMayBe_any (o : OpD) (a : Option Addr) (cap : Nat) (w : World) (hi : OpIn w o a) : Calls Tryd.prog 107 #[o.v a cap] w (BoB (okEdit o) w) := by
  have hH := head_cases o
  have hN : ∀ b c, emptyB o.text = b → decide (o.gone.length = 0) = c → o.none = (b && c) := fun b c h1 h2 => by rw [OpD.none, h1, h2]
  have hE : okEdit o = (o.head && (!o.none && (okTx o.text && (okAfter o && okGone o)))) := rfl
  generalize OpD.head o = hd at *
  generalize OpD.none o = nn at *
  have HA := Lib.hid (fun w => afterMayBe_any o a cap w)
  have HG := Lib.hid (fun w h => goneMayBe_any o a cap w h hi.len)
  generalize okAfter o = oa at *
  generalize okGone o = og at *
  have HT := Lib.hid (fun w => textMayBe_any o.text w hi.size)
  generalize okTx o.text = ot at *
  have HI := Lib.hid hi
  have HE := Lib.hid hE
  have HN := Lib.hid hN
  clear hE hi hN
  obtain ⟨site, seq, kind, ⟨es, eq, ei⟩, text, gone, of, num, gen⟩ := o
  have hb0 : Below w.heap.size w (w.alloc (OpD.obj ⟨site, seq, kind, ⟨es, eq, ei⟩, text, gone, of, num, gen⟩ a cap)) := (Below.refl _ _).alloc (Nat.le_refl _) _
  have HX := Lib.hid (BoxO.new w ⟨site, seq, kind, ⟨es, eq, ei⟩, text, gone, of, num, gen⟩ a cap)
  unfold OpD.obj at hb0 HX
  have HB := Lib.hid hb0
  clear hb0
  unfold OpD.v at *
  simp only at hH HA HG HT HI HE HN ⊢
  obtain ⟨n, hn⟩ : ∃ n, gone.length = n := ⟨_, rfl⟩
  have HL := Lib.hid hn
  simp only [hn] at HA HG HX HB HN ⊢
  clear hn
  rcases hH with ⟨rfl, d1 | ⟨d1, d2⟩ | ⟨d1, d2, d3⟩⟩ | ⟨rfl, d1, d2, d3⟩
  case inr =>
    rcases text_cases text with rfl | ⟨ht, ht2, ht3⟩
    · by_cases h0 : n = 0
      · subst h0
        go_enter Tryd.func107, Tryd.ntmps107
        go_wp2
        go_ret
        exact ⟨ret_bool (by rw [HE.out, HN.out true true rfl rfl]; rfl), HB.out⟩
      · have h0b : ((n : Int) == 0) = false := by simp; omega
        have HNN := Lib.hid (HN.out true false rfl (by simp [h0]))
        cases ot
        · go_enter Tryd.func107, Tryd.ntmps107
          go_wp2_with fail
          refine (HT.out _).mono ?_
          rintro x w1 ⟨rfl, hb1⟩
          have HW1 := Lib.hid (HB.out.trans (hb1.mono HB.out.size))
          clear hb1
          go_wp2
          go_ret
          exact ⟨ret_bool (by rw [HE.out, HNN.out]; rfl), HW1.out⟩
        · go_enter Tryd.func107, Tryd.ntmps107
          go_wp2_with fail
          refine (HT.out _).mono ?_
          rintro x w1 ⟨rfl, hb1⟩
          have HX1 := Lib.hid (HX.out.step hb1)
          have HW1 := Lib.hid (HB.out.trans (hb1.mono HB.out.size))
          clear hb1
          have g0 := HX1.out.c0
          have g1 := HX1.out.c1
          have g2 := HX1.out.c2
          have g3 := HX1.out.c3
          have g4 := HX1.out.c4
          have g5 := HX1.out.c5
          have g6 := HX1.out.c6
          have g7 := HX1.out.c7
          have g8 := HX1.out.c8
          have g9 := HX1.out.c9
          have ga := HX1.out.ca
          simp only at g0 g1 g2 g3 g4 g5 g6 g8 g9 ga
          simp only [HL.out] at g7
          go_wp2_with fail
          clear g0 g1 g2 g3 g4 g5 g6 g7 g8 g9 ga
          refine (HA.out _).mono ?_
          rintro x w2 ⟨rfl, hb2⟩
          have HX2 := Lib.hid (HX1.out.step hb2)
          have HW2 := Lib.hid (HW1.out.trans (hb2.mono HW1.out.size))
          clear hb2
          cases oa
          · go_wp2
            go_ret
            exact ⟨ret_bool (by rw [HE.out, HNN.out]; rfl), HW2.out⟩
          · have g0 := HX2.out.c0
            have g1 := HX2.out.c1
            have g2 := HX2.out.c2
            have g3 := HX2.out.c3
            have g4 := HX2.out.c4
            have g5 := HX2.out.c5
            have g6 := HX2.out.c6
            have g7 := HX2.out.c7
            have g8 := HX2.out.c8
            have g9 := HX2.out.c9
            have ga := HX2.out.ca
            simp only at g0 g1 g2 g3 g4 g5 g6 g8 g9 ga
            simp only [HL.out] at g7
            go_wp2_with fail
            clear g0 g1 g2 g3 g4 g5 g6 g7 g8 g9 ga
            refine (HG.out _ (HI.out.gone.below HW2.out)).mono ?_
            rintro x w3 ⟨rfl, hb3⟩
            have HW3 := Lib.hid (HW2.out.trans (hb3.mono HW2.out.size))
            clear hb3
            go_wp2
            go_ret
            exact ⟨ret_bool (by rw [HE.out, HNN.out]; simp), HW3.out⟩
    · have HNN := Lib.hid ((HN.out false _ ht rfl).trans (by rfl : (false && decide (n = 0)) = false))
      cases ot
      · go_enter Tryd.func107, Tryd.ntmps107
        go_wp2_with fail
        refine (HT.out _).mono ?_
        rintro x w1 ⟨rfl, hb1⟩
        have HW1 := Lib.hid (HB.out.trans (hb1.mono HB.out.size))
        clear hb1
        go_wp2
        go_ret
        exact ⟨ret_bool (by rw [HE.out, HNN.out]; rfl), HW1.out⟩
      · go_enter Tryd.func107, Tryd.ntmps107
        go_wp2_with fail
        refine (HT.out _).mono ?_
        rintro x w1 ⟨rfl, hb1⟩
        have HX1 := Lib.hid (HX.out.step hb1)
        have HW1 := Lib.hid (HB.out.trans (hb1.mono HB.out.size))
        clear hb1
        have g0 := HX1.out.c0
        have g1 := HX1.out.c1
        have g2 := HX1.out.c2
        have g3 := HX1.out.c3
        have g4 := HX1.out.c4
        have g5 := HX1.out.c5
        have g6 := HX1.out.c6
        have g7 := HX1.out.c7
        have g8 := HX1.out.c8
        have g9 := HX1.out.c9
        have ga := HX1.out.ca
        simp only at g0 g1 g2 g3 g4 g5 g6 g8 g9 ga
        simp only [HL.out] at g7
        go_wp2_with fail
        clear g0 g1 g2 g3 g4 g5 g6 g7 g8 g9 ga
        refine (HA.out _).mono ?_
        rintro x w2 ⟨rfl, hb2⟩
        have HX2 := Lib.hid (HX1.out.step hb2)
        have HW2 := Lib.hid (HW1.out.trans (hb2.mono HW1.out.size))
        clear hb2
        cases oa
        · go_wp2
          go_ret
          exact ⟨ret_bool (by rw [HE.out, HNN.out]; rfl), HW2.out⟩
        · have g0 := HX2.out.c0
          have g1 := HX2.out.c1
          have g2 := HX2.out.c2
          have g3 := HX2.out.c3
          have g4 := HX2.out.c4
          have g5 := HX2.out.c5
          have g6 := HX2.out.c6
          have g7 := HX2.out.c7
          have g8 := HX2.out.c8
          have g9 := HX2.out.c9
          have ga := HX2.out.ca
          simp only at g0 g1 g2 g3 g4 g5 g6 g8 g9 ga
          simp only [HL.out] at g7
          go_wp2_with fail
          clear g0 g1 g2 g3 g4 g5 g6 g7 g8 g9 ga
          refine (HG.out _ (HI.out.gone.below HW2.out)).mono ?_
          rintro x w3 ⟨rfl, hb3⟩
          have HW3 := Lib.hid (HW2.out.trans (hb3.mono HW2.out.size))
          clear hb3
          go_wp2
          go_ret
          exact ⟨ret_bool (by rw [HE.out, HNN.out]; simp), HW3.out⟩
  all_goals
    go_enter Tryd.func107, Tryd.ntmps107
    go_wp2
    go_ret
    exact ⟨ret_bool (by rw [HE.out]; rfl), HB.out⟩
end Go.Proofs.YtnkinbobnhdpaaaDoor
