/- package op: Needs -/
import Derived.Test.YthnedehihbploaaGreatDoorPCheck
import Derived.Test.YthnedehihbploaaGreatDoorPSort
namespace Go.Proofs.YthnedehihbploaaGreatDoor
open Go.RowKit Go.Lib

def needL (o : OpD) : List El := (if o.after.begin then [] else [o.after.w]) ++ o.gone.map El.w
/-- the names that an op needs -/
def needs (o : OpD) : List El := if o.kind = 2 then [⟨o.of, o.num, 0⟩] else ddl (isort (needL o))
/-- new memory that holds elements, and no error -/
def ListPost (l : List El) (w : World) (e : Ending) (w' : World) : Prop :=
  ∃ a cap, e = .returned (.tuple #[.slice a l.length cap, .int .i64 0]) ∧ w'.ownsRow w.heap.size 37 3 (.slice a l.length cap) l.length (ecs l) ∧ Below w.heap.size w w'
def NoList (w : World) (e : Ending) (w' : World) : Prop := e = .returned (.tuple #[.slice none 0 0, .int .i64 1]) ∧ Below w.heap.size w w'
theorem one_own (w : World) (B : Nat) (hB : B ≤ w.heap.size) (e : El) : (w.alloc (.cells #[.int .i64 e.s, .int .i64 e.q, .int .i64 e.i] 37)).ownsRow B 37 3 (.slice (some ⟨w.heap.size, 0, none⟩) 1 1) 1 (ecs [e]) :=
  ⟨rfl, .inr ⟨w.heap.size, 1, #[.int .i64 e.s, .int .i64 e.q, .int .i64 e.i], rfl, hB, by show (w.heap.push _)[w.heap.size]? = _; simp, Nat.le_refl _, by decide, rfl, rfl⟩⟩

set_option maxRecDepth 100000 in
set_option maxHeartbeats 1000000 in
theorem xNeeds_bad (o : OpD) (a : Option Addr) (cap : Nat) (w : World) (hi : OpIn w o a) (hb : okOp o = false) : Calls Tryz.prog 130 #[o.v a cap] w (NoList w) := by
  have HC := Lib.hid (fun w h => xCheck_any o a cap w h)
  rw [hb] at HC
  have HI := Lib.hid hi
  clear hi hb
  obtain ⟨site, seq, kind, ⟨es, eq, ei⟩, text, gone, of, num, gen⟩ := o
  have hb0 : Below w.heap.size w (w.alloc (OpD.obj ⟨site, seq, kind, ⟨es, eq, ei⟩, text, gone, of, num, gen⟩ a cap)) := (Below.refl _ _).alloc (Nat.le_refl _) _
  have HX := Lib.hid (BoxO.new w ⟨site, seq, kind, ⟨es, eq, ei⟩, text, gone, of, num, gen⟩ a cap)
  unfold OpD.obj at hb0 HX
  have HB := Lib.hid hb0
  clear hb0
  unfold OpD.v at *
  simp only at HC HI ⊢
  go_enter Tryz.func130, Tryz.ntmps130
  go_wp2_with fail
  refine (HC.out _ (HI.out.below HB.out)).mono ?_
  rintro x w1 ⟨rfl, hb1⟩
  have HW1 := Lib.hid (HB.out.trans (hb1.mono HB.out.size))
  clear hb1
  rw [show errO false = 1 from rfl]
  go_wp2
  go_ret2
  exact ⟨rfl, HW1.out⟩

set_option maxRecDepth 100000 in
set_option maxHeartbeats 1000000 in
theorem xNeeds_toggle (o : OpD) (a : Option Addr) (cap : Nat) (w : World) (hi : OpIn w o a) (hb : okOp o = true) (hk : o.kind = 2) : Calls Tryz.prog 130 #[o.v a cap] w (ListPost (needs o) w) := by
  have HC := Lib.hid (fun w h => xCheck_any o a cap w h)
  rw [hb] at HC
  have HI := Lib.hid hi
  rw [show needs o = [⟨o.of, o.num, 0⟩] from if_pos hk]
  clear hi hb
  obtain ⟨site, seq, kind, ⟨es, eq, ei⟩, text, gone, of, num, gen⟩ := o
  have hb0 : Below w.heap.size w (w.alloc (OpD.obj ⟨site, seq, kind, ⟨es, eq, ei⟩, text, gone, of, num, gen⟩ a cap)) := (Below.refl _ _).alloc (Nat.le_refl _) _
  have HX := Lib.hid (BoxO.new w ⟨site, seq, kind, ⟨es, eq, ei⟩, text, gone, of, num, gen⟩ a cap)
  unfold OpD.obj at hb0 HX
  have HB := Lib.hid hb0
  clear hb0
  unfold OpD.v at *
  simp only at HC HI hk ⊢
  subst hk
  go_enter Tryz.func130, Tryz.ntmps130
  go_wp2_with fail
  refine (HC.out _ (HI.out.below HB.out)).mono ?_
  rintro x w1 ⟨rfl, hb1⟩
  have HX1 := Lib.hid (HX.out.step hb1)
  have HW1 := Lib.hid (HB.out.trans (hb1.mono HB.out.size))
  clear hb1
  rw [show errO true = 0 from rfl]
  have g0 := HX1.out.c0
  have g1 := HX1.out.c1
  have g2 := HX1.out.c2
  have g3 := HX1.out.c3
  have g4 := HX1.out.c4
  have g5 := HX1.out.c5
  have g6 := HX1.out.c6
  have g7 := HX1.out.c7
  have g8 := HX1.out.c8
  have g9 := HX1.out.c9
  have ga := HX1.out.ca
  simp only at g0 g1 g2 g3 g4 g5 g6 g7 g8 g9 ga
  go_wp2
  go_ret2
  exact ⟨_, _, rfl, one_own w1 _ HW1.out.size ⟨of, num, 0⟩, HW1.out.alloc HW1.out.size _⟩

theorem okOp_edit {o : OpD} (h : okOp o = true) (hk : ¬ o.kind = 2) : o.kind = 1 ∧ okEdit o = true := by
  unfold okOp at h
  simp only [Bool.and_eq_true] at h
  obtain ⟨_, h⟩ := h
  by_cases h1 : o.kind = 1
  · rw [if_pos h1] at h; exact ⟨h1, h⟩
  · rw [if_neg h1, if_neg hk] at h; cases h
theorem okEdit_gone {o : OpD} (h : okEdit o = true) : o.gone.length ≤ 200 ∧ gOk o.site o.seq none o.gone = true ∧ okAfter o = true := by
  unfold okEdit okGone at h
  simp only [Bool.and_eq_true, decide_eq_true_eq] at h
  exact ⟨h.2.2.2.2.1, h.2.2.2.2.2, h.2.2.2.1⟩

theorem writer_agg (e : El) (w : World) : Calls Tryz.prog 161 #[e.v] w fun x w' => x = .returned (.agg #[.int .i64 e.s, .int .i64 e.q, .int .i64 0]) ∧ Below w.heap.size w w' := writer_any e w
theorem xCompact_n (a : Option Addr) (cap n base B : Nat) (l : List El) (w0 w : World) (hown : w.ownsRow base 37 3 (.slice a n cap) n (ecs l)) (hn : l.length = n) (hB : B ≤ base) (hb : Below B w0 w) (hl : n ≤ 1000000) :
    Calls Tryz.prog 163 #[.slice a n cap] w (CompPost base B w0 l) := by
  subst hn; exact xCompact_any a cap base B l w0 w hown hB hb hl
set_option maxRecDepth 100000 in
set_option maxHeartbeats 4000000 in
theorem xNeeds_edit (o : OpD) (a : Option Addr) (cap : Nat) (w : World) (hi : OpIn w o a) (hb : okOp o = true) (hk : ¬ o.kind = 2) : Calls Tryz.prog 130 #[o.v a cap] w (ListPost (needs o) w) := by
  obtain ⟨i0, hi0, hz0, hz1, hz2⟩ := info_parts Tryz.infoElem
  have HC := Lib.hid (fun w h => xCheck_any o a cap w h)
  rw [hb] at HC
  obtain ⟨hk1, he⟩ := okOp_edit hb hk
  have h200 := (okEdit_gone he).1
  have HI := Lib.hid hi
  rw [show needs o = ddl (isort (needL o)) from if_neg hk]
  have HNL := Lib.hid (show needL o = (if o.after.begin then [] else [o.after.w]) ++ o.gone.map El.w from rfl)
  generalize needL o = nl at *
  clear hi hb hk he
  obtain ⟨site, seq, kind, ⟨es, eq, ei⟩, text, gone, of, num, gen⟩ := o
  have hb0 : Below w.heap.size w (w.alloc (OpD.obj ⟨site, seq, kind, ⟨es, eq, ei⟩, text, gone, of, num, gen⟩ a cap)) := (Below.refl _ _).alloc (Nat.le_refl _) _
  have HX := Lib.hid (BoxO.new w ⟨site, seq, kind, ⟨es, eq, ei⟩, text, gone, of, num, gen⟩ a cap)
  unfold OpD.obj at hb0 HX
  have HB := Lib.hid hb0
  clear hb0
  have HBG := Lib.hid (fun w => isBegin_any ⟨es, eq, ei⟩ w)
  have HWR := Lib.hid (fun w => writer_agg ⟨es, eq, ei⟩ w)
  unfold OpD.v at *
  unfold El.v at HBG
  simp only at HC HI HNL HBG HWR hk1 h200 ⊢
  subst hk1
  go_enter Tryz.func130, Tryz.ntmps130
  go_wp2_with fail
  refine (HC.out _ (HI.out.below HB.out)).mono ?_
  rintro x w1 ⟨rfl, hb1⟩
  have HX1 := Lib.hid (HX.out.step hb1)
  have HW1 := Lib.hid (HB.out.trans (hb1.mono HB.out.size))
  clear hb1 HC
  rw [show errO true = 0 from rfl]
  have g0 := HX1.out.c0
  have g1 := HX1.out.c1
  have g2 := HX1.out.c2
  have g3 := HX1.out.c3
  have g4 := HX1.out.c4
  have g5 := HX1.out.c5
  have g6 := HX1.out.c6
  have g7 := HX1.out.c7
  have g8 := HX1.out.c8
  have g9 := HX1.out.c9
  have ga := HX1.out.ca
  simp only at g0 g1 g2 g3 g4 g5 g6 g7 g8 g9 ga
  go_wp2_with fail
  clear g0 g1 g2 g3 g4 g5 g6 g7 g8 g9 ga
  refine (HBG.out _).mono ?_
  rintro x w2 ⟨rfl, hb2⟩
  have HX2 := Lib.hid (HX1.out.step hb2)
  have HW2 := Lib.hid (HW1.out.trans (hb2.mono HW1.out.size))
  clear hb2 HBG HX1 HW1
  cases hbg : El.begin ⟨es, eq, ei⟩
  · obtain ⟨pre, hpre⟩ : ∃ pre, pre = [El.w ⟨es, eq, ei⟩] := ⟨_, rfl⟩
    obtain ⟨p, hp1⟩ : ∃ p : Nat, p = 1 := ⟨_, rfl⟩
    have HNE := Lib.hid (show nl = pre ++ gone.map El.w from by rw [HNL.out, hbg, hpre]; rfl)
    have HPP := Lib.hid (show pre.length = p from by rw [hpre, hp1]; rfl)
    have HPE := Lib.hid (show ecs pre = El.cs ⟨es, eq, 0⟩ from by rw [hpre]; simp [ecs, El.w])
    clear hbg hpre
    have hp2 : p ≤ 1 := by omega
    have HP1 := Lib.hid hp1
    clear hp1
    have g3 := HX2.out.c3
    have g4 := HX2.out.c4
    have g5 := HX2.out.c5
    simp only at g3 g4 g5
    go_wp2_with fail
    clear g3 g4 g5
    refine (HWR.out _).mono ?_
    rintro x w3 ⟨rfl, hb3⟩
    have HX3 := Lib.hid (HX2.out.step hb3)
    have HW3 := Lib.hid (HW2.out.trans (hb3.mono HW2.out.size))
    clear hb3
    have hnil := World.ownsRow_nil w3 w.heap.size 37 3
    have c2 : 0 + 1 ≤ maxLen := by decide
    have c3 : (0 + 1) * 24 ≤ 140737488355328 := by decide
    go_wp2_with (first | (at_builtin; (refine wpList_append_own _ rfl _ _ 23 rfl w.heap.size 37 i0 (.agg #[.int .i64 0, .int .i64 0, .int .i64 0]) 3 24 Tryz.underlying23 hi0 hz0 hz1 hz2 rfl (by decide) _ _ _ rfl (hnil.alloc _) ⟨w3.heap.size, 0, none⟩ 1 1 (El.cs ⟨es, eq, 0⟩) rfl rfl (cell_three_new _ ⟨es, eq, 0⟩ _) (cs_one ⟨es, eq, 0⟩) c2 c3 (by have := HW3.out.size; simp; omega) ?_)) | fail)
    intro v4 w4 hown4 hgrow4 _
    have hb4 : Below w3.heap.size w3 w4 := ((Below.refl _ _).alloc (Nat.le_refl _) _).grown hgrow4 (by simp) (fun _ h => by cases h)
    have HXc := Lib.hid (HX3.out.step hb4)
    have HWc := Lib.hid (HW3.out.trans (hb4.mono HW3.out.size))
    have HOc := Lib.hid (show w4.ownsRow w.heap.size 37 3 v4 p (ecs pre) from by rw [HPE.out, HP1.out]; exact hown4)
    clear hown4 hgrow4 hb4 hnil c2 c3 ‹¬ v4 = _›
    have hnl2 : nl.length ≤ 201 := by rw [HNE.out, List.length_append, List.length_map, HPP.out]; omega
    have HB201 := Lib.hid hnl2
    have HP21 := Lib.hid hp2
    have H200 := Lib.hid h200
    clear HNL hnl2 hp2 h200
    have g7 := HXc.out.c7
    simp only at g7
    go_wp2_with fail
    clear g7
    go_loopw [5, 35] (fun v i wr => ∃ k : Nat, k ≤ gone.length ∧ i = .int .i64 k ∧ wr.ownsRow w.heap.size 37 3 v (p + k) (ecs (pre ++ (gone.take k).map El.w)) ∧ Below w.heap.size w wr) (fun _ i _ => gone.length - (RowKit.intOf i).toNat)
    case atStart => exact ⟨0, by omega, rfl, by simpa [ecs_nil] using HOc.out, HWc.out⟩
    case round =>
      obtain ⟨k, hk, rfl, hown, hbel⟩ := hrel
      by_cases hlt : k < gone.length
      · obtain ⟨b1, o1, h1, hb1, hc1, hc2, hc3⟩ := HI.out.gone.cell k hlt
        have hr1 := (hbel.cell (p := ⟨b1, o1 + k * 3, none⟩) hb1).trans hc1
        have hr2 := (hbel.cell (p := ⟨b1, o1 + k * 3 + 1, none⟩) hb1).trans hc2
        have hr3 := (hbel.cell (p := ⟨b1, o1 + k * 3 + 2, none⟩) hb1).trans hc3
        have HT := Lib.hid (take_snocE hlt)
        clear hc1 hc2 hc3
        simp only at hr1 hr2 hr3 HT
        generalize gone[k] = e at *
        have hba := hbel.alloc hbel.size (.cells #[.int .i64 e.s, .int .i64 e.q, .int .i64 e.i] 37)
        have HEr := Lib.hid (BoxE.new wr e)
        have hoa := hown.alloc (.cells #[.int .i64 e.s, .int .i64 e.q, .int .i64 e.i] 37)
        try simp only at h1
        subst h1
        go_wp2_with fail
        generalize wr.alloc (.cells #[.int .i64 e.s, .int .i64 e.q, .int .i64 e.i] 37) = Wr at *
        refine (writer_agg e _).mono ?_
        rintro x w3 ⟨rfl, hb3⟩
        have hbw3 := hba.trans (hb3.mono hba.size)
        have hown3 := owns_belE hoa hb3
        clear hba hb3 hoa hbel hown hr1 hr2 hr3
        have c2 := Lib.hid (show p + k + 1 ≤ maxLen from by have := HB201.out; have := HP21.out; have := H200.out; unfold maxLen; omega)
        have c3 := Lib.hid (show (p + k + 1) * 24 ≤ 140737488355328 from by have := HP21.out; have := H200.out; omega)
        go_wp2_with (first | (at_builtin; refine wpList_append_own _ rfl _ _ 23 rfl w.heap.size 37 i0 (.agg #[.int .i64 0, .int .i64 0, .int .i64 0]) 3 24 Tryz.underlying23 hi0 hz0 hz1 hz2 rfl (by decide) _ _ _ rfl (hown3.alloc _) ⟨w3.heap.size, 0, none⟩ 1 1 (El.cs ⟨e.s, e.q, 0⟩) rfl rfl (cell_three_new _ ⟨e.s, e.q, 0⟩ _) (cs_one ⟨e.s, e.q, 0⟩) c2.out c3.out (by have := hbw3.size; simp; omega) ?_) | fail)
        intro v4 w4 hown4 hgrow4 _
        have hb4 : Below w.heap.size w w4 := (hbw3.alloc hbw3.size _).grown hgrow4 (by have := hbw3.size; simp; omega) (own_ge hown3)
        have hown5 : w4.ownsRow w.heap.size 37 3 v4 (p + (k + 1)) (ecs (pre ++ (gone.take (k + 1)).map El.w)) := by
          rw [HT.out, List.map_append, ← List.append_assoc, ecs_append, List.map_singleton]
          have e1 : ecs [e.w] = El.cs ⟨e.s, e.q, 0⟩ := by simp [ecs, El.w]
          rw [e1, List.map_take]
          exact hown4
        clear hown3 hown4 hgrow4
        have hk9 : (k : Int) < 1000 := by have := H200.out; omega
        go_wp2
        go_roundw
        case rel => exact ⟨k + 1, by omega, by go_num, hown5, hb4⟩
        case measure => simp [RowKit.intOf]; omega
      · have h0 : k = gone.length := by omega
        subst h0
        rw [List.take_length, ← HNE.out] at hown
        have hln : p + gone.length = nl.length := by rw [HNE.out, List.length_append, List.length_map, HPP.out]
        rw [hln] at hown
        obtain ⟨a4, cap4, rfl, _, _, _, _⟩ := elems_own hown
        have HO4 := Lib.hid hown
        have HW4 := Lib.hid hbel
        clear hown hbel hln
        go_wp2_with fail
        refine (xSort_any a4 cap4 nl.length w.heap.size w.heap.size nl w _ HO4.out rfl (Nat.le_refl _) HW4.out.size HW4.out (by have := HB201.out; omega)).mono ?_
        rintro x w5 ⟨rfl, hown5, hb5⟩
        have HO5 := Lib.hid hown5
        have HW5 := Lib.hid hb5
        have hil := isort_length nl
        clear hown5 hb5
        go_wp2_with fail
        refine (xCompact_n a4 cap4 nl.length w.heap.size w.heap.size (isort nl) w _ HO5.out hil (Nat.le_refl _) HW5.out (by have := HB201.out; omega)).mono ?_
        rintro x w6 ⟨a6, cap6, rfl, hown6, hb6⟩
        have HO6 := Lib.hid hown6
        have HW6 := Lib.hid hb6
        clear hown6 hb6
        go_wp2
        go_ret2
        exact ⟨_, _, rfl, HO6.out, HW6.out⟩
  · obtain ⟨pre, hpre⟩ : ∃ pre : List El, pre = [] := ⟨_, rfl⟩
    obtain ⟨p, hp1⟩ : ∃ p : Nat, p = 0 := ⟨_, rfl⟩
    have HNE := Lib.hid (show nl = pre ++ gone.map El.w from by rw [HNL.out, hbg, hpre]; rfl)
    have HPP := Lib.hid (show pre.length = p from by rw [hpre, hp1]; rfl)
    have HOc := Lib.hid (show w2.ownsRow w.heap.size 37 3 (.slice none 0 0) p (ecs pre) from by rw [hpre, hp1]; exact World.ownsRow_nil w2 w.heap.size 37 3)
    clear hbg hpre
    have hp2 : p ≤ 1 := by omega
    clear hp1
    have HXc := HX2
    have HWc := HW2
    have hnl2 : nl.length ≤ 201 := by rw [HNE.out, List.length_append, List.length_map, HPP.out]; omega
    have HB201 := Lib.hid hnl2
    have HP21 := Lib.hid hp2
    have H200 := Lib.hid h200
    clear HNL hnl2 hp2 h200
    have g7 := HXc.out.c7
    simp only at g7
    go_wp2_with fail
    clear g7
    go_loopw [5, 35] (fun v i wr => ∃ k : Nat, k ≤ gone.length ∧ i = .int .i64 k ∧ wr.ownsRow w.heap.size 37 3 v (p + k) (ecs (pre ++ (gone.take k).map El.w)) ∧ Below w.heap.size w wr) (fun _ i _ => gone.length - (RowKit.intOf i).toNat)
    case atStart => exact ⟨0, by omega, rfl, by simpa [ecs_nil] using HOc.out, HWc.out⟩
    case round =>
      obtain ⟨k, hk, rfl, hown, hbel⟩ := hrel
      by_cases hlt : k < gone.length
      · obtain ⟨b1, o1, h1, hb1, hc1, hc2, hc3⟩ := HI.out.gone.cell k hlt
        have hr1 := (hbel.cell (p := ⟨b1, o1 + k * 3, none⟩) hb1).trans hc1
        have hr2 := (hbel.cell (p := ⟨b1, o1 + k * 3 + 1, none⟩) hb1).trans hc2
        have hr3 := (hbel.cell (p := ⟨b1, o1 + k * 3 + 2, none⟩) hb1).trans hc3
        have HT := Lib.hid (take_snocE hlt)
        clear hc1 hc2 hc3
        simp only at hr1 hr2 hr3 HT
        generalize gone[k] = e at *
        have hba := hbel.alloc hbel.size (.cells #[.int .i64 e.s, .int .i64 e.q, .int .i64 e.i] 37)
        have HEr := Lib.hid (BoxE.new wr e)
        have hoa := hown.alloc (.cells #[.int .i64 e.s, .int .i64 e.q, .int .i64 e.i] 37)
        try simp only at h1
        subst h1
        go_wp2_with fail
        generalize wr.alloc (.cells #[.int .i64 e.s, .int .i64 e.q, .int .i64 e.i] 37) = Wr at *
        refine (writer_agg e _).mono ?_
        rintro x w3 ⟨rfl, hb3⟩
        have hbw3 := hba.trans (hb3.mono hba.size)
        have hown3 := owns_belE hoa hb3
        clear hba hb3 hoa hbel hown hr1 hr2 hr3
        have c2 := Lib.hid (show p + k + 1 ≤ maxLen from by have := HB201.out; have := HP21.out; have := H200.out; unfold maxLen; omega)
        have c3 := Lib.hid (show (p + k + 1) * 24 ≤ 140737488355328 from by have := HP21.out; have := H200.out; omega)
        go_wp2_with (first | (at_builtin; refine wpList_append_own _ rfl _ _ 23 rfl w.heap.size 37 i0 (.agg #[.int .i64 0, .int .i64 0, .int .i64 0]) 3 24 Tryz.underlying23 hi0 hz0 hz1 hz2 rfl (by decide) _ _ _ rfl (hown3.alloc _) ⟨w3.heap.size, 0, none⟩ 1 1 (El.cs ⟨e.s, e.q, 0⟩) rfl rfl (cell_three_new _ ⟨e.s, e.q, 0⟩ _) (cs_one ⟨e.s, e.q, 0⟩) c2.out c3.out (by have := hbw3.size; simp; omega) ?_) | fail)
        intro v4 w4 hown4 hgrow4 _
        have hb4 : Below w.heap.size w w4 := (hbw3.alloc hbw3.size _).grown hgrow4 (by have := hbw3.size; simp; omega) (own_ge hown3)
        have hown5 : w4.ownsRow w.heap.size 37 3 v4 (p + (k + 1)) (ecs (pre ++ (gone.take (k + 1)).map El.w)) := by
          rw [HT.out, List.map_append, ← List.append_assoc, ecs_append, List.map_singleton]
          have e1 : ecs [e.w] = El.cs ⟨e.s, e.q, 0⟩ := by simp [ecs, El.w]
          rw [e1, List.map_take]
          exact hown4
        clear hown3 hown4 hgrow4
        have hk9 : (k : Int) < 1000 := by have := H200.out; omega
        go_wp2
        go_roundw
        case rel => exact ⟨k + 1, by omega, by go_num, hown5, hb4⟩
        case measure => simp [RowKit.intOf]; omega
      · have h0 : k = gone.length := by omega
        subst h0
        rw [List.take_length, ← HNE.out] at hown
        have hln : p + gone.length = nl.length := by rw [HNE.out, List.length_append, List.length_map, HPP.out]
        rw [hln] at hown
        obtain ⟨a4, cap4, rfl, _, _, _, _⟩ := elems_own hown
        have HO4 := Lib.hid hown
        have HW4 := Lib.hid hbel
        clear hown hbel hln
        go_wp2_with fail
        refine (xSort_any a4 cap4 nl.length w.heap.size w.heap.size nl w _ HO4.out rfl (Nat.le_refl _) HW4.out.size HW4.out (by have := HB201.out; omega)).mono ?_
        rintro x w5 ⟨rfl, hown5, hb5⟩
        have HO5 := Lib.hid hown5
        have HW5 := Lib.hid hb5
        have hil := isort_length nl
        clear hown5 hb5
        go_wp2_with fail
        refine (xCompact_n a4 cap4 nl.length w.heap.size w.heap.size (isort nl) w _ HO5.out hil (Nat.le_refl _) HW5.out (by have := HB201.out; omega)).mono ?_
        rintro x w6 ⟨a6, cap6, rfl, hown6, hb6⟩
        have HO6 := Lib.hid hown6
        have HW6 := Lib.hid hb6
        clear hown6 hb6
        go_wp2
        go_ret2
        exact ⟨_, _, rfl, HO6.out, HW6.out⟩
end Go.Proofs.YthnedehihbploaaGreatDoor
