/- package op: which toggles, ops may be; Check -/
import Derived.Test.YtnkinbobnhdpaaaDoorPOp
namespace Go.Proofs.YtnkinbobnhdpaaaDoor
open Go.RowKit Go.Lib

set_option maxRecDepth 100000 in
set_option maxHeartbeats 1000000 in
theorem toggleMayBe_any (o : OpD) (a : Option Addr) (cap : Nat) (w : World) : Calls Tryd.prog 108 #[o.v a cap] w (BoB (okToggle o) w) := by
  obtain ⟨site, seq, kind, ⟨es, eq, ei⟩, text, gone, of, num, gen⟩ := o
  have hb0 : Below w.heap.size w (w.alloc (OpD.obj ⟨site, seq, kind, ⟨es, eq, ei⟩, text, gone, of, num, gen⟩ a cap)) := (Below.refl _ _).alloc (Nat.le_refl _) _
  have HX := Lib.hid (BoxO.new w ⟨site, seq, kind, ⟨es, eq, ei⟩, text, gone, of, num, gen⟩ a cap)
  unfold OpD.obj at hb0 HX
  have HB := Lib.hid hb0
  clear hb0
  have HI := Lib.hid (fun w => isBegin_any ⟨es, eq, ei⟩ w)
  have HN := Lib.hid (fun w => nameMayBe_any of num w)
  unfold OpD.v okToggle at *
  unfold El.v at HI
  simp only at HI ⊢
  generalize El.begin ⟨es, eq, ei⟩ = bb at *
  generalize nameB of num = bn at *
  obtain ⟨n, hn⟩ : ∃ n, gone.length = n := ⟨_, rfl⟩
  have HL := Lib.hid hn
  simp only [hn] at HX HB ⊢
  clear hn
  cases bb
  · go_enter Tryd.func108, Tryd.ntmps108
    go_wp2_with fail
    refine (HI.out _).mono ?_
    rintro x w1 ⟨rfl, hb1⟩
    have HW1 := Lib.hid (HB.out.trans (hb1.mono HB.out.size))
    clear hb1
    go_wp2
    go_ret
    exact ⟨rfl, HW1.out⟩
  rcases text_cases text with rfl | ⟨ht, ht2, ht3⟩
  case inr =>
    rw [ht]
    clear ht
    go_enter Tryd.func108, Tryd.ntmps108
    go_wp2_with fail
    refine (HI.out _).mono ?_
    rintro x w1 ⟨rfl, hb1⟩
    have g6 := (HX.out.step hb1).c6
    have HW1 := Lib.hid (HB.out.trans (hb1.mono HB.out.size))
    clear hb1
    simp only at g6
    go_wp2
    go_ret
    exact ⟨rfl, HW1.out⟩
  rw [show emptyB ⟨#[]⟩ = true from rfl]
  by_cases h0 : n = 0
  case neg =>
    have h0b : ((n : Int) != 0) = true := by simp; omega
    rw [show decide (n = 0) = false from decide_eq_false h0]
    clear h0
    go_enter Tryd.func108, Tryd.ntmps108
    go_wp2_with fail
    refine (HI.out _).mono ?_
    rintro x w1 ⟨rfl, hb1⟩
    have g6 := (HX.out.step hb1).c6
    have g7 := (HX.out.step hb1).c7
    have HW1 := Lib.hid (HB.out.trans (hb1.mono HB.out.size))
    clear hb1
    simp only at g6
    simp only [HL.out] at g7
    go_wp2
    go_ret
    exact ⟨rfl, HW1.out⟩
  subst h0
  simp only [Bool.true_and, decide_true]
  have ho : (of = site ∧ num = seq) ∨ ((of == site) = false) ∨ ((of == site) = true ∧ (num == seq) = false) := by
    by_cases e1 : of = site
    · by_cases e2 : num = seq
      · exact .inl ⟨e1, e2⟩
      · right; right; exact ⟨by simp [e1], by simp; exact e2⟩
    · right; left; simp; exact e1
  rcases ho with ⟨rfl, rfl⟩ | ho
  · simp only [and_self, decide_true, Bool.not_true, Bool.false_and]
    go_enter Tryd.func108, Tryd.ntmps108
    go_wp2_with fail
    refine (HI.out _).mono ?_
    rintro x w1 ⟨rfl, hb1⟩
    have HX1 := Lib.hid (HX.out.step hb1)
    have HW1 := Lib.hid (HB.out.trans (hb1.mono HB.out.size))
    clear hb1
    have g0 := HX1.out.c0
    have g1 := HX1.out.c1
    have g2 := HX1.out.c2
    have g3 := HX1.out.c3
    have g4 := HX1.out.c4
    have g5 := HX1.out.c5
    have g6 := HX1.out.c6
    have g7 := HX1.out.c7
    have g8 := HX1.out.c8
    have g9 := HX1.out.c9
    have ga := HX1.out.ca
    simp only at g0 g1 g2 g3 g4 g5 g6 g8 g9 ga
    simp only [HL.out] at g7
    go_wp2
    go_ret
    exact ⟨rfl, HW1.out⟩
  have hd : decide (of = site ∧ num = seq) = false := by
    rcases ho with h | ⟨_, h⟩
    · simp at h; simp [h]
    · simp at h; simp [h]
  rw [hd]
  simp only [Bool.not_false, Bool.true_and]
  clear hd
  have hgen : (bn = false) ∨ (bn = true ∧ decide (0 ≤ gen) = false ∧ btw gen 0 268435456 = false) ∨ (bn = true ∧ decide (0 ≤ gen) = true ∧ decide (gen ≤ 268435456) = btw gen 0 268435456) := by
    cases bn
    · exact .inl rfl
    · by_cases h1 : 0 ≤ gen
      · right; right; exact ⟨rfl, by simp; omega, by unfold btw; rw [decide_eq_decide]; omega⟩
      · right; left; exact ⟨rfl, by simp; omega, by unfold btw; rw [decide_eq_false_iff_not]; omega⟩
  generalize btw gen 0 268435456 = bg at *
  rcases hgen with rfl | ⟨rfl, q1, rfl⟩ | ⟨rfl, q1, q2⟩
  all_goals
    rcases ho with ho | ⟨ho, ho2⟩
    all_goals
      go_enter Tryd.func108, Tryd.ntmps108
      go_wp2_with fail
      refine (HI.out _).mono ?_
      rintro x w1 ⟨rfl, hb1⟩
      have HX1 := Lib.hid (HX.out.step hb1)
      have HW1 := Lib.hid (HB.out.trans (hb1.mono HB.out.size))
      clear hb1
      have g0 := HX1.out.c0
      have g1 := HX1.out.c1
      have g2 := HX1.out.c2
      have g3 := HX1.out.c3
      have g4 := HX1.out.c4
      have g5 := HX1.out.c5
      have g6 := HX1.out.c6
      have g7 := HX1.out.c7
      have g8 := HX1.out.c8
      have g9 := HX1.out.c9
      have ga := HX1.out.ca
      simp only at g0 g1 g2 g3 g4 g5 g6 g8 g9 ga
      simp only [HL.out] at g7
      go_wp2_with fail
      refine (HN.out _).mono ?_
      rintro x w2 ⟨rfl, rfl⟩
      go_wp2
      go_ret
      exact ⟨rfl, HW1.out⟩

set_option maxRecDepth 100000 in
set_option maxHeartbeats 1000000 in
theorem opMayBe_any (o : OpD) (a : Option Addr) (cap : Nat) (w : World) (hi : OpIn w o a) : Calls Tryd.prog 78 #[o.v a cap] w (BoB (okOp o) w) := by
  have HT := Lib.hid (fun w => toggleMayBe_any o a cap w)
  have HE := Lib.hid (fun w h => editMayBe_any o a cap w h)
  have HI := Lib.hid hi
  unfold okOp
  generalize okToggle o = bt at *
  generalize okEdit o = be at *
  clear hi
  obtain ⟨site, seq, kind, ⟨es, eq, ei⟩, text, gone, of, num, gen⟩ := o
  have hb0 : Below w.heap.size w (w.alloc (OpD.obj ⟨site, seq, kind, ⟨es, eq, ei⟩, text, gone, of, num, gen⟩ a cap)) := (Below.refl _ _).alloc (Nat.le_refl _) _
  have HX := Lib.hid (BoxO.new w ⟨site, seq, kind, ⟨es, eq, ei⟩, text, gone, of, num, gen⟩ a cap)
  unfold OpD.obj at hb0 HX
  have HB := Lib.hid hb0
  clear hb0
  have HN := Lib.hid (fun w => nameMayBe_any site seq w)
  unfold OpD.v at *
  simp only at HT HE HI ⊢
  generalize nameB site seq = bn at *
  cases bn
  · simp only [Bool.false_and]
    go_enter Tryd.func78, Tryd.ntmps78
    go_wp2_with fail
    refine (HN.out _).mono ?_
    rintro x w2 ⟨rfl, rfl⟩
    go_wp2
    go_ret
    exact ⟨rfl, HB.out⟩
  have hz := HX.out.lt
  by_cases h1 : kind = 1
  · subst h1
    simp only [if_true, Bool.true_and]
    go_enter Tryd.func78, Tryd.ntmps78
    go_wp2_with fail
    refine (HN.out _).mono ?_
    rintro x w2 ⟨rfl, rfl⟩
    go_wp2_with fail
    refine (HE.out _ (HI.out.below HB.out)).mono ?_
    rintro x w3 ⟨rfl, hb3⟩
    have HW3 := Lib.hid (HB.out.trans (hb3.mono HB.out.size))
    clear hb3
    go_wp2
    go_ret
    exact ⟨rfl, HW3.out⟩
  have k1 : (kind == 1) = false := by simp; exact h1
  rw [if_neg h1]
  clear h1
  by_cases h2 : kind = 2
  · subst h2
    simp only [if_true, Bool.true_and]
    go_enter Tryd.func78, Tryd.ntmps78
    go_wp2_with fail
    refine (HN.out _).mono ?_
    rintro x w2 ⟨rfl, rfl⟩
    go_wp2_with fail
    refine (HT.out _).mono ?_
    rintro x w3 ⟨rfl, hb3⟩
    have HW3 := Lib.hid (HB.out.trans (hb3.mono HB.out.size))
    clear hb3
    go_wp2
    go_ret
    exact ⟨rfl, HW3.out⟩
  have k2 : (kind == 2) = false := by simp; exact h2
  rw [if_neg h2]
  clear h2
  go_enter Tryd.func78, Tryd.ntmps78
  go_wp2_with fail
  refine (HN.out _).mono ?_
  rintro x w2 ⟨rfl, rfl⟩
  go_wp2
  go_ret
  exact ⟨rfl, HB.out⟩

def errO (b : Bool) : Int := if b then 0 else 1
theorem form_err (b : Bool) (w : World) : Calls Tryd.prog 77 #[.bool b] w fun e w' => e = .returned (.int .i64 (errO b)) ∧ w' = w := form_any b w
set_option maxRecDepth 100000 in
set_option maxHeartbeats 1000000 in
theorem xCheck_any (o : OpD) (a : Option Addr) (cap : Nat) (w : World) (hi : OpIn w o a) : Calls Tryd.prog 48 #[o.v a cap] w (IntB (errO (okOp o)) w) := by
  have HT := Lib.hid (fun w h => opMayBe_any o a cap w h)
  have HI := Lib.hid hi
  generalize okOp o = b at *
  clear hi
  obtain ⟨site, seq, kind, ⟨es, eq, ei⟩, text, gone, of, num, gen⟩ := o
  have HA := Lib.hid (fun (w : World) (o : Obj) => (Below.refl w.heap.size w).alloc (Nat.le_refl _) o)
  unfold OpD.v at *
  simp only at HT HI ⊢
  go_enter Tryd.func48, Tryd.ntmps48
  go_wp2_with fail
  have HB := Lib.hid (HA.out w (OpD.obj ⟨site, seq, kind, ⟨es, eq, ei⟩, text, gone, of, num, gen⟩ a cap))
  unfold OpD.obj at HB
  refine (HT.out _ (HI.out.below HB.out)).mono ?_
  rintro x w3 ⟨rfl, hb3⟩
  have HW3 := Lib.hid (HB.out.trans (hb3.mono HB.out.size))
  clear hb3
  go_wp2_with fail
  refine (form_err _ _).mono ?_
  rintro x w4 ⟨rfl, rfl⟩
  go_wp2
  go_ret
  exact ⟨rfl, HW3.out⟩
end Go.Proofs.YtnkinbobnhdpaaaDoor
