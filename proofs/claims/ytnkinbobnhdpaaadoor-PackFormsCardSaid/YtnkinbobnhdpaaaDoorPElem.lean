/- package op's own functions on elements, and on the name of an op -/
import Derived.Test.YtnkinbobnhdpaaaDoorOBase
import Derived.Test.YtnkinbobnhdpaaaDoorShelfS
import Derived.Shelf.Small.Wraps
import Derived.StillTail
import Derived.StillTactics
import Derived.Sort.Grow
namespace Go.Proofs.YtnkinbobnhdpaaaDoor
open Go.RowKit Go.Lib Go.Sort

theorem form_any (b : Bool) (w : World) : Calls Tryd.prog 77 #[.bool b] w fun e w' => e = .returned (.int .i64 (if b then 0 else 1)) ∧ w' = w := by
  cases b
  all_goals
    go_enter Tryd.func77, Tryd.ntmps77
    go_wp2
    go_ret
    exact ⟨rfl, rfl⟩
theorem isBegin_any (e : El) (w : World) : Calls Tryd.prog 123 #[e.v] w (BoB e.begin w) := by
  obtain ⟨s, q, i⟩ := e
  have hb0 : Below w.heap.size w (w.alloc (.cells #[.int .i64 s, .int .i64 q, .int .i64 i] 34)) := (Below.refl _ _).alloc (Nat.le_refl _) _
  unfold El.v
  simp only
  go_enter Tryd.func123, Tryd.ntmps123
  go_wp2
  all_goals
    subst_vars
    go_ret
    refine ⟨ret_bool ?_, hb0⟩
    first
      | exact (decide_eq_true ⟨rfl, rfl, rfl⟩).symm
      | exact (decide_eq_false (fun h => by simp only at h; omega)).symm

theorem nameMayBe_any (s q : Int) (w : World) : Calls Tryd.prog 106 #[.int .i64 s, .int .i64 q] w (Bo (nameB s q) w) := by
  have hc : (decide (1 ≤ s) = false) ∨ (decide (1 ≤ s) = true ∧ decide (s ≤ 8) = false) ∨ (decide (1 ≤ s) = true ∧ decide (s ≤ 8) = true ∧ decide (1 ≤ q) = false) ∨ (decide (1 ≤ s) = true ∧ decide (s ≤ 8) = true ∧ decide (1 ≤ q) = true) := by
    simp only [decide_eq_true_eq, decide_eq_false_iff_not]; omega
  rcases hc with h1 | ⟨h1, h2⟩ | ⟨h1, h2, h3⟩ | ⟨h1, h2, h3⟩
  case inr.inr.inr =>
    rw [show nameB s q = decide (q ≤ 268435456) from by simp only [decide_eq_true_eq] at h1 h2 h3; unfold nameB; rw [decide_eq_decide]; omega]
    go_enter Tryd.func106, Tryd.ntmps106
    go_wp2
    go_ret
    exact ⟨rfl, rfl⟩
  all_goals
    rw [show nameB s q = false from by simp only [decide_eq_true_eq, decide_eq_false_iff_not] at *; unfold nameB; rw [decide_eq_false_iff_not]; omega]
    go_enter Tryd.func106, Tryd.ntmps106
    go_wp2
    go_ret
    exact ⟨rfl, rfl⟩
set_option maxHeartbeats 400000 in
theorem elemMayBe_any (e : El) (w : World) : Calls Tryd.prog 129 #[e.v] w (BoB e.ok w) := by
  obtain ⟨s, q, i⟩ := e
  have hb0 : Below w.heap.size w (w.alloc (.cells #[.int .i64 s, .int .i64 q, .int .i64 i] 34)) := (Below.refl _ _).alloc (Nat.le_refl _) _
  have hcs : (w.alloc (.cells #[.int .i64 s, .int .i64 q, .int .i64 i] 34)).cell? ⟨w.heap.size, 0, none⟩ = some (.int .i64 s) := by simp
  have hcq : (w.alloc (.cells #[.int .i64 s, .int .i64 q, .int .i64 i] 34)).cell? ⟨w.heap.size, 1, none⟩ = some (.int .i64 q) := by simp
  have hci : (w.alloc (.cells #[.int .i64 s, .int .i64 q, .int .i64 i] 34)).cell? ⟨w.heap.size, 2, none⟩ = some (.int .i64 i) := by simp
  have hz : w.heap.size < (w.alloc (.cells #[.int .i64 s, .int .i64 q, .int .i64 i] 34)).heap.size := by simp
  have cB := fun w => isBegin_any ⟨s, q, i⟩ w
  unfold El.v at cB ⊢
  simp only at cB ⊢
  unfold El.ok
  cases hB : El.begin ⟨s, q, i⟩
  · rw [hB] at cB
    cases hN : nameB s q
    · have cN := fun w => nameMayBe_any s q w
      simp only [hN] at cN
      simp only [Bool.false_and, Bool.or_false]
      have CB := Lib.hid cB
      have CN := Lib.hid cN
      clear cB cN hB hN
      go_enter Tryd.func129, Tryd.ntmps129
      go_wp2_with fail
      generalize w.alloc (.cells #[.int .i64 s, .int .i64 q, .int .i64 i] 34) = W0 at *
      refine (CB.out _).mono ?_
      rintro e w1 ⟨rfl, hb1⟩
      have h1 := (hb1.cell (p := ⟨w.heap.size, 0, none⟩) hz).trans hcs
      have h2 := (hb1.cell (p := ⟨w.heap.size, 1, none⟩) hz).trans hcq
      go_wp2_with fail
      refine (CN.out _).mono ?_
      rintro e w2 ⟨rfl, rfl⟩
      go_wp2
      go_ret
      exact ⟨rfl, hb0.trans (hb1.mono hb0.size)⟩
    · have cN := fun w => nameMayBe_any s q w
      simp only [hN] at cN
      simp only [Bool.true_and, Bool.false_or]
      have CB := Lib.hid cB
      have CN := Lib.hid cN
      clear cB cN hB hN
      by_cases h0 : 0 ≤ i
      · rw [show decide (0 ≤ i ∧ i ≤ 11) = decide (i < 12) from by rw [decide_eq_decide]; omega]
        go_enter Tryd.func129, Tryd.ntmps129
        go_wp2_with fail
        generalize w.alloc (.cells #[.int .i64 s, .int .i64 q, .int .i64 i] 34) = W0 at *
        refine (CB.out _).mono ?_
        rintro e w1 ⟨rfl, hb1⟩
        have h1 := (hb1.cell (p := ⟨w.heap.size, 0, none⟩) hz).trans hcs
        have h2 := (hb1.cell (p := ⟨w.heap.size, 1, none⟩) hz).trans hcq
        have h3 := (hb1.cell (p := ⟨w.heap.size, 2, none⟩) hz).trans hci
        have h4 : decide ((0 : Int) ≤ i) = true := by simp; omega
        go_wp2_with fail
        refine (CN.out _).mono ?_
        rintro e w2 ⟨rfl, rfl⟩
        go_wp2
        go_ret
        exact ⟨rfl, hb0.trans (hb1.mono hb0.size)⟩
      · rw [show decide (0 ≤ i ∧ i ≤ 11) = false from by rw [decide_eq_false_iff_not]; omega]
        go_enter Tryd.func129, Tryd.ntmps129
        go_wp2_with fail
        generalize w.alloc (.cells #[.int .i64 s, .int .i64 q, .int .i64 i] 34) = W0 at *
        refine (CB.out _).mono ?_
        rintro e w1 ⟨rfl, hb1⟩
        have h1 := (hb1.cell (p := ⟨w.heap.size, 0, none⟩) hz).trans hcs
        have h2 := (hb1.cell (p := ⟨w.heap.size, 1, none⟩) hz).trans hcq
        have h3 := (hb1.cell (p := ⟨w.heap.size, 2, none⟩) hz).trans hci
        have h4 : decide ((0 : Int) ≤ i) = false := by simp; omega
        go_wp2_with fail
        refine (CN.out _).mono ?_
        rintro e w2 ⟨rfl, rfl⟩
        go_wp2
        go_ret
        exact ⟨rfl, hb0.trans (hb1.mono hb0.size)⟩
  · rw [hB] at cB
    simp only [Bool.true_or]
    have CB := Lib.hid cB
    clear cB hB
    go_enter Tryd.func129, Tryd.ntmps129
    go_wp2_with fail
    generalize w.alloc (.cells #[.int .i64 s, .int .i64 q, .int .i64 i] 34) = W0 at *
    refine (CB.out _).mono ?_
    rintro e w1 ⟨rfl, hb1⟩
    go_wp2
    go_ret
    exact ⟨rfl, hb0.trans (hb1.mono hb0.size)⟩
theorem isOwn_any (o : OpD) (a : Option Addr) (cap : Nat) (e : El) (w : World) : Calls Tryd.prog 130 #[o.v a cap, e.v] w (BoB (e.own o.site o.seq) w) := by
  obtain ⟨site, seq, kind, ⟨es, eq, ei⟩, text, gone, of, num, gen⟩ := o
  obtain ⟨s, q, i⟩ := e
  have hb0 : Below w.heap.size w ((w.alloc (OpD.obj ⟨site, seq, kind, ⟨es, eq, ei⟩, text, gone, of, num, gen⟩ a cap)).alloc (.cells #[.int .i64 s, .int .i64 q, .int .i64 i] 34)) := ((Below.refl _ _).alloc (Nat.le_refl _) _).alloc (by simp) _
  unfold OpD.v El.v
  unfold OpD.obj at hb0
  simp only at hb0 ⊢
  by_cases h1 : s = site
  · subst h1
    by_cases h2 : q = seq
    · subst h2
      rw [show El.own s q ⟨s, q, i⟩ = true from decide_eq_true ⟨rfl, rfl⟩]
      go_enter Tryd.func130, Tryd.ntmps130
      go_wp2
      go_ret
      exact ⟨rfl, hb0⟩
    · have e2 : (q == seq) = false := by simp; exact h2
      rw [show El.own s seq ⟨s, q, i⟩ = false from decide_eq_false (fun h => h2 h.2)]
      clear h2
      go_enter Tryd.func130, Tryd.ntmps130
      go_wp2
      go_ret
      exact ⟨rfl, hb0⟩
  · have e1 : (s == site) = false := by simp; exact h1
    rw [show El.own site seq ⟨s, q, i⟩ = false from decide_eq_false (fun h => h1 h.1)]
    clear h1
    go_enter Tryd.func130, Tryd.ntmps130
    go_wp2
    go_ret
    exact ⟨rfl, hb0⟩

/-- the name of the op that writes an element -/
def El.w (e : El) : El := ⟨e.s, e.q, 0⟩
/-- by site, then number, then which: less, the same, more -/
def orI (x y z : Int) : Int := if x ≠ 0 then x else if y ≠ 0 then y else z
def cmpE (a b : El) : Int := orI (compareInt a.s b.s) (compareInt a.q b.q) (compareInt a.i b.i)
theorem cmpE_lt (a b : El) : decide (cmpE a b < 0) = a.lt b := by
  unfold cmpE El.lt orI compareInt
  rw [decide_eq_decide]
  repeat' split
  all_goals omega
theorem cmpE_any_int (x y : Int) (w : World) : Calls Tryd.prog 136 #[.int .i64 x, .int .i64 y] w fun e w' => e = .returned (.int .i64 (compareInt x y)) ∧ w' = w :=
  Any.cmp_Compare_int Tryd.cmpInt x y w

set_option maxRecDepth 100000 in
set_option maxHeartbeats 1000000 in
theorem Or_any (x y z : Int) (b : Nat) (w : World) (h0 : w.cell? ⟨b, 0, none⟩ = some (.int .i64 x)) (h1 : w.cell? ⟨b, 1, none⟩ = some (.int .i64 y)) (h2 : w.cell? ⟨b, 2, none⟩ = some (.int .i64 z)) :
    Calls Tryd.prog 135 #[.slice (some ⟨b, 0, none⟩) 3 3] w fun e w' => e = .returned (.int .i64 (orI x y z)) ∧ w' = w := by
  by_cases hx : x = 0
  · subst hx
    by_cases hy : y = 0
    · subst hy
      by_cases hz : z = 0
      · subst hz
        go_enter Tryd.func135, Tryd.ntmps135
        go_wp2
        refine wp_loop_rounds 4 ?_
        rw [rounds_succ]
        go_wp2
        rw [rounds_succ]
        go_wp2
        rw [rounds_succ]
        go_wp2
        rw [rounds_succ]
        go_wp2
        go_ret
        exact ⟨rfl, rfl⟩
      · have e3 : (z != 0) = true := by simp; exact hz
        go_enter Tryd.func135, Tryd.ntmps135
        go_wp2
        refine wp_loop_rounds 4 ?_
        rw [rounds_succ]
        go_wp2
        rw [rounds_succ]
        go_wp2
        rw [rounds_succ]
        go_wp2
        go_ret
        exact ⟨rfl, rfl⟩
    · have e2 : (y != 0) = true := by simp; exact hy
      rw [show orI 0 y z = y from by unfold orI; simp [hy]]
      go_enter Tryd.func135, Tryd.ntmps135
      go_wp2
      refine wp_loop_rounds 4 ?_
      rw [rounds_succ]
      go_wp2
      rw [rounds_succ]
      go_wp2
      go_ret
      exact ⟨rfl, rfl⟩
  · have e1 : (x != 0) = true := by simp; exact hx
    rw [show orI x y z = x from by unfold orI; simp [hx]]
    go_enter Tryd.func135, Tryd.ntmps135
    go_wp2
    refine wp_loop_rounds 4 ?_
    rw [rounds_succ]
    go_wp2
    go_ret
    exact ⟨rfl, rfl⟩

set_option maxRecDepth 100000 in
set_option maxHeartbeats 1000000 in
theorem compare_any (a b : El) (w : World) : Calls Tryd.prog 133 #[a.v, b.v] w fun e w' => e = .returned (.int .i64 (cmpE a b)) ∧ ∃ q os', w' = grow (w.drewN q) os' := by
  obtain ⟨s, q, i⟩ := a
  obtain ⟨s2, q2, i2⟩ := b
  have c1 := fun w => cmpE_any_int s s2 w
  have c2 := fun w => cmpE_any_int q q2 w
  have c3 := fun w => cmpE_any_int i i2 w
  unfold El.v cmpE
  simp only
  generalize compareInt s s2 = x at *
  generalize compareInt q q2 = y at *
  generalize compareInt i i2 = z at *
  go_enter Tryd.func133, Tryd.ntmps133
  go_wp2_with fail
  have hc0 : (((w.alloc (.cells #[.int .i64 s, .int .i64 q, .int .i64 i] 34)).alloc (.cells #[.int .i64 s2, .int .i64 q2, .int .i64 i2] 34)).cell? ⟨w.heap.size, 0, none⟩ = some (.int .i64 s)) ∧ (((w.alloc (.cells #[.int .i64 s, .int .i64 q, .int .i64 i] 34)).alloc (.cells #[.int .i64 s2, .int .i64 q2, .int .i64 i2] 34)).cell? ⟨w.heap.size, 1, none⟩ = some (.int .i64 q)) ∧ (((w.alloc (.cells #[.int .i64 s, .int .i64 q, .int .i64 i] 34)).alloc (.cells #[.int .i64 s2, .int .i64 q2, .int .i64 i2] 34)).cell? ⟨w.heap.size, 2, none⟩ = some (.int .i64 i)) ∧ (((w.alloc (.cells #[.int .i64 s, .int .i64 q, .int .i64 i] 34)).alloc (.cells #[.int .i64 s2, .int .i64 q2, .int .i64 i2] 34)).cell? ⟨w.heap.size + 1, 0, none⟩ = some (.int .i64 s2)) ∧ (((w.alloc (.cells #[.int .i64 s, .int .i64 q, .int .i64 i] 34)).alloc (.cells #[.int .i64 s2, .int .i64 q2, .int .i64 i2] 34)).cell? ⟨w.heap.size + 1, 1, none⟩ = some (.int .i64 q2)) ∧ (((w.alloc (.cells #[.int .i64 s, .int .i64 q, .int .i64 i] 34)).alloc (.cells #[.int .i64 s2, .int .i64 q2, .int .i64 i2] 34)).cell? ⟨w.heap.size + 1, 2, none⟩ = some (.int .i64 i2)) := ⟨by simp, by simp, by simp, by simp, by simp, by simp⟩
  have hgr : (w.alloc (.cells #[.int .i64 s, .int .i64 q, .int .i64 i] 34)).alloc (.cells #[.int .i64 s2, .int .i64 q2, .int .i64 i2] 34) = grow w (#[.cells #[.int .i64 s, .int .i64 q, .int .i64 i] 34] ++ #[.cells #[.int .i64 s2, .int .i64 q2, .int .i64 i2] 34]) := by rw [alloc_eq_grow, alloc_eq_grow, grow_grow]
  have HG := Lib.hid hgr
  clear hgr
  generalize (w.alloc (.cells #[.int .i64 s, .int .i64 q, .int .i64 i] 34)).alloc (.cells #[.int .i64 s2, .int .i64 q2, .int .i64 i2] 34) = W0 at *
  obtain ⟨hc0, hc1, hc2, hc3, hc4, hc5⟩ : W0.drew.cell? ⟨w.heap.size, 0, none⟩ = some (.int .i64 s) ∧ W0.drew.cell? ⟨w.heap.size, 1, none⟩ = some (.int .i64 q) ∧ W0.drew.cell? ⟨w.heap.size, 2, none⟩ = some (.int .i64 i) ∧ W0.drew.cell? ⟨w.heap.size + 1, 0, none⟩ = some (.int .i64 s2) ∧ W0.drew.cell? ⟨w.heap.size + 1, 1, none⟩ = some (.int .i64 q2) ∧ W0.drew.cell? ⟨w.heap.size + 1, 2, none⟩ = some (.int .i64 i2) := hc0
  have HG2 := Lib.hid (show W0.drew = grow (w.drewN 1) _ from by rw [HG.out]; rfl)
  clear HG
  refine wp_region_still_tail 15 (by kernel_rfl) (by kernel_rfl) ?_
  change wpStill _ _ W0.drew (fun a' => wpList _ _ _ _ a' W0.drew) _ _
  generalize W0.drew = we at *
  simp only [List.take_succ_cons, List.take_zero, List.drop_succ_cons, List.drop_zero]
  iterate 4 still_step
  still_call c1 _
  iterate 4 still_step
  still_call c2 _
  iterate 4 still_step
  still_call c3 _
  refine wpStill_nil ?_
  clear hc0 hc1 hc2 hc3 hc4 hc5
  go_wp2_with fail
  refine (Or_any x y z _ _ (by simp) (by simp) (by simp)).mono ?_
  rintro e w' ⟨rfl, rfl⟩
  go_wp2
  go_ret
  exact ⟨rfl, 1, _, by rw [HG2.out, alloc_eq_grow, grow_grow]⟩

theorem compare_below (a b : El) (w : World) : Calls Tryd.prog 133 #[a.v, b.v] w (IntB (cmpE a b) w) :=
  (compare_any a b w).mono fun _ _ ⟨he, q, os, hw⟩ => ⟨he, by
    subst hw
    exact ⟨rfl, rfl, rfl, by simp [grow, World.drewN], fun k hk => by simp [grow, World.drewN, Array.getElem?_append, hk]⟩⟩

set_option maxRecDepth 100000 in
set_option maxHeartbeats 1000000 in
theorem xLess_any (a b : El) (w : World) : Calls Tryd.prog 131 #[a.v, b.v] w (BoB (a.lt b) w) := by
  obtain ⟨s, q, i⟩ := a
  obtain ⟨s2, q2, i2⟩ := b
  have hb0 : Below w.heap.size w ((w.alloc (.cells #[.int .i64 s, .int .i64 q, .int .i64 i] 34)).alloc (.cells #[.int .i64 s2, .int .i64 q2, .int .i64 i2] 34)) := ((Below.refl _ _).alloc (Nat.le_refl _) _).alloc (by simp) _
  have hc := fun w => compare_below ⟨s, q, i⟩ ⟨s2, q2, i2⟩ w
  have hl := cmpE_lt ⟨s, q, i⟩ ⟨s2, q2, i2⟩
  rw [← hl]
  clear hl
  generalize cmpE ⟨s, q, i⟩ ⟨s2, q2, i2⟩ = r at *
  unfold El.v at *
  simp only at hc ⊢
  have HC := Lib.hid hc
  clear hc
  go_enter Tryd.func131, Tryd.ntmps131
  go_wp2_with fail
  refine (HC.out _).mono ?_
  rintro e w1 ⟨rfl, hb1⟩
  go_wp2
  go_ret
  exact ⟨rfl, hb0.trans (hb1.mono hb0.size)⟩
end Go.Proofs.YtnkinbobnhdpaaaDoor
