/- contracts of the page's own functions on elements -/
import Derived.Test.YtnkinbobnhdpaaaDoorProg
import Derived.Test.YtnkinbobnhdpaaaDoorOBase
import Derived.WalkKit
import Derived.BigCall
import Derived.Below
import Derived.Lib.Hide
import Derived.BigQuiet
namespace Go.Proofs.YtnkinbobnhdpaaaDoor
open Go.RowKit Go.Lib
theorem Between_any (x lo hi : Int) (w : World) : Calls Tryd.prog 65 #[.int .i64 x, .int .i64 lo, .int .i64 hi] w (Bo (btw x lo hi) w) := by
  by_cases h1 : lo ≤ x
  · have d1 : decide (lo ≤ x) = true := decide_eq_true h1
    by_cases h2 : x ≤ hi
    · have d2 : decide (x ≤ hi) = true := decide_eq_true h2
      rw [show btw x lo hi = true from decide_eq_true ⟨h1, h2⟩]
      go_enter Tryd.func65, Tryd.ntmps65
      go_wp2
      go_ret
      exact ⟨rfl, rfl⟩
    · have d2 : decide (x ≤ hi) = false := decide_eq_false h2
      rw [show btw x lo hi = false from decide_eq_false (fun h => h2 h.2)]
      go_enter Tryd.func65, Tryd.ntmps65
      go_wp2
      go_ret
      exact ⟨rfl, rfl⟩
  · have d1 : decide (lo ≤ x) = false := decide_eq_false h1
    rw [show btw x lo hi = false from decide_eq_false (fun h => h1 h.1)]
    go_enter Tryd.func65, Tryd.ntmps65
    go_wp2
    go_ret
    exact ⟨rfl, rfl⟩
theorem rNum_any (x hi : Int) (w : World) : Calls Tryd.prog 40 #[.int .i64 x, .int .i64 hi] w (Bo (btw x 0 hi) w) := by
  by_cases h1 : 0 ≤ x
  · have d1 : decide ((0 : Int) ≤ x) = true := decide_eq_true h1
    by_cases h2 : x ≤ hi
    · have d2 : decide (x ≤ hi) = true := decide_eq_true h2
      rw [show btw x 0 hi = true from decide_eq_true ⟨h1, h2⟩]
      go_enter Tryd.func40, Tryd.ntmps40
      go_wp2
      go_ret
      exact ⟨rfl, rfl⟩
    · have d2 : decide (x ≤ hi) = false := decide_eq_false h2
      rw [show btw x 0 hi = false from decide_eq_false (fun h => h2 h.2)]
      go_enter Tryd.func40, Tryd.ntmps40
      go_wp2
      go_ret
      exact ⟨rfl, rfl⟩
  · have d1 : decide ((0 : Int) ≤ x) = false := decide_eq_false h1
    rw [show btw x 0 hi = false from decide_eq_false (fun h => h1 h.1)]
    go_enter Tryd.func40, Tryd.ntmps40
    go_wp2
    go_ret
    exact ⟨rfl, rfl⟩
theorem name_any (s q : Int) (w : World) : Calls Tryd.prog 50 #[.int .i64 s, .int .i64 q] w (Bo (nameB s q) w) := by
  cases h1 : btw s 1 8
  · have c := Between_any s 1 8 w
    rw [h1] at c
    rw [show nameB s q = false from decide_eq_false (fun h => (of_decide_eq_false h1) ⟨h.1, h.2.1⟩)]
    clear h1
    go_enter Tryd.func50, Tryd.ntmps50
    go_wp2_with fail
    refine c.mono ?_
    rintro e w' ⟨rfl, rfl⟩
    go_wp2
    go_ret
    exact ⟨rfl, rfl⟩
  · have c := Between_any s 1 8 w
    have c2 := Between_any q 1 268435456 w
    rw [h1] at c
    rw [show nameB s q = btw q 1 268435456 from by
      have := of_decide_eq_true h1
      unfold nameB btw
      rw [decide_eq_decide]
      omega]
    generalize btw q 1 268435456 = b at *
    clear h1
    go_enter Tryd.func50, Tryd.ntmps50
    go_wp2_with fail
    refine c.mono ?_
    rintro e w' ⟨rfl, rfl⟩
    go_wp2_with fail
    refine c2.mono ?_
    rintro e w' ⟨rfl, rfl⟩
    go_wp2
    go_ret
    exact ⟨rfl, rfl⟩
theorem Begin_any (e : El) (w : World) : Calls Tryd.prog 51 #[e.v] w (BoB e.begin w) := by
  obtain ⟨s, q, i⟩ := e
  have hb0 : Below w.heap.size w (w.alloc (.cells #[.int .i64 s, .int .i64 q, .int .i64 i] 34)) := (Below.refl _ _).alloc (Nat.le_refl _) _
  unfold El.v
  simp only
  go_enter Tryd.func51, Tryd.ntmps51
  go_wp2
  all_goals
    subst_vars
    go_ret
    refine ⟨ret_bool ?_, hb0⟩
    first
      | exact (decide_eq_true ⟨rfl, rfl, rfl⟩).symm
      | exact (decide_eq_false (fun h => by simp only at h; omega)).symm

theorem Less_any (a b : El) (w : World) : Calls Tryd.prog 55 #[a.v, b.v] w (BoB (a.lt b) w) := by
  obtain ⟨s, q, i⟩ := a
  obtain ⟨s2, q2, i2⟩ := b
  have hb0 : Below w.heap.size w ((w.alloc (.cells #[.int .i64 s, .int .i64 q, .int .i64 i] 34)).alloc (.cells #[.int .i64 s2, .int .i64 q2, .int .i64 i2] 34)) := ((Below.refl _ _).alloc (Nat.le_refl _) _).alloc (by simp) _
  unfold El.v
  simp only
  by_cases h1 : s = s2
  · subst h1
    by_cases h2 : q = q2
    · subst h2
      rw [show El.lt ⟨s, q, i⟩ ⟨s, q, i2⟩ = decide (i < i2) from by unfold El.lt; rw [decide_eq_decide]; simp]
      go_enter Tryd.func55, Tryd.ntmps55
      go_wp2
      go_ret
      exact ⟨rfl, hb0⟩
    · have e2 : (q != q2) = true := by simp; exact h2
      rw [show El.lt ⟨s, q, i⟩ ⟨s, q2, i2⟩ = decide (q < q2) from by unfold El.lt; rw [decide_eq_decide]; simp [h2]]
      clear h2
      go_enter Tryd.func55, Tryd.ntmps55
      go_wp2
      go_ret
      exact ⟨rfl, hb0⟩
  · have e1 : (s != s2) = true := by simp; exact h1
    rw [show El.lt ⟨s, q, i⟩ ⟨s2, q2, i2⟩ = decide (s < s2) from by unfold El.lt; rw [decide_eq_decide]; simp [h1]]
    clear h1
    go_enter Tryd.func55, Tryd.ntmps55
    go_wp2
    go_ret
    exact ⟨rfl, hb0⟩

set_option maxHeartbeats 400000 in
theorem rElem_any (e : El) (w : World) : Calls Tryd.prog 53 #[e.v] w (BoB e.ok w) := by
  obtain ⟨s, q, i⟩ := e
  have hb0 : Below w.heap.size w (w.alloc (.cells #[.int .i64 s, .int .i64 q, .int .i64 i] 34)) := (Below.refl _ _).alloc (Nat.le_refl _) _
  have hcs : (w.alloc (.cells #[.int .i64 s, .int .i64 q, .int .i64 i] 34)).cell? ⟨w.heap.size, 0, none⟩ = some (.int .i64 s) := by simp
  have hcq : (w.alloc (.cells #[.int .i64 s, .int .i64 q, .int .i64 i] 34)).cell? ⟨w.heap.size, 1, none⟩ = some (.int .i64 q) := by simp
  have hci : (w.alloc (.cells #[.int .i64 s, .int .i64 q, .int .i64 i] 34)).cell? ⟨w.heap.size, 2, none⟩ = some (.int .i64 i) := by simp
  have hz : w.heap.size < (w.alloc (.cells #[.int .i64 s, .int .i64 q, .int .i64 i] 34)).heap.size := by simp
  have cB := fun w => Begin_any ⟨s, q, i⟩ w
  unfold El.v at cB ⊢
  simp only at cB ⊢
  unfold El.ok
  cases hB : El.begin ⟨s, q, i⟩
  · rw [hB] at cB
    cases hN : nameB s q
    · have cN := fun w => name_any s q w
      simp only [hN] at cN
      simp only [Bool.false_and, Bool.or_false]
      have CB := Lib.hid cB
      have CN := Lib.hid cN
      clear cB cN hB hN
      go_enter Tryd.func53, Tryd.ntmps53
      go_wp2_with fail
      generalize w.alloc (.cells #[.int .i64 s, .int .i64 q, .int .i64 i] 34) = W0 at *
      refine (CB.out _).mono ?_
      rintro e w1 ⟨rfl, hb1⟩
      have h1 := (hb1.cell (p := ⟨w.heap.size, 0, none⟩) hz).trans hcs
      have h2 := (hb1.cell (p := ⟨w.heap.size, 1, none⟩) hz).trans hcq
      go_wp2_with fail
      refine (CN.out _).mono ?_
      rintro e w2 ⟨rfl, rfl⟩
      go_wp2
      go_ret
      exact ⟨rfl, hb0.trans (hb1.mono hb0.size)⟩
    · have cN := fun w => name_any s q w
      simp only [hN] at cN
      simp only [Bool.true_and, Bool.false_or]
      have cI := fun w => rNum_any i 11 w
      rw [show decide (0 ≤ i ∧ i ≤ 11) = btw i 0 11 from rfl]
      generalize btw i 0 11 = b at *
      have CB := Lib.hid cB
      have CN := Lib.hid cN
      have CI := Lib.hid cI
      clear cB cN hB hN cI
      go_enter Tryd.func53, Tryd.ntmps53
      go_wp2_with fail
      generalize w.alloc (.cells #[.int .i64 s, .int .i64 q, .int .i64 i] 34) = W0 at *
      refine (CB.out _).mono ?_
      rintro e w1 ⟨rfl, hb1⟩
      have h1 := (hb1.cell (p := ⟨w.heap.size, 0, none⟩) hz).trans hcs
      have h2 := (hb1.cell (p := ⟨w.heap.size, 1, none⟩) hz).trans hcq
      have h3 := (hb1.cell (p := ⟨w.heap.size, 2, none⟩) hz).trans hci
      go_wp2_with fail
      refine (CN.out _).mono ?_
      rintro e w2 ⟨rfl, rfl⟩
      go_wp2_with fail
      refine (CI.out _).mono ?_
      rintro e w2 ⟨rfl, rfl⟩
      go_wp2
      go_ret
      exact ⟨rfl, hb0.trans (hb1.mono hb0.size)⟩
  · rw [hB] at cB
    simp only [Bool.true_or]
    have CB := Lib.hid cB
    clear cB hB
    go_enter Tryd.func53, Tryd.ntmps53
    go_wp2_with fail
    generalize w.alloc (.cells #[.int .i64 s, .int .i64 q, .int .i64 i] 34) = W0 at *
    refine (CB.out _).mono ?_
    rintro e w1 ⟨rfl, hb1⟩
    go_wp2
    go_ret
    exact ⟨rfl, hb0.trans (hb1.mono hb0.size)⟩
end Go.Proofs.YtnkinbobnhdpaaaDoor

