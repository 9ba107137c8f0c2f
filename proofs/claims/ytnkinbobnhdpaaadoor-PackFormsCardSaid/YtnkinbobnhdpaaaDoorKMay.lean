/- package pack: which messages may be -/
import Derived.Test.YtnkinbobnhdpaaaDoorKTake
import Derived.Test.YtnkinbobnhdpaaaDoorKRow

namespace Go.Proofs.YtnkinbobnhdpaaaDoor
open Go.RowKit Go.Lib Go.Shelf

theorem btw_no1 {x lo hi : Int} (h : ¬ lo ≤ x) : btw x lo hi = false := decide_eq_false (fun h2 => h h2.1)
theorem btw_no2 {x lo hi : Int} (h : ¬ x ≤ hi) : btw x lo hi = false := decide_eq_false (fun h2 => h h2.2)
theorem btw_yes {x lo hi : Int} (h : lo ≤ x) (h2 : x ≤ hi) : btw x lo hi = true := decide_eq_true ⟨h, h2⟩
theorem has_any (f t n : Int) (w : World) : Calls Tryd.prog 93 #[.agg #[.int .i64 f, .int .i64 t], .int .i64 n] w (BoB (btw n f t) w) := by
  by_cases h1 : f ≤ n
  · have d1 : decide (f ≤ n) = true := decide_eq_true h1
    by_cases h2 : n ≤ t
    · have d2 : decide (n ≤ t) = true := decide_eq_true h2
      rw [btw_yes h1 h2]
      go_enter Tryd.func93, Tryd.ntmps93
      go_wp2
      go_ret
      exact ⟨rfl, below_al _ _⟩
    · have d2 : decide (n ≤ t) = false := decide_eq_false h2
      rw [btw_no2 h2]
      go_enter Tryd.func93, Tryd.ntmps93
      go_wp2
      go_ret
      exact ⟨rfl, below_al _ _⟩
  · have d1 : decide (f ≤ n) = false := decide_eq_false h1
    rw [btw_no1 h1]
    go_enter Tryd.func93, Tryd.ntmps93
    go_wp2
    go_ret
    exact ⟨rfl, below_al _ _⟩
/-- a kind's shape -/
structure Shp where
  s0 : Int
  s1 : Int
  n0 : Int
  n1 : Int
  k0 : Int
  k1 : Int
  q0 : Int
  q1 : Int
  e0 : Int
  e1 : Int
  o0 : Int
  o1 : Int
def ShPost (s : Shp) (ok : Bool) (w : World) (e : Ending) (w' : World) : Prop := e = .returned (.tuple #[.agg #[.int .i64 s.s0, .int .i64 s.s1, .int .i64 s.n0, .int .i64 s.n1, .int .i64 s.k0, .int .i64 s.k1, .int .i64 s.q0, .int .i64 s.q1, .int .i64 s.e0, .int .i64 s.e1, .int .i64 s.o0, .int .i64 s.o1], .bool ok]) ∧ Below w.heap.size w w'
def Shp.ok (s : Shp) (site nonce known seq err n : Int) : Bool := btw site s.s0 s.s1 && (btw nonce s.n0 s.n1 && (btw known s.k0 s.k1 && (btw seq s.q0 s.q1 && (btw err s.e0 s.e1 && btw n s.o0 s.o1))))
set_option maxRecDepth 100000 in
set_option maxHeartbeats 4000000 in
theorem shape_1 (w : World) : Calls Tryd.prog 92 #[.int .i64 1] w (ShPost ⟨0, 0, 1, 268435456, 0, 0, 0, 0, 0, 0, 0, 0⟩ true w) := by
  go_enter Tryd.func92, Tryd.ntmps92
  go_wp2
  refine bodyPost_ret (v := .tuple #[.agg #[.int .i64 0, .int .i64 0, .int .i64 1, .int .i64 268435456, .int .i64 0, .int .i64 0, .int .i64 0, .int .i64 0, .int .i64 0, .int .i64 0, .int .i64 0, .int .i64 0], .bool true]) (by simp [results, Tryd.results92, go_sem]) rfl ⟨rfl, ?_⟩
  exact below_alx (below_alx (below_alx (below_al w _) _) _) _
set_option maxRecDepth 100000 in
set_option maxHeartbeats 4000000 in
theorem shape_2 (w : World) : Calls Tryd.prog 92 #[.int .i64 2] w (ShPost ⟨1, 8, 1, 268435456, 0, 0, 0, 0, 0, 0, 0, 0⟩ true w) := by
  go_enter Tryd.func92, Tryd.ntmps92
  go_wp2
  refine bodyPost_ret (v := .tuple #[.agg #[.int .i64 1, .int .i64 8, .int .i64 1, .int .i64 268435456, .int .i64 0, .int .i64 0, .int .i64 0, .int .i64 0, .int .i64 0, .int .i64 0, .int .i64 0, .int .i64 0], .bool true]) (by simp [results, Tryd.results92, go_sem]) rfl ⟨rfl, ?_⟩
  exact below_alx (below_alx (below_alx (below_al w _) _) _) _
set_option maxRecDepth 100000 in
set_option maxHeartbeats 4000000 in
theorem shape_3 (w : World) : Calls Tryd.prog 92 #[.int .i64 3] w (ShPost ⟨1, 8, 0, 0, 0, 40, 0, 0, 0, 0, 0, 0⟩ true w) := by
  go_enter Tryd.func92, Tryd.ntmps92
  go_wp2
  refine bodyPost_ret (v := .tuple #[.agg #[.int .i64 1, .int .i64 8, .int .i64 0, .int .i64 0, .int .i64 0, .int .i64 40, .int .i64 0, .int .i64 0, .int .i64 0, .int .i64 0, .int .i64 0, .int .i64 0], .bool true]) (by simp [results, Tryd.results92, go_sem]) rfl ⟨rfl, ?_⟩
  exact below_alx (below_alx (below_alx (below_al w _) _) _) _
set_option maxRecDepth 100000 in
set_option maxHeartbeats 4000000 in
theorem shape_4 (w : World) : Calls Tryd.prog 92 #[.int .i64 4] w (ShPost ⟨1, 8, 0, 0, 0, 40, 0, 0, 0, 0, 1, 1⟩ true w) := by
  go_enter Tryd.func92, Tryd.ntmps92
  go_wp2
  refine bodyPost_ret (v := .tuple #[.agg #[.int .i64 1, .int .i64 8, .int .i64 0, .int .i64 0, .int .i64 0, .int .i64 40, .int .i64 0, .int .i64 0, .int .i64 0, .int .i64 0, .int .i64 1, .int .i64 1], .bool true]) (by simp [results, Tryd.results92, go_sem]) rfl ⟨rfl, ?_⟩
  exact below_alx (below_alx (below_alx (below_al w _) _) _) _
set_option maxRecDepth 100000 in
set_option maxHeartbeats 4000000 in
theorem shape_5 (w : World) : Calls Tryd.prog 92 #[.int .i64 5] w (ShPost ⟨0, 0, 0, 0, 0, 40, 0, 0, 0, 0, 0, 4⟩ true w) := by
  go_enter Tryd.func92, Tryd.ntmps92
  go_wp2
  refine bodyPost_ret (v := .tuple #[.agg #[.int .i64 0, .int .i64 0, .int .i64 0, .int .i64 0, .int .i64 0, .int .i64 40, .int .i64 0, .int .i64 0, .int .i64 0, .int .i64 0, .int .i64 0, .int .i64 4], .bool true]) (by simp [results, Tryd.results92, go_sem]) rfl ⟨rfl, ?_⟩
  exact below_alx (below_alx (below_alx (below_al w _) _) _) _
set_option maxRecDepth 100000 in
set_option maxHeartbeats 4000000 in
theorem shape_6 (w : World) : Calls Tryd.prog 92 #[.int .i64 6] w (ShPost ⟨1, 8, 0, 0, 0, 0, 1, 268435456, 1, 8, 0, 0⟩ true w) := by
  go_enter Tryd.func92, Tryd.ntmps92
  go_wp2
  refine bodyPost_ret (v := .tuple #[.agg #[.int .i64 1, .int .i64 8, .int .i64 0, .int .i64 0, .int .i64 0, .int .i64 0, .int .i64 1, .int .i64 268435456, .int .i64 1, .int .i64 8, .int .i64 0, .int .i64 0], .bool true]) (by simp [results, Tryd.results92, go_sem]) rfl ⟨rfl, ?_⟩
  exact below_alx (below_alx (below_alx (below_al w _) _) _) _
set_option maxRecDepth 100000 in
set_option maxHeartbeats 4000000 in
theorem shape_0 (kind : Int) (w : World) (h1 : ¬ kind = 1) (h2 : ¬ kind = 2) (h3 : ¬ kind = 3) (h4 : ¬ kind = 4) (h5 : ¬ kind = 5) (h6 : ¬ kind = 6) : Calls Tryd.prog 92 #[.int .i64 kind] w (ShPost ⟨0, 0, 0, 0, 0, 0, 0, 0, 0, 0, 0, 0⟩ false w) := by
  have b1 : (kind == 1) = false := by simp; exact h1
  have b2 : (kind == 2) = false := by simp; exact h2
  have b3 : (kind == 3) = false := by simp; exact h3
  have b4 : (kind == 4) = false := by simp; exact h4
  have b5 : (kind == 5) = false := by simp; exact h5
  have b6 : (kind == 6) = false := by simp; exact h6
  clear h1 h2 h3 h4 h5 h6
  go_enter Tryd.func92, Tryd.ntmps92
  go_wp2
  refine bodyPost_ret (v := .tuple #[.agg #[.int .i64 0, .int .i64 0, .int .i64 0, .int .i64 0, .int .i64 0, .int .i64 0, .int .i64 0, .int .i64 0, .int .i64 0, .int .i64 0, .int .i64 0, .int .i64 0], .bool false]) (by simp [results, Tryd.results92, go_sem]) rfl ⟨rfl, ?_⟩
  exact below_alx (below_alx (below_alx (below_al w _) _) _) _
end Go.Proofs.YtnkinbobnhdpaaaDoor
