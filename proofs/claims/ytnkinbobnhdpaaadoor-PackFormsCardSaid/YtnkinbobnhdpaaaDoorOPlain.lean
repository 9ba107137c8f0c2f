/- The plain mathematics of elements and ops: no program in it. -/
import Derived.WalkKit
namespace Go.Proofs.YtnkinbobnhdpaaaDoor

/-- an element -/
structure El where
  s : Int
  q : Int
  i : Int
  deriving DecidableEq
def El.v (e : El) : Value := .agg #[.int .i64 e.s, .int .i64 e.q, .int .i64 e.i]
def El.cs (e : El) : List Value := [.int .i64 e.s, .int .i64 e.q, .int .i64 e.i]
def nameB (s q : Int) : Bool := decide (1 ≤ s ∧ s ≤ 8 ∧ 1 ≤ q ∧ q ≤ 268435456)
theorem nameB_of {s q : Int} (h : nameB s q = true) : 1 ≤ s ∧ s ≤ 8 ∧ 1 ≤ q ∧ q ≤ 268435456 := of_decide_eq_true h
theorem nameB_not {s q : Int} (h : nameB s q = false) : ¬ (1 ≤ s ∧ s ≤ 8 ∧ 1 ≤ q ∧ q ≤ 268435456) := of_decide_eq_false h
def El.begin (e : El) : Bool := decide (e.s = 0 ∧ e.q = 0 ∧ e.i = 0)
def El.ok (e : El) : Bool := e.begin || (nameB e.s e.q && decide (0 ≤ e.i ∧ e.i ≤ 11))
/-- by site, then number, then which -/
def El.lt (a b : El) : Bool := decide (a.s < b.s ∨ (a.s = b.s ∧ (a.q < b.q ∨ (a.q = b.q ∧ a.i < b.i))))
def El.own (s q : Int) (e : El) : Bool := decide (e.s = s ∧ e.q = q)
def btw (x lo hi : Int) : Bool := decide (lo ≤ x ∧ x ≤ hi)
end Go.Proofs.YtnkinbobnhdpaaaDoor
