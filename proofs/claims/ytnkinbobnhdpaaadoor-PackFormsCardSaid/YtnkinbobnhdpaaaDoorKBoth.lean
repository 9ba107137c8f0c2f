/- what the program and the page take of the same bytes: one answer -/
import Derived.Test.YtnkinbobnhdpaaaDoorKBts
import Derived.Test.YtnkinbobnhdpaaaDoorKPgT
namespace Go.Proofs.YtnkinbobnhdpaaaDoor
open Go.RowKit Go.Lib Go.Sort

def zOpD : OpD := ⟨0, 0, 0, ⟨0, 0, 0⟩, ⟨#[]⟩, [], 0, 0, 0⟩
/-- the op, what is behind, whether there is one -/
def tkR (F : List UInt8) : OpD × List UInt8 × Bool := match tkOp (some F) with
  | some (o, r) => (o, r, true)
  | none => (zOpD, [], false)
theorem tkR_len (F : List UInt8) : (tkR F).1.gone.length ≤ 1000000 := by
  unfold tkR
  cases h : tkOp (some F) with
  | none => exact Nat.zero_le _
  | some p =>
    obtain ⟨o, r⟩ := p
    have := (okOp_nums (tkOp_some.1 h).2).len
    show o.gone.length ≤ 1000000
    omega
theorem tkO_both (F : List UInt8) (w : World) (hs : F.length ≤ TOP) : Calls Tryd.prog 22 #[Nb.S F] w fun e w' => ∃ a c, e = .returned (.tuple #[(tkR F).1.v a c, Nb.S (tkR F).2.1, .int .i64 (if (tkR F).2.2 = true then 0 else 7)]) ∧ ElemsAt w' a (tkR F).1.gone ∧ Below w.heap.size w w' :=
  (TakeOp_any F w hs).mono fun e w' hp => by
    unfold tkR
    rcases hp with ⟨o2, r2, a2, c2, h2, rfl, ho, hb⟩ | ⟨h2, rfl, hb⟩
    · rw [h2]
      obtain ⟨a9, c9, hv9, he9, _⟩ := elems_own ho
      simp only [Value.slice.injEq] at hv9
      exact ⟨a2, c2, rfl, by rw [hv9.1]; exact he9, hb⟩
    · rw [h2]
      exact ⟨none, 0, rfl, ElemsAt.nil none, hb⟩
theorem tkP_both (F : List UInt8) (w : World) (hT : ∀ w' : World, Below w.heap.size w w' → Tabs w') (hs : F.length ≤ TOPP) : Calls Tryd.prog 23 #[Nb.S F] w fun e w' => ∃ a c, e = .returned (.tuple #[(tkR F).1.v a c, Nb.S (tkR F).2.1, .bool (tkR F).2.2]) ∧ ElemsAt w' a (tkR F).1.gone ∧ Below w.heap.size w w' :=
  (pTakeOp_any F w hT hs).mono fun e w' hp => by
    unfold tkR
    rcases hp with ⟨o2, r2, a2, c2, h2, rfl, ho, hb⟩ | ⟨h2, rfl, hb⟩
    · rw [h2]
      obtain ⟨a9, c9, hv9, he9, _⟩ := elems_own ho
      simp only [Value.slice.injEq] at hv9
      exact ⟨a2, c2, rfl, by rw [hv9.1]; exact he9, hb⟩
    · rw [h2]
      exact ⟨none, 0, rfl, ElemsAt.nil none, hb⟩
end Go.Proofs.YtnkinbobnhdpaaaDoor
