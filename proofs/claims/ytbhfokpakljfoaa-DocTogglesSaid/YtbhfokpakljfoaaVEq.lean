/- lectionaryref0.EqElems; the row that wakes -/
import Derived.Test.YtbhfokpakljfoaaTCheck
import Derived.Test.YtbhfokpakljfoaaVArgs
import Derived.Test.YtbhfokpakljfoaaTPages
namespace Go.Proofs.Ytbhfokpakljfoaa
open Go.RowKit Go.Lib

theorem el_split (a b : El) : (a = b ∧ a.s = b.s ∧ a.q = b.q ∧ a.i = b.i) ∨ (¬ a = b ∧ (a.s ≠ b.s ∨ (a.s = b.s ∧ a.q ≠ b.q) ∨ (a.s = b.s ∧ a.q = b.q ∧ a.i ≠ b.i))) := by
  by_cases h : a = b
  · exact .inl ⟨h, by rw [h], by rw [h], by rw [h]⟩
  · exact .inr ⟨h, el_ne h⟩
/-- the row that wakes -/
def wk1 : OpD := ⟨1, 1, 1, ⟨0, 0, 0⟩, ⟨#[97]⟩, [], 0, 0, 0⟩
def wk2 : OpD := ⟨2, 1, 1, ⟨0, 0, 0⟩, ⟨#[98]⟩, [], 0, 0, 0⟩
theorem wk_row : rowP [wk1, wk2] := by
  refine ⟨by decide, fun k hk => ?_⟩
  have : k = 0 ∨ k = 1 := by simp at hk; omega
  rcases this with rfl | rfl
  · show tk [] wk1 = true
    kernel_rfl
  · show tk [wk1] wk2 = true
    kernel_rfl
theorem wk_ord : ordE [wk1, wk2] = [⟨2, 1, 0⟩, ⟨1, 1, 0⟩] := by kernel_rfl
end Go.Proofs.Ytbhfokpakljfoaa
/- lectionaryref0.At -/
namespace Go.Proofs.Ytbhfokpakljfoaa
open Go.RowKit Go.Lib

end Go.Proofs.Ytbhfokpakljfoaa
