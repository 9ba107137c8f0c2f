/- contracts of the laws' own helpers -/
import Derived.Test.YtanegkjmalbhcaaNumD
namespace Go.Proofs.Ytanegkjmalbhcaa
open Go.RowKit Go.Lib

theorem uv300 : uvarint 300 = [172, 2] := by
  rw [uvarint_big (by decide), uvarint_small (by decide)]; decide
theorem Put_300 (w : World) : Calls Try.prog 8 #[.int .i64 300] w fun e w' => e = .returned (.tuple #[.string ⟨#[172, 2]⟩, .int .i64 0]) ∧ Below w.heap.size w w' := by
  have := Put_nat 300 w (by omega)
  rw [uv300] at this
  exact this
theorem Take_300 (w : World) : Calls Try.prog 13 #[.string ⟨#[172, 2, 120]⟩] w fun e w' => e = .returned (.tuple #[.int .i64 300, .string ⟨#[120]⟩, .int .i64 0]) ∧ Below w.heap.size w w' := by
  have := Take_any ⟨#[172, 2, 120]⟩ w (by decide)
  have e : tk 0 0 (⟨#[172, 2, 120]⟩ : ByteArray).data.toList = some (300, [120]) := by decide
  rw [e] at this
  exact this
theorem wakes_any (w : World) : Calls Try.prog 19 #[] w fun e w' => e = .returned (.bool true) ∧ Below w.heap.size w w' := by
  go_enter Try.func19, Try.ntmps19
  go_wp2_with fail
  refine (Put_300 _).mono ?_
  rintro e w1 ⟨rfl, hb1⟩
  go_wp2_with fail
  refine (Take_300 _).mono ?_
  rintro e w2 ⟨rfl, hb2⟩
  go_wp2_with (go_at_call 12; refine (num_any _ _).mono ?_; rintro e w3 ⟨rfl, rfl⟩)
  go_ret
  exact ⟨rfl, hb1.trans (hb2.mono hb1.size)⟩
end Go.Proofs.Ytanegkjmalbhcaa
