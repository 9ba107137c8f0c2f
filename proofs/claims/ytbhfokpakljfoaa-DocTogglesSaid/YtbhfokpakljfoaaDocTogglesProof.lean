/-
  PROVED: the law DocToggles returns true for every input, and what it was handed reads as before. Conditions: none beside those of the form.
-/
import Derived.Test.YtbhfokpakljfoaaRows
import Derived.Test.YtbhfokpakljfoaaVLawToggles
import Derived.Test.YtbhfokpakljfoaaVArgs
import Derived.ProofKit
import Derived.OpenShut
import Derived.ShutString
import Derived.ChangeOld
import Derived.Below
import Derived.SizedLaws
import Derived.Lib.SmallJoins
namespace Go.Proofs.Ytbhfokpakljfoaa.docToggles
open Go.ChangeShapes Go.WideShapes Go.ChangeAt Go.RowKit Go.Joins
open Go.Deep (open_slice1)
set_option linter.unusedVariables false

theorem own : ownKnob Try.prog.godebug = none := by kernel_rfl
theorem laidOut : laidOutB Try.prog = true := by kernel_rfl
theorem cells25 : Try.prog.cellsOf 27 = 4 := by kernel_rfl

set_option maxRecDepth 100000 in
theorem lifted (os : Os) (started : os.Started) (H : Type) (enc : TypeId × Value → H) :
    ReturnsInHanded {} Try.checked os 3 .any (Rows.docTogglesSpec.pre6 enc Try.prog Try.f3 Rows.docTogglesRow.domain false) (Rows.docTogglesSpec.post enc Try.prog Try.f3 false true false false) := by
  refine returnsInHanded_of_change_sized (C := Try.checked) own started (by kernel_rfl) Try.func3
    (ChangeSpec.witness6 (enc := enc) (C := Try.checked) false ⟨#[], #[.agg #[.slice none 0 0, .slice none 0 0, .slice none 0 0, .slice none 0 0]], []⟩ 8 (by kernel_rfl) (by kernel_rfl) (by kernel_rfl) (by kernel_rfl)) ?_
  intro W base args ds gs before hval0 hW hcnd hsz0 _
  have hval : ∀ (j : Nat) t v, Try.f3.params[j]? = some t → args[j]? = some v → Value.okWide Try.prog W .any base t v := hval0
  have hW' := hW
  obtain ⟨p, q, hA0, hV, rfl, hfz, hnd⟩ := hW
  have hA : DataW.TrodAll enc Try.prog W 0 (fun _ => true) true Try.f3.params.toList args.toList ds p := hA0
  rw [Try.params3] at hA hval
  obtain ⟨v0, vs0, d0, ds0, p0, q0, hargs, rfl, rfl, h0, r0⟩ := trodAll_cons hA
  obtain ⟨rfl, rfl, rfl⟩ := trodAll_nil r0
  obtain rfl : args = #[v0] := by cases args; simp_all
  obtain ⟨rfl, rfl⟩ := trodVars_none hV
  have k0 := h0
  have lt0 : ∀ x ∈ p0, x.block < W.heap.size := by obtain ⟨m, hm⟩ := k0; exact DataW.trod_lt m _ _ _ hm
  obtain ⟨c0, c1, c2, c3, y0, y1, y2, y3, m, hv0, hd0, hp0, hy0, hy1, hy2, hy3⟩ := open_agg4 Try.underlying27 (by kernel_rfl) cells25 (hval 0 27 v0 rfl rfl) h0
  clear hA0 hval0
  simp only [List.append_nil] at hsz0
  subst hv0
  have hsz : (DataW.weightsEach Try.prog [27] [DataW.agg [y0.1, y1.1, y2.1, y3.1]]).all (fun x => decide (x ≤ reachBytes)) = true := by rw [← hd0]; exact hsz0
  obtain ⟨hw0, hw1, hw2, hw3⟩ := parts5 hsz
  obtain ⟨a0, cp0, lr, rfl, hlr, hn0⟩ := rows_at hy0 hw0
  obtain ⟨a1, cp1, le, rfl, hle, hlel, hn1⟩ := elems_at hy1 hw1
  obtain ⟨a2, cp2, lo, rfl, hlo, hn2⟩ := ops_at hy2 hw2
  obtain ⟨a3, cp3, ln, rfl, hln, hlnl, hn3⟩ := nums_at hy3 hw3
  refine (docToggles_walk ⟨lr, le, lo, ln, a0, a1, a2, a3, cp0, cp1, cp2, cp3⟩ W ⟨hlr, hle, hlel, hlo, hln, hlnl⟩).mono fun e W' ⟨he, bel⟩ => ?_
  subst he
  exact ⟨_, rfl, _, _, _, [], _, [], hW', trodAll_mk1 (shut_bool Try.underlying4 _), (trodAll_cons_mk (Below.trod laidOut (by kernel_rfl) (of_decide_eq_true (by kernel_rfl)) k0 bel lt0) trodAll_mk0), rfl, bel.frame _, fun h => by cases h⟩

theorem over : Rows.docTogglesRow.holds Try.pinned (OpenSpec.ofChange Rows.docTogglesSpec) :=
  OpenClaim.holds_of_wide 3 Try.f3 rfl rfl rfl rfl rfl rfl rfl ⟨rfl, rfl, rfl, rfl, rfl⟩ rfl rfl rfl rfl rfl (by kernel_rfl) Try.func3 (by kernel_rfl)
    (of_decide_eq_true (by kernel_rfl)) (by unfold Func.isWrapper; first | (rw [if_pos (by decide +kernel)]; kernel_rfl) | (rw [if_neg (by decide +kernel)]; exact ⟨rfl, rfl⟩))
    (fun os started H enc _ => lifted os started H enc)

end Go.Proofs.Ytbhfokpakljfoaa.docToggles
namespace Go.Proofs.Ytbhfokpakljfoaa
theorem docToggles_holds : Rows.DocTogglesSaid := docToggles.over
end Go.Proofs.Ytbhfokpakljfoaa
