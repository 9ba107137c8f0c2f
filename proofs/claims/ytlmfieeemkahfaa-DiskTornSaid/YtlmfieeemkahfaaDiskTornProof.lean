/-
  PROVED: the law DiskTorn returns true for every input, and what it was handed reads as before. Conditions: none beside those of the form.
-/
import Derived.Test.YtlmfieeemkahfaaRows
import Derived.Test.YtlmfieeemkahfaaDkTo
import Derived.Test.YtlmfieeemkahfaaDkArg
import Derived.ProofKit
import Derived.OpenShut
import Derived.ShutString
import Derived.ChangeOld
import Derived.Below
import Derived.SizedLaws
import Derived.Lib.SmallJoins
namespace Go.Proofs.Ytlmfieeemkahfaa.diskTorn
open Go.ChangeShapes Go.WideShapes Go.ChangeAt Go.RowKit Go.Joins
open Go.Deep (open_slice1)
set_option linter.unusedVariables false

theorem own : ownKnob Try.prog.godebug = none := by kernel_rfl
theorem laidOut : laidOutB Try.prog = true := by kernel_rfl
theorem cells25 : Try.prog.cellsOf 28 = 4 := by kernel_rfl

set_option maxRecDepth 100000 in
theorem lifted (os : Os) (started : os.Started) (H : Type) (enc : TypeId × Value → H) :
    ReturnsInHanded {} Try.checked os 8 .any (Rows.diskTornSpec.pre6 enc Try.prog Try.f8 Rows.diskTornRow.domain false) (Rows.diskTornSpec.post enc Try.prog Try.f8 false true false false) := by
  refine returnsInHanded_of_change_sized (C := Try.checked) own started (by kernel_rfl) Try.func8
    (ChangeSpec.witness6 (enc := enc) (C := Try.checked) false ⟨#[], #[.agg #[.slice none 0 0, .slice none 0 0, .int .i64 0, .slice none 0 0]], []⟩ 8 (by kernel_rfl) (by kernel_rfl) (by kernel_rfl) (by kernel_rfl)) ?_
  intro W base args ds gs before hval0 hW hcnd hsz0 _
  have hval : ∀ (j : Nat) t v, Try.f8.params[j]? = some t → args[j]? = some v → Value.okWide Try.prog W .any base t v := hval0
  have hW' := hW
  obtain ⟨p, q, hA0, hV, rfl, hfz, hnd⟩ := hW
  have hA : DataW.TrodAll enc Try.prog W 0 (fun _ => true) true Try.f8.params.toList args.toList ds p := hA0
  rw [Try.params8] at hA hval
  obtain ⟨v0, vs0, d0, ds0, p0, q0, hargs, rfl, rfl, h0, r0⟩ := trodAll_cons hA
  obtain ⟨rfl, rfl, rfl⟩ := trodAll_nil r0
  obtain rfl : args = #[v0] := by cases args; simp_all
  obtain ⟨rfl, rfl⟩ := trodVars_none hV
  have k0 := h0
  have lt0 : ∀ x ∈ p0, x.block < W.heap.size := by obtain ⟨m, hm⟩ := k0; exact DataW.trod_lt m _ _ _ hm
  clear hA0
  obtain ⟨csA, rfl, _⟩ := okWide_struct Try.underlying28 (hval 0 28 v0 rfl rfl)
  simp only [List.append_nil] at hsz0
  have hszW : ∀ n ∈ d0.weights Try.prog 28, n ≤ reachBytes := by
    intro n hn
    have h1 : (DataW.weightsEach Try.prog [28] [d0]).all (fun x => decide (x ≤ reachBytes)) = true := hsz0
    rw [List.all_eq_true] at h1
    have h2 := h1 n (by simp only [DataW.weightsEach, List.append_nil]; exact hn)
    simpa using h2
  obtain ⟨fuel, hfA⟩ := h0
  obtain ⟨pp, hcs, hpp⟩ := ask_open (y := (d0, p0)) hfA hszW
  have hv : Value.agg csA = pp.v := by
    have h1 : csA.toList = pp.cs := hcs
    have h2 : csA = pp.A := by rw [← Array.toList_inj, h1]; rfl
    rw [h2]; rfl
  have hwk : Calls Try.prog 8 #[.agg csA] W (BoB true W) := by rw [hv]; exact diskTorn_walk pp W hpp
  refine hwk.mono fun e W' ⟨he, bel⟩ => ?_
  subst he
  exact ⟨_, rfl, _, _, _, [], _, [], hW', trodAll_mk1 (shut_bool Try.underlying4 _), (trodAll_cons_mk (Below.trod laidOut (by kernel_rfl) (of_decide_eq_true (by kernel_rfl)) k0 bel lt0) trodAll_mk0), rfl, bel.frame _, fun h => by cases h⟩

theorem over : Rows.diskTornRow.holds Try.pinned (OpenSpec.ofChange Rows.diskTornSpec) :=
  OpenClaim.holds_of_wide 8 Try.f8 rfl rfl rfl rfl rfl rfl rfl ⟨rfl, rfl, rfl, rfl, rfl⟩ rfl rfl rfl rfl rfl (by kernel_rfl) Try.func8 (by kernel_rfl)
    (of_decide_eq_true (by kernel_rfl)) (by unfold Func.isWrapper; first | (rw [if_pos (by decide +kernel)]; kernel_rfl) | (rw [if_neg (by decide +kernel)]; exact ⟨rfl, rfl⟩))
    (fun os started H enc _ => lifted os started H enc)

end Go.Proofs.Ytlmfieeemkahfaa.diskTorn
namespace Go.Proofs.Ytlmfieeemkahfaa
theorem diskTorn_holds : Rows.DiskTornSaid := diskTorn.over
end Go.Proofs.Ytlmfieeemkahfaa
