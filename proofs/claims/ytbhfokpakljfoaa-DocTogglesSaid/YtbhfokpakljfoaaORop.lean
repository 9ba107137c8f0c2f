/- the page's own word on which ops may be: all of it -/
import Derived.Test.YtbhfokpakljfoaaOOk
import Derived.Test.YtbhfokpakljfoaaPOp
namespace Go.Proofs.Ytbhfokpakljfoaa
open Go.RowKit Go.Lib

theorem ok_toggle {o : OpD} (hk : o.kind = 2) : okTog o = okOp o := by
  unfold okTog okOp okToggle
  rw [if_neg (by omega), if_pos hk]
  have e1 : decide (o.text = ⟨#[]⟩) = emptyB o.text := rfl
  have e2 : decide (¬ (o.of = o.site ∧ o.num = o.seq)) = !decide (o.of = o.site ∧ o.num = o.seq) := by simp
  rw [e1, e2]
  generalize nameB o.site o.seq = b1
  generalize nameB o.of o.num = b2
  generalize decide (o.of = o.site ∧ o.num = o.seq) = b3
  generalize btw o.gen 0 268435456 = b4
  generalize o.after.begin = b5
  generalize emptyB o.text = b6
  generalize decide (o.gone.length = 0) = b7
  cases b1 <;> cases b2 <;> cases b3 <;> cases b4 <;> cases b5 <;> cases b6 <;> cases b7 <;> rfl
theorem ok_head {o : OpD} (hk : o.kind = 1) (h : okHead o = false) : okOp o = false := by
  cases ho : okOp o
  · rfl
  · exfalso
    unfold okOp at ho
    rw [if_pos hk] at ho
    unfold okEdit OpD.head OpD.none okGone emptyB at ho
    simp only [Bool.and_eq_true, Bool.not_eq_true'] at ho
    obtain ⟨h1, ⟨h2, h3, h4⟩, h5, _, _, h6, _⟩ := ho
    unfold okHead at h
    rw [h1, h2, h3, h4, h6, h5] at h
    cases h
theorem ok_edit {o : OpD} (hk : o.kind = 1) (h : okHead o = true) : okOp o = (okTx o.text && (okAfter o && gOk o.site o.seq none o.gone)) ∧ nameB o.site o.seq = true ∧ o.of = 0 ∧ o.num = 0 ∧ o.gen = 0 ∧ o.gone.length ≤ 200 ∧ (emptyB o.text && decide (o.gone.length = 0)) = false := by
  unfold okHead at h
  simp only [Bool.and_eq_true, Bool.not_eq_true', decide_eq_true_eq] at h
  obtain ⟨h1, h2, h3, h4, h6, h5⟩ := h
  refine ⟨?_, h1, h2, h3, h4, h6, h5⟩
  unfold okOp okEdit okGone OpD.head OpD.none emptyB
  rw [if_pos hk, h1, h5, h2, h3, h4, show decide (o.gone.length ≤ 200) = true from decide_eq_true h6]
  simp
theorem begin_ok {e : El} (h : e.ok = false) : e.begin = false := by
  cases hb : e.begin
  · rfl
  · unfold El.ok at h; rw [hb] at h; cases h
theorem begin_own {e : El} {s q : Int} (hb : e.begin = true) (hn : nameB s q = true) : e.own s q = false := by
  have h1 : e.s = 0 ∧ e.q = 0 ∧ e.i = 0 := of_decide_eq_true hb
  have h2 := nameB_of hn
  exact decide_eq_false (fun h => by omega)
theorem okTx_of {s : ByteArray} (h : okT s = true) : okTx s = decide ((rns s).length ≤ 12) := by unfold okTx; rw [h]; rfl
theorem okAfter_not {o : OpD} (h : o.after.ok = false) : okAfter o = false := by
  unfold okAfter
  split
  · exact begin_ok h
  · rw [h]; rfl
theorem okAfter_empty {o : OpD} (h : o.text = ⟨#[]⟩) : okAfter o = o.after.begin := by unfold okAfter; rw [if_pos h]
theorem okAfter_some {o : OpD} (h : ¬ o.text = ⟨#[]⟩) : okAfter o = (o.after.ok && !o.after.own o.site o.seq) := by unfold okAfter; rw [if_neg h]

end Go.Proofs.Ytbhfokpakljfoaa
