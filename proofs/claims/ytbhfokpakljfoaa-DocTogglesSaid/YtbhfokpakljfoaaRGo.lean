/- lectionaryref4.Find, Many, Edit, Fits -/
import Derived.Test.YtbhfokpakljfoaaTPages
import Derived.Test.YtbhfokpakljfoaaORop
import Derived.Lib.QuietBelow
import Derived.Deep.QuietTactic
import Derived.BigQuiet
import Derived.IntWalk
namespace Go.Proofs.Ytbhfokpakljfoaa
open Go.RowKit Go.Lib Go.Sort

theorem os_len (l : List OpR) : (OpR.os l).length = l.length := by simp [OpR.os]
theorem os_get {l : List OpR} {k : Nat} (h : k < l.length) : (OpR.os l)[k]? = some l[k].o := by simp [OpR.os, h]
theorem fk_at {l : List OpR} {k : Nat} {s q : Int} (h : k < l.length) (hs : l[k].o.site = s) (hq : l[k].o.seq = q) (hall : ∀ j (hj : j < l.length), j < k → ¬ (l[j].o.site = s ∧ l[j].o.seq = q)) : findI (OpR.os l) s q = (k : Nat) := by
  have h1 : fk (OpR.os l) s q = k := by
    unfold fk
    rw [List.findIdx_eq (by rw [os_len]; exact h)]
    refine ⟨by simp [OpR.os, hs, hq], fun j hj => ?_⟩
    have := hall j (by omega) hj
    simp only [OpR.os, List.getElem_map]
    simpa using this
  unfold findI
  rw [h1, os_len, if_pos h]
theorem fk_no {l : List OpR} {s q : Int} (hall : ∀ j (hj : j < l.length), ¬ (l[j].o.site = s ∧ l[j].o.seq = q)) : findI (OpR.os l) s q = -1 := by
  unfold findI
  rw [if_neg]
  intro h
  have h2 := fk_is h
  have h3 := hall (fk (OpR.os l) s q) (by rw [os_len] at h; exact h)
  refine h3 ?_
  simpa [OpR.os] using h2
theorem cnt_take (l : List OpR) (s : Int) {k : Nat} (hk : k < l.length) : cnt ((OpR.os l).take (k + 1)) s = cnt ((OpR.os l).take k) s + if l[k].o.site = s then 1 else 0 := by
  rw [List.take_succ_eq_append_getElem (by rw [os_len]; exact hk), cnt_snoc]
  simp [OpR.os]
/-- Find's answer, as three cases -/
theorem find_cases (l : List OpR) (s q : Int) : (findI (OpR.os l) s q < 0 ∧ ∀ j, (OpR.os l)[fk (OpR.os l) s q]? ≠ some j) ∨ ∃ k : Nat, ∃ h : k < l.length, findI (OpR.os l) s q = k ∧ (OpR.os l)[fk (OpR.os l) s q]? = some l[k].o := by
  unfold findI
  by_cases h : fk (OpR.os l) s q < (OpR.os l).length
  · rw [if_pos h]
    rw [os_len] at h
    exact .inr ⟨fk (OpR.os l) s q, h, rfl, os_get h⟩
  · rw [if_neg h]
    refine .inl ⟨by omega, fun j => ?_⟩
    rw [List.getElem?_eq_none (by omega)]
    simp
end Go.Proofs.Ytbhfokpakljfoaa
/- lectionaryref4.written -/
namespace Go.Proofs.Ytbhfokpakljfoaa
open Go.RowKit Go.Lib Go.Sort

def Szs (l : List OpR) : Prop := ∀ r ∈ l, r.o.text.size ≤ 60000
theorem wrt_begin {l : List OpD} {e : El} (h : e.begin = true) : wrt l e = true := by unfold wrt; rw [h]; rfl
theorem wrt_none {l : List OpD} {e : El} (h : e.begin = false) (hno : ∀ j, l[fk l e.s e.q]? ≠ some j) : wrt l e = false := by
  unfold wrt
  rw [h]
  cases hx : l[fk l e.s e.q]? with
  | none => rfl
  | some p => exact absurd hx (hno p)
theorem wrt_some {l : List OpD} {e : El} {p : OpD} (h : e.begin = false) (hp : l[fk l e.s e.q]? = some p) : wrt l e = (decide (0 ≤ e.i) && decide (e.i < (nR p.text : Int))) := by
  unfold wrt
  rw [h, hp]
  rfl
end Go.Proofs.Ytbhfokpakljfoaa
/- lectionaryref4.Fits, Goes, Row -/
namespace Go.Proofs.Ytbhfokpakljfoaa
open Go.RowKit Go.Lib Go.Sort

theorem tot_take1 (l : List OpR) {k : Nat} (hk : k < l.length) : tot ((OpR.os l).take (k + 1)) = tot ((OpR.os l).take k) + nR l[k].o.text := by
  rw [List.take_succ_eq_append_getElem (by rw [os_len]; exact hk), tot_snoc]
  simp [OpR.os]
theorem tot_small (l : List OpR) (hs : Szs l) (k : Nat) : tot ((OpR.os l).take k) ≤ k * 60000 := by
  induction k with
  | zero => rw [List.take_zero]; exact Nat.zero_le _
  | succ k ih =>
    by_cases hk : k < l.length
    · have h1 := hs _ (List.getElem_mem hk)
      have h2 := nR_le l[k].o.text
      rw [tot_take1 l hk, Nat.add_mul, Nat.one_mul]
      exact Nat.add_le_add ih (Nat.le_trans h2 h1)
    · rw [List.take_of_length_le (by rw [os_len]; omega)]
      rw [List.take_of_length_le (by rw [os_len]; omega)] at ih
      exact Nat.le_trans ih (Nat.mul_le_mul_right _ (Nat.le_succ k))
end Go.Proofs.Ytbhfokpakljfoaa
/- lectionaryref4.Row -/
namespace Go.Proofs.Ytbhfokpakljfoaa
open Go.RowKit Go.Lib Go.Sort

theorem rowB_of {l : List OpR} (h40 : l.length ≤ 40) (hall : ∀ j (hj : j < l.length), goes ((OpR.os l).take j) l[j].o = true) : rowB (OpR.os l) = decide (tot (OpR.os l) ≤ 200) := by
  have hG : rowG (OpR.os l) ↔ tot (OpR.os l) ≤ 200 := by
    constructor
    · exact fun h => h.2.2
    · intro h
      refine ⟨by rw [os_len]; exact h40, fun k hk => ?_, h⟩
      rw [os_len] at hk
      have := hall k hk
      simpa [OpR.os] using this
  cases hd : decide (tot (OpR.os l) ≤ 200) with
  | true => exact (rowB_iff _).2 ((row_iff _).2 (hG.2 (of_decide_eq_true hd)))
  | false => exact rowB_no (fun h => absurd (hG.1 ((row_iff _).1 h)) (of_decide_eq_false hd))
theorem rowB_bad {l : List OpR} {k : Nat} (hk : k < l.length) (h : goes ((OpR.os l).take k) l[k].o = false) : rowB (OpR.os l) = false := by
  refine rowB_no (fun hr => ?_)
  have h2 := ((row_iff _).1 hr).2.1 k (by rw [os_len]; exact hk)
  have h3 : (OpR.os l)[k]'(by rw [os_len]; exact hk) = l[k].o := by simp [OpR.os]
  rw [h3, h] at h2
  cases h2
end Go.Proofs.Ytbhfokpakljfoaa
