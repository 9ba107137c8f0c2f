/- pure: an element goes: each caret behind it moves by one -/
import Derived.Test.YthnedehihbploaaGreatDoorCFace
import Derived.Test.YthnedehihbploaaGreatDoorEPure
namespace Go.Proofs.YthnedehihbploaaGreatDoor

theorem vis_prefix (D : List OpD) (e : El) : (visE D).take (plE D e) = ((ordE D).take (upE D e)).filter (vis D) := by
  have h : visE D = ((ordE D).take (upE D e)).filter (vis D) ++ ((ordE D).drop (upE D e)).filter (vis D) := by
    rw [← List.filter_append, List.take_append_drop]
    rfl
  have h2 : plE D e = (((ordE D).take (upE D e)).filter (vis D)).length := rfl
  rw [h2]
  conv => lhs; rw [h]
  rw [List.take_left']
  rfl
theorem apart_inj {L : List El} (h : L.Pairwise (fun a b => a ≠ b)) {i j : Nat} {x : El} (hi : L[i]? = some x) (hj : L[j]? = some x) : i = j := by
  obtain ⟨h1, h2⟩ := List.getElem?_eq_some_iff.1 hi
  obtain ⟨h3, h4⟩ := List.getElem?_eq_some_iff.1 hj
  rw [List.pairwise_iff_getElem] at h
  rcases Nat.lt_trichotomy i j with h5 | h5 | h5
  · exact absurd (h2.trans h4.symm) (h i j h1 h3 h5)
  · exact h5
  · exact absurd (h4.trans h2.symm) (h j i h3 h1 h5)
/-- the place of a visible element -/
theorem pl_vis {D : List OpD} (hr : okRow D) {j : Nat} {x : El} (hx : (visE D)[j]? = some x) : plE D x = j + 1 := by
  have hm : x ∈ visE D := List.mem_of_getElem? hx
  obtain ⟨ho, hv⟩ := List.mem_filter.1 hm
  obtain ⟨hu1, hu2, hu3⟩ := up_at ho
  have hlt := atI_lt ho
  have hp : (ordE D)[upE D x - 1]? = some x := by
    have h1 : (ordE D).findIdx (fun y => decide (y = x)) = upE D x - 1 := by
      have h2 : atI (ordE D) x = ((ordE D).findIdx (fun y => decide (y = x)) : Nat) := by unfold atI; rw [if_pos ho]
      omega
    have h3 := List.findIdx_lt_length_of_exists (xs := ordE D) (p := fun y => decide (y = x)) ⟨x, ho, by simp⟩
    have h4 := List.findIdx_getElem (w := h3)
    simp only [decide_eq_true_eq] at h4
    rw [← h1, List.getElem?_eq_getElem h3, h4]
  obtain ⟨u, hu⟩ : ∃ u, upE D x = u + 1 := ⟨upE D x - 1, by omega⟩
  rw [hu, Nat.add_sub_cancel] at hp
  have hul : u < (ordE D).length := (List.getElem?_eq_some_iff.1 hp).1
  have hux := (List.getElem?_eq_some_iff.1 hp).2
  have hpl : plE D x = (((ordE D).take u).filter (vis D)).length + 1 := by
    unfold plE
    rw [hu, List.take_succ_eq_append_getElem hul, List.filter_append, List.length_append, hux]
    simp [hv]
  have hpre := vis_prefix D x
  have hlast : (visE D)[(((ordE D).take u).filter (vis D)).length]? = some x := by
    have h1 : ((visE D).take (plE D x))[(((ordE D).take u).filter (vis D)).length]? = some x := by
      rw [hpre, hu, List.take_succ_eq_append_getElem hul, List.filter_append, List.getElem?_append_right (Nat.le_refl _), Nat.sub_self, hux]
      simp [hv]
    rw [List.getElem?_take] at h1
    split at h1
    · exact h1
    · cases h1
  rw [hpl, apart_inj (visE_apart hr) hlast hx]
theorem setE_vis {D : List OpD} {j : Nat} (hj : j < (visE D).length) : (visE D)[j]? = some (setE D ((j : Int) + 1)) := by
  rw [setE_at hj, List.getElem?_eq_getElem hj]
/-- the op that lets one element go -/
def delO (D : List OpD) (s : Int) (t : ByteArray) (v : El) : OpD := ⟨s, (cnt D s : Int) + 1, 1, ⟨0, 0, 0⟩, t, [v], 0, 0, 0⟩
theorem del_ord (D : List OpD) (s : Int) {t : ByteArray} (ht : nR t = 0) (v : El) : ordE (D ++ [delO D s t v]) = ordE D := by
  rw [ordE_snoc]
  unfold delO
  simp only [ht]
  simp [mine]
theorem del_count {L : List El} (h : L.Pairwise (fun a b => a ≠ b)) {k at_ : Nat} {v : El} (hk : L[k]? = some v) (ha : at_ ≤ L.length) : ((L.take at_).filter (fun e => !decide (e ∈ [v]))).length = if k < at_ then at_ - 1 else at_ := by
  have hlen : (L.take at_).length = at_ := by rw [List.length_take]; omega
  by_cases hka : k < at_
  · rw [if_pos hka]
    have hm : v ∈ L.take at_ := by
      refine List.mem_of_getElem? (i := k) ?_
      rw [List.getElem?_take, if_pos hka, hk]
    have h1 := filter_one (List.Pairwise.sublist (List.take_sublist at_ L) h) hm
    omega
  · rw [if_neg hka]
    rw [List.filter_eq_self.2, hlen]
    intro e he
    obtain ⟨i, hi⟩ := List.mem_iff_getElem?.1 he
    rw [List.getElem?_take] at hi
    split at hi
    · rename_i h2
      by_cases hev : e = v
      · subst hev
        have := apart_inj h hi hk
        omega
      · simp [hev]
    · cases hi
/-- where a caret is when one element goes -/
theorem del_place {D : List OpD} {s : Int} {t : ByteArray} {v : El} (ht : nR t = 0) (hr : okRow (D ++ [delO D s t v])) {k at_ : Nat} (hk : (visE D)[k]? = some v) (ha : at_ ≤ (visE D).length) :
    plN (D ++ [delO D s t v]) (setE D at_) = ((if k < at_ then at_ - 1 else at_ : Nat) : Int) ∧ plR (D ++ [delO D s t v]) (setE D at_) = 0 := by
  obtain ⟨h0, htk⟩ := eRow_snoc hr
  have ho := del_ord D s ht v
  have hx : at_ = 0 ∧ setE D at_ = B0 ∨ ∃ j, at_ = j + 1 ∧ (visE D)[j]? = some (setE D at_) := by
    rcases Nat.eq_zero_or_pos at_ with h1 | h1
    · exact .inl ⟨h1, by rw [h1]; exact setE_zero D⟩
    · obtain ⟨j, rfl⟩ : ∃ j, at_ = j + 1 := ⟨at_ - 1, by omega⟩
      exact .inr ⟨j, rfl, setE_vis (by omega)⟩
  have hw : wroteE (D ++ [delO D s t v]) (setE D at_) := by
    rcases hx with ⟨_, h1⟩ | ⟨j, _, h1⟩
    · exact .inl h1
    · refine .inr ?_
      rw [ho]
      exact visE_ord (List.mem_of_getElem? h1)
  have hpl : plE D (setE D at_) = at_ := by
    rcases hx with ⟨h1, h2⟩ | ⟨j, h1, h2⟩
    · rw [h2, pl_begin h0, h1]
    · rw [pl_vis h0 h2, h1]
  have hvis : plE (D ++ [delO D s t v]) (setE D at_) = (((visE D).take at_).filter (fun e => !decide (e ∈ [v]))).length := by
    have h3 := vis_prefix D (setE D at_)
    rw [hpl] at h3
    rw [h3, List.filter_filter]
    have hu : upE (D ++ [delO D s t v]) (setE D at_) = upE D (setE D at_) := by unfold upE; rw [ho]
    unfold plE
    rw [hu, ho]
    congr 1
    refine List.filter_congr (fun e _ => ?_)
    rw [vis_old h0 htk rfl e, Bool.and_comm]
    rfl
  rw [(pl_yes hw).1, (pl_yes hw).2, hvis, del_count (visE_apart h0) hk ha]
  exact ⟨rfl, rfl⟩
end Go.Proofs.YthnedehihbploaaGreatDoor
