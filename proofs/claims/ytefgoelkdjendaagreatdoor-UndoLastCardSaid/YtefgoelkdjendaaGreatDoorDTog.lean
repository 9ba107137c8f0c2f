/- Rows with toggles more. Pure. -/
import Derived.Test.YtefgoelkdjendaaGreatDoorDPure
namespace Go.Proofs.YtefgoelkdjendaaGreatDoor
open Go.RowKit Go.Lib

theorem okRow_more {l : List OpD} {o : OpD} (h : okRow l) (ht : tk l o = true) : okRow (l ++ [o]) := fun k hk => by
  by_cases hlt : k < l.length
  · rw [List.take_append_of_le_length (by omega), List.getElem_append_left hlt]
    exact h k hlt
  · have hk2 : k = l.length := by simp at hk; omega
    subst hk2
    rw [List.take_left, List.getElem_append_right (Nat.le_refl _)]
    simpa using ht
theorem row_nm {l : List OpD} (h : okRow l) : NInv l := by
  have := row_names h l.length (Nat.le_refl _)
  rwa [List.take_length] at this
theorem row_cv {l : List OpD} (h : okRow l) : CInv l := by
  have := row_ct h l.length (Nat.le_refl _)
  rwa [List.take_length] at this
def togD (s q a b g : Int) : OpD := ⟨s, q, 2, ⟨0, 0, 0⟩, ⟨#[]⟩, [], a, b, g⟩
theorem cnt_le_len (l : List OpD) (s : Int) : cnt l s ≤ l.length := List.length_filter_le _ _
theorem nR_none : nR ⟨#[]⟩ = 0 := by
  have h1 : rns ⟨#[]⟩ = [] := List.eq_nil_of_length_eq_zero (rns_zero.2 rfl)
  unfold nR
  rw [h1]
  split <;> rfl
theorem tog_tk {l : List OpD} (hr : okRow l) (hl : l.length ≤ 1000) {s a b g : Int} (hs : 1 ≤ s ∧ s ≤ 8) (hn : hasN l ⟨a, b, 0⟩ = true) (hg : 0 ≤ g ∧ g ≤ 268435456) : tk l (togD s ((cnt l s : Int) + 1) a b g) = true := by
  have hc := (row_cv hr).2 _ hn
  simp only at hc
  have h1 := cnt_le_len l s
  have h2 := cnt_le_len l a
  have ht := row_tot hr
  have hn1 : nameB s ((cnt l s : Int) + 1) = true := decide_eq_true (by omega)
  have hn2 : nameB a b = true := decide_eq_true (by omega)
  have hne : ¬ (a = s ∧ b = (cnt l s : Int) + 1) := by
    rintro ⟨h3, h4⟩
    rw [h3] at hc
    omega
  unfold tk
  simp only [Bool.and_eq_true]
  refine ⟨?_, decide_eq_true rfl, ?_, ?_, ?_, ?_⟩
  · unfold okOp togD
    simp only
    rw [hn1, if_neg (by decide), if_pos trivial]
    unfold okToggle
    simp only
    rw [hn2, decide_eq_false hne]
    simp only [El.begin, emptyB, btw, List.length_nil]
    simp [hg.1, hg.2]
  · unfold needs togD
    simp only
    rw [if_pos trivial]
    simpa using hn
  · rfl
  · rfl
  · unfold togD
    simp only
    rw [nR_none]
    exact decide_eq_true (by omega)
theorem tog_row {l : List OpD} (hr : rowP l) (h40 : l.length + 1 ≤ 40) {s a b g : Int} (hs : 1 ≤ s ∧ s ≤ 8) (hn : hasN l ⟨a, b, 0⟩ = true) (hg : 0 ≤ g ∧ g ≤ 268435456) : rowP (l ++ [togD s ((cnt l s : Int) + 1) a b g]) :=
  ⟨by rw [List.length_append]; exact h40, okRow_more hr.2 (tog_tk hr.2 (by omega) hs hn hg)⟩
theorem tog_has {l : List OpD} {s q a b g : Int} (e : El) : hasN (l ++ [togD s q a b g]) e = hasN l e := by
  rw [hasN_snoc]
  unfold togD
  simp
theorem tog_cnt (l : List OpD) (s q a b g : Int) : cnt (l ++ [togD s q a b g]) s = cnt l s + 1 := by
  rw [cnt_snoc]
  unfold togD
  simp
theorem tog_ct (l : List OpD) (s q a b g x y : Int) : ct (l ++ [togD s q a b g]) x y = if a = x ∧ b = y ∧ g = (ct l x y : Int) then ct l x y + 1 else ct l x y := by
  rw [ct_snoc]
  unfold togD
  simp
theorem tog_ord (l : List OpD) (s q a b g : Int) : ordE (l ++ [togD s q a b g]) = ordE l := by
  have hb : blk (togD s q a b g) l.length = [] := by
    refine List.eq_nil_of_length_eq_zero ?_
    rw [blk_length]
    exact nR_none
  unfold ordE
  rw [ordT_snoc, hb, lay_nil]
theorem tog_gone (L l : List OpD) (s q a b g : Int) (e : El) : goneE L (l ++ [togD s q a b g]) e = goneE L l e := by
  rw [goneE_snoc]
  unfold togD
  simp
theorem gone_ev {L L' : List OpD} (h : ∀ x y, evn L x y = evn L' x y) (m : List OpD) (e : El) : goneE L m e = goneE L' m e := by
  unfold goneE
  congr 1
  funext o
  rw [h]
theorem tog_rn {l : List OpD} (hr : okRow l) {s a b g : Int} {e : El} (he : e ∈ ordE l) : rnE (l ++ [togD s ((cnt l s : Int) + 1) a b g]) e = rnE l e := by
  obtain ⟨h1, _⟩ := ord_edit hr he
  have hn := row_nm hr
  unfold rnE
  rw [rnP_snoc hn (o := togD s ((cnt l s : Int) + 1) a b g) rfl, if_neg]
  rintro ⟨h3, h4⟩
  rcases hn e.s e.q with ⟨h5, _⟩ | ⟨p, _, _, h6, _⟩
  · omega
  · unfold togD at h3 h4
    simp only at h3 h4
    rw [h3] at h6
    omega
/-- where the edits that are effective are the same, so is the text -/
theorem tog_vis1 {l : List OpD} {s q a b g : Int} (h : ∀ x y, evn (l ++ [togD s q a b g]) x y = evn l x y) : visE (l ++ [togD s q a b g]) = visE l := by
  unfold visE
  rw [tog_ord]
  apply List.filter_congr
  intro e _
  unfold vis
  rw [h, tog_gone, gone_ev h]
theorem tog_text1 {l : List OpD} (hr : okRow l) {s a b g : Int} (h : ∀ x y, evn (l ++ [togD s ((cnt l s : Int) + 1) a b g]) x y = evn l x y) : docT (l ++ [togD s ((cnt l s : Int) + 1) a b g]) = docT l := by
  unfold docT visR
  rw [tog_vis1 h]
  congr 1
  apply List.map_congr_left
  intro e he
  exact tog_rn hr (visE_ord he)
theorem tog_text2 {l : List OpD} (hr : okRow l) (hl : l.length ≤ 900) {s a b g g' : Int} (hs : 1 ≤ s ∧ s ≤ 8) (hn : hasN l ⟨a, b, 0⟩ = true) (hg : 0 ≤ g ∧ g ≤ 268435456)
    (h : ∀ x y, evn (l ++ [togD s ((cnt l s : Int) + 1) a b g] ++ [togD s ((cnt l s : Int) + 1 + 1) a b g']) x y = evn l x y) : docT (l ++ [togD s ((cnt l s : Int) + 1) a b g] ++ [togD s ((cnt l s : Int) + 1 + 1) a b g']) = docT l := by
  have hr1 := okRow_more hr (tog_tk hr (by omega) hs hn hg)
  have hc := tog_cnt l s ((cnt l s : Int) + 1) a b g
  have hv : visE (l ++ [togD s ((cnt l s : Int) + 1) a b g] ++ [togD s ((cnt l s : Int) + 1 + 1) a b g']) = visE l := by
    unfold visE
    rw [tog_ord, tog_ord]
    apply List.filter_congr
    intro e _
    unfold vis
    rw [h, tog_gone, tog_gone, gone_ev h]
  unfold docT visR
  rw [hv]
  congr 1
  apply List.map_congr_left
  intro e he
  have ho := visE_ord he
  have h2 : ((cnt (l ++ [togD s ((cnt l s : Int) + 1) a b g]) s : Nat) : Int) + 1 = (cnt l s : Int) + 1 + 1 := by omega
  rw [← h2, tog_rn hr1 (by rw [tog_ord]; exact ho), tog_rn hr ho]
/-- a toggle that does not count -/
theorem late_ev {l : List OpD} {s q a b g : Int} (hg : g ≠ (ct l a b : Int)) (x y : Int) : evn (l ++ [togD s q a b g]) x y = evn l x y := by
  unfold evn
  rw [tog_ct, if_neg]
  rintro ⟨h1, h2, h3⟩
  rw [← h1, ← h2] at h3
  exact hg h3
/-- one that counts -/
theorem once_ct (l : List OpD) (s q a b : Int) : ct (l ++ [togD s q a b (ct l a b)]) a b = ct l a b + 1 := by
  rw [tog_ct, if_pos ⟨rfl, rfl, rfl⟩]
theorem once_ev (l : List OpD) (s q a b : Int) : evn (l ++ [togD s q a b (ct l a b)]) a b = !evn l a b := by
  unfold evn
  rw [once_ct, ← decide_not, decide_eq_decide]
  omega
theorem twice_ev (l : List OpD) (s q q' a b x y : Int) : evn (l ++ [togD s q a b (ct l a b)] ++ [togD s q' a b ((ct l a b : Int) + 1)]) x y = evn l x y := by
  unfold evn
  rw [tog_ct]
  by_cases hxy : a = x ∧ b = y
  · obtain ⟨rfl, rfl⟩ := hxy
    rw [once_ct, if_pos ⟨rfl, rfl, by omega⟩, decide_eq_decide]
    omega
  · rw [if_neg (fun h => hxy ⟨h.1, h.2.1⟩), tog_ct, if_neg (fun h => hxy ⟨h.1, h.2.1⟩)]
end Go.Proofs.YtefgoelkdjendaaGreatDoor
