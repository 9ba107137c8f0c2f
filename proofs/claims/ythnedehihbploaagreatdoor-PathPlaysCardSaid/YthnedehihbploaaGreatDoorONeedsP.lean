/- what an op needs: the plain mathematics -/
import Derived.Test.YthnedehihbploaaGreatDoorPNeeds
namespace Go.Proofs.YthnedehihbploaaGreatDoor
open Go.RowKit Go.Lib Go.Sort

def Rise (l : List El) : Prop := l.Pairwise fun a b => a.lt b = true
theorem lt_trans {a b c : El} (h1 : a.lt b = true) (h2 : b.lt c = true) : a.lt c = true := by rw [lt_iff] at *; omega
theorem lt_asym {a b : El} (h1 : a.lt b = true) : b.lt a = false := by rw [lt_iff] at h1; rw [lt_no]; omega
theorem lt_ne {a b : El} (h : a.lt b = true) : a ≠ b := fun e => by subst e; rw [lt_irrefl] at h; cases h
theorem rise_ext : ∀ {l1 l2 : List El}, Rise l1 → Rise l2 → (∀ x, x ∈ l1 ↔ x ∈ l2) → l1 = l2
  | [], [], _, _, _ => rfl
  | [], b :: r, _, _, h => by have := (h b).2 (by simp); cases this
  | a :: r, [], _, _, h => by have := (h a).1 (by simp); cases this
  | a :: r1, b :: r2, h1, h2, h => by
    have g1 := List.pairwise_cons.1 h1
    have g2 := List.pairwise_cons.1 h2
    have hab : a = b := by
      rcases List.mem_cons.1 ((h a).1 (by simp)) with e | e
      · exact e
      · rcases List.mem_cons.1 ((h b).2 (by simp)) with f | f
        · exact f.symm
        · have := lt_asym (g2.1 a e)
          rw [g1.1 b f] at this; cases this
    subst hab
    rw [rise_ext g1.2 g2.2 (fun x => ?_)]
    constructor
    · intro hx
      rcases List.mem_cons.1 ((h x).1 (List.mem_cons_of_mem _ hx)) with e | e
      · exact absurd e.symm (lt_ne (g1.1 x hx))
      · exact e
    · intro hx
      rcases List.mem_cons.1 ((h x).2 (List.mem_cons_of_mem _ hx)) with e | e
      · exact absurd e.symm (lt_ne (g2.1 x hx))
      · exact e

theorem isort_mem (l : List El) (x : El) : x ∈ isort l ↔ x ∈ l := by unfold isort; exact (List.mergeSort_perm _ _).mem_iff
theorem isort_sorted (l : List El) : (isort l).Pairwise fun a b => b.lt a = false := by
  have h := List.pairwise_mergeSort (le := fun x y : El => !(ltOf cmpE) y x) (fun a b c h1 h2 => ?_) (fun a b => ?_) l
  · exact h.imp (fun {a b} hh => by rw [ltOf_cmpE] at hh; simpa using hh)
  · rw [ltOf_cmpE] at *
    simp only [Bool.not_eq_true'] at *
    rw [lt_no] at *; omega
  · rw [ltOf_cmpE]
    by_cases h1 : a.lt b = true
    · rw [h1, lt_asym h1]; rfl
    · have h2 : a.lt b = false := by simpa using h1
      rw [h2]; simp

theorem cut_mem (d : Array El) (m : Nat) (x : El) : x ∈ compactUpTo d m ↔ ∃ j, j < m ∧ d[j]! = x := by
  constructor
  · intro h
    unfold compactUpTo at h
    obtain ⟨j, hj, he⟩ := List.mem_map.1 h
    exact ⟨j, List.mem_range.1 (List.mem_filter.1 hj).1, he⟩
  · rintro ⟨j, hj, rfl⟩
    induction m with
    | zero => omega
    | succ m ih =>
      rw [compactUpTo_succ, List.mem_append]
      by_cases hjm : j < m
      · exact .inl (ih hjm)
      · obtain rfl : j = m := by omega
        cases hk : keeps d j
        · left
          have h0 : ¬ (j = 0 ∨ d[j]! ≠ d[j - 1]!) := of_decide_eq_false hk
          have h1 : d[j]! = d[j - 1]! := by
            by_cases e : d[j]! = d[j - 1]!
            · exact e
            · exact absurd (.inr e) h0
          have h2 : ¬ j = 0 := fun e => h0 (.inl e)
          rw [h1]
          clear ih hk h0 h1 hj hjm
          -- the one ahead of it is told by the same argument
          have key : ∀ n, 0 < n → d[n - 1]! ∈ compactUpTo d n := by
            intro n hn
            induction n with
            | zero => omega
            | succ n ihn =>
              rw [compactUpTo_succ, List.mem_append, Nat.add_sub_cancel]
              cases hk : keeps d n
              · left
                have h0 : ¬ (n = 0 ∨ d[n]! ≠ d[n - 1]!) := of_decide_eq_false hk
                have h1 : d[n]! = d[n - 1]! := by
                  by_cases e : d[n]! = d[n - 1]!
                  · exact e
                  · exact absurd (.inr e) h0
                rw [h1]
                exact ihn (by have : ¬ n = 0 := fun e => h0 (.inl e); omega)
              · right; simp
          exact key j (by omega)
        · right; simp
theorem ddl_mem (l : List El) (x : El) : x ∈ ddl l ↔ x ∈ l := by
  unfold ddl
  rw [cut_mem]
  constructor
  · rintro ⟨j, hj, rfl⟩
    rw [getElem!_pos l.toArray j (by simpa using hj)]
    simp
  · intro h
    obtain ⟨j, hj, rfl⟩ := List.getElem_of_mem h
    exact ⟨j, hj, by rw [getElem!_pos l.toArray j (by simpa using hj)]; simp⟩
theorem cut_rise (d : Array El) (hs : ∀ i j, i < j → j < d.size → d[j]!.lt d[i]! = false) : ∀ m, m ≤ d.size → Rise (compactUpTo d m)
  | 0, _ => by unfold compactUpTo; simp [Rise]
  | m + 1, hm => by
    rw [compactUpTo_succ]
    cases hk : keeps d m
    · simpa using cut_rise d hs m (by omega)
    · simp only [if_true]
      unfold Rise
      rw [List.pairwise_append]
      refine ⟨cut_rise d hs m (by omega), by simp, fun x hx y hy => ?_⟩
      simp at hy
      subst hy
      obtain ⟨j, hj, rfl⟩ := (cut_mem d m x).1 hx
      have h0 : m = 0 ∨ d[m]! ≠ d[m - 1]! := of_decide_eq_true hk
      have h1 : d[m]! ≠ d[m - 1]! := by
        rcases h0 with e | e
        · omega
        · exact e
      have h2 := hs (m - 1) m (by omega) (by omega)
      have h3 : d[m - 1]!.lt d[m]! = true := by
        by_cases e : d[m - 1]!.lt d[m]! = true
        · exact e
        · have e2 : d[m - 1]!.lt d[m]! = false := by simpa using e
          exact absurd (lt_total _ _ (by rw [ltOf_cmpE]; exact h2) (by rw [ltOf_cmpE]; exact e2)) h1
      by_cases hjm : j = m - 1
      · rw [hjm]; exact h3
      · have h4 := hs j (m - 1) (by omega) (by omega)
        rw [lt_no] at h4
        rw [lt_iff] at *; omega
theorem ddl_rise (l : List El) (h : l.Pairwise fun a b => b.lt a = false) : Rise (ddl l) := by
  unfold ddl
  have hl : l.length = l.toArray.size := by simp
  rw [hl]
  refine cut_rise _ (fun i j hij hj => ?_) _ (Nat.le_refl _)
  rw [getElem!_pos l.toArray i (by omega), getElem!_pos l.toArray j hj]
  simp only [List.getElem_toArray]
  exact List.pairwise_iff_getElem.1 h i j (by simp at hj; omega) (by simpa using hj) hij
theorem needs_rise (o : OpD) : Rise (needs o) := by
  unfold needs
  split
  · simp [Rise]
  · exact ddl_rise _ (isort_sorted _)
theorem gOk_mem {s q : Int} : ∀ {p : Option El} {l : List El}, gOk s q p l = true → ∀ x ∈ l, x.own s q = false
  | _, [], _, x, hx => by cases hx
  | p, e :: r, h, x, hx => by
    unfold gOk at h
    simp only [Bool.and_eq_true, Bool.not_eq_true'] at h
    rcases List.mem_cons.1 hx with rfl | hx
    · exact h.2.2.1
    · exact gOk_mem h.2.2.2.2 x hx
theorem w_own (s q : Int) (e : El) : e.w.own s q = e.own s q := rfl
theorem needs_own {o : OpD} (h : okOp o = true) : ∀ x ∈ needs o, x.own o.site o.seq = false := by
  intro x hx
  unfold needs at hx
  split at hx
  · rename_i hk
    unfold okOp at h
    simp only [Bool.and_eq_true] at h
    obtain ⟨_, h⟩ := h
    rw [if_neg (by omega), if_pos hk] at h
    unfold okToggle at h
    simp only [Bool.and_eq_true, Bool.not_eq_true', decide_eq_false_iff_not] at h
    simp only [List.mem_singleton] at hx
    subst hx
    exact decide_eq_false h.2.2.2.1
  · rename_i hk
    obtain ⟨_, he⟩ := okOp_edit h hk
    obtain ⟨_, hg, ha⟩ := okEdit_gone he
    rw [ddl_mem, isort_mem] at hx
    unfold needL at hx
    rw [List.mem_append] at hx
    rcases hx with hx | hx
    · cases hb : o.after.begin
      · rw [hb] at hx
        simp at hx
        subst hx
        rw [w_own]
        unfold okAfter at ha
        split at ha
        · rw [hb] at ha; cases ha
        · simp only [Bool.and_eq_true, Bool.not_eq_true'] at ha
          exact ha.2
      · rw [hb] at hx; simp at hx
    · obtain ⟨e, he, rfl⟩ := List.mem_map.1 hx
      rw [w_own]
      exact gOk_mem hg e he
theorem rise_get {l : List El} (h : Rise l) (k : Nat) (h1 : k + 1 < l.length) : (l[k]).lt l[k + 1] = true := List.pairwise_iff_getElem.1 h k (k + 1) (by omega) h1 (by omega)
theorem needs_len (o : OpD) : (needs o).length ≤ o.gone.length + 1 := by
  unfold needs
  split
  · simp
  · have h1 : (ddl (isort (needL o))).length ≤ (isort (needL o)).length := by
      unfold ddl compactUpTo
      rw [List.length_map]
      exact Nat.le_trans (List.length_filter_le _ _) (by simp)
    rw [isort_length] at h1
    have h2 : (needL o).length ≤ o.gone.length + 1 := by
      unfold needL
      split <;> simp
    omega
end Go.Proofs.YthnedehihbploaaGreatDoor
