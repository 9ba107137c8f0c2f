/- a binary heap as a list: what goes up, what goes down -/
import Derived.Test.YtbalcamjccfkdaaFBase
namespace Go.Proofs.Ytbalcamjccfkdaa
open Go.RowKit Go.Lib

theorem swp_perm (l : List Nd) (i k : Nat) (hi : i < l.length) (hk : k < l.length) : (swp l i k).Perm l := by
  unfold swp
  rw [getElem!_pos l i hi, getElem!_pos l k hk]
  exact List.set_set_perm hi hk
theorem set_get (l : List Nd) (i j : Nat) (x : Nd) (hi : i < l.length) : (l.set i x)[j]! = if i = j then x else l[j]! := by
  by_cases h : i = j
  · subst h
    rw [if_pos rfl, getElem!_pos (l.set i x) i (by rw [List.length_set]; exact hi)]
    simp
  · rw [if_neg h]
    by_cases hj : j < l.length
    · rw [getElem!_pos (l.set i x) j (by rw [List.length_set]; exact hj), getElem!_pos l j hj]
      simp [h]
    · rw [getElem!_neg (l.set i x) j (by rw [List.length_set]; exact hj), getElem!_neg l j hj]
theorem swp_get (l : List Nd) (i k j : Nat) (hi : i < l.length) (hk : k < l.length) : (swp l i k)[j]! = if k = j then l[i]! else if i = j then l[k]! else l[j]! := by
  unfold swp
  rw [set_get _ k j _ (by rw [List.length_set]; exact hk)]
  by_cases h : k = j
  · rw [if_pos h, if_pos h]
  · rw [if_neg h, if_neg h, set_get _ i j _ hi]

def HeapN (l : List Nd) (n : Nat) : Prop := ∀ i, 0 < i → i < n → l[i]!.op ≤ l[(i - 1) / 2]!.op
/-- a heap but for what stands at j, which may be too great -/
def HUp (l : List Nd) (j : Nat) : Prop := (∀ i, 0 < i → i < l.length → i ≠ j → l[i]!.op ≤ l[(i - 1) / 2]!.op) ∧ ∀ c, 0 < c → c < l.length → (c - 1) / 2 = j → 0 < j → l[c]!.op ≤ l[(j - 1) / 2]!.op
/-- a heap of n but for what stands at i, which may be too small -/
def HDn (l : List Nd) (n i : Nat) : Prop := (∀ k, 0 < k → k < n → (k - 1) / 2 ≠ i → l[k]!.op ≤ l[(k - 1) / 2]!.op) ∧ ∀ c, 0 < c → c < n → (c - 1) / 2 = i → 0 < i → l[c]!.op ≤ l[(i - 1) / 2]!.op

theorem HUp.done0 {l : List Nd} (h : HUp l 0) : HeapN l l.length := fun i h0 hi => h.1 i h0 hi (by omega)
theorem HUp.done {l : List Nd} {j : Nat} (h : HUp l j) (hj : l[j]!.op ≤ l[(j - 1) / 2]!.op) : HeapN l l.length := fun i h0 hi => by
  by_cases e : i = j
  · subst e; exact hj
  · exact h.1 i h0 hi e
theorem HUp.step {l : List Nd} {i j : Nat} (h : HUp l j) (hj : j < l.length) (h0 : 0 < j) (hi : i = (j - 1) / 2) (hgt : l[i]!.op < l[j]!.op) : HUp (swp l i j) i := by
  have hil : i < l.length := by omega
  have hij : i < j := by omega
  refine ⟨fun k hk0 hk hki => ?_, fun c hc0 hc hci hi0 => ?_⟩
  · rw [swp_length] at hk
    rw [swp_get l i j k hil hj, swp_get l i j _ hil hj]
    by_cases e : k = j
    · subst e
      rw [if_pos rfl, if_neg (by omega), if_pos hi]
      omega
    · rw [if_neg (Ne.symm e), if_neg (Ne.symm hki)]
      by_cases e1 : j = (k - 1) / 2
      · rw [if_pos e1]
        have := h.2 k hk0 hk e1.symm h0
        rw [← hi] at this
        exact this
      · rw [if_neg e1]
        have h1 := h.1 k hk0 hk e
        by_cases e2 : i = (k - 1) / 2
        · rw [if_pos e2]
          rw [← e2] at h1
          omega
        · rw [if_neg e2]
          exact h1
  · rw [swp_length] at hc
    rw [swp_get l i j c hil hj, swp_get l i j _ hil hj, if_neg (by omega : ¬ j = (i - 1) / 2), if_neg (by omega : ¬ i = (i - 1) / 2)]
    have hii := h.1 i hi0 hil (by omega)
    by_cases e : c = j
    · subst e
      rw [if_pos rfl]
      exact hii
    · rw [if_neg (Ne.symm e), if_neg (by omega)]
      have h1 := h.1 c hc0 hc e
      rw [hci] at h1
      omega
theorem HUp.start {l : List Nd} (h : HeapN l l.length) (n : Nd) : HUp (l ++ [n]) l.length := by
  have hget : ∀ i, i < l.length → (l ++ [n])[i]! = l[i]! := fun i hi => by
    rw [getElem!_pos (l ++ [n]) i (by rw [List.length_append]; omega), getElem!_pos l i hi, List.getElem_append_left hi]
  refine ⟨fun i h0 hi hne => ?_, fun c h0 hc hcj hj => ?_⟩
  · rw [List.length_append, List.length_singleton] at hi
    rw [hget i (by omega), hget _ (by omega)]
    exact h i h0 (by omega)
  · rw [List.length_append, List.length_singleton] at hc
    omega

theorem HDn.leaf {l : List Nd} {n i : Nat} (h : HDn l n i) (hi : n ≤ 2 * i + 1) : HeapN l n := fun k h0 hk => h.1 k h0 hk (by omega)
theorem HDn.done {l : List Nd} {n i j : Nat} (h : HDn l n i) (hji : l[j]!.op ≤ l[i]!.op) (hmax : ∀ c, 0 < c → c < n → (c - 1) / 2 = i → l[c]!.op ≤ l[j]!.op) : HeapN l n := fun k h0 hk => by
  by_cases e : (k - 1) / 2 = i
  · have := hmax k h0 hk e
    rw [e]
    omega
  · exact h.1 k h0 hk e
theorem HDn.step {l : List Nd} {n i j : Nat} (h : HDn l n i) (hn : n ≤ l.length) (hj : j < n) (hj0 : 0 < j) (hij : (j - 1) / 2 = i) (hgt : l[i]!.op < l[j]!.op) (hmax : ∀ c, 0 < c → c < n → (c - 1) / 2 = i → l[c]!.op ≤ l[j]!.op) : HDn (swp l i j) n j := by
  have hil : i < l.length := by omega
  have hjl : j < l.length := by omega
  refine ⟨fun k hk0 hk hkj => ?_, fun c hc0 hc hcj hj1 => ?_⟩
  · rw [swp_get l i j k hil hjl, swp_get l i j _ hil hjl]
    by_cases e : k = j
    · subst e
      rw [if_pos rfl, if_neg (by omega), if_pos hij.symm]
      omega
    · rw [if_neg (Ne.symm e), if_neg (Ne.symm hkj)]
      by_cases e1 : i = k
      · subst e1
        rw [if_pos rfl, if_neg (by omega)]
        have := h.2 j hj0 hj hij hk0
        exact this
      · rw [if_neg e1]
        by_cases e2 : i = (k - 1) / 2
        · rw [if_pos e2]
          exact hmax k hk0 hk e2.symm
        · rw [if_neg e2]
          exact h.1 k hk0 hk (Ne.symm e2)
  · rw [swp_get l i j c hil hjl, swp_get l i j _ hil hjl, if_neg (by omega : ¬ j = c), if_neg (by omega : ¬ i = c), if_neg (by omega : ¬ j = (j - 1) / 2), if_pos hij.symm]
    have := h.1 c hc0 hc (by omega)
    rw [hcj] at this
    exact this
/-- the children of i: the greater is j -/
theorem max_one {l : List Nd} {n i : Nat} (hn : n ≤ 2 * i + 2) : ∀ c, 0 < c → c < n → (c - 1) / 2 = i → l[c]!.op ≤ l[2 * i + 1]!.op := fun c h0 hc hi => by
  have : c = 2 * i + 1 := by omega
  rw [this]; exact Int.le_refl _
theorem max_left {l : List Nd} {n i : Nat} (h : l[2 * i + 2]!.op ≤ l[2 * i + 1]!.op) : ∀ c, 0 < c → c < n → (c - 1) / 2 = i → l[c]!.op ≤ l[2 * i + 1]!.op := fun c h0 hc hi => by
  have : c = 2 * i + 1 ∨ c = 2 * i + 2 := by omega
  rcases this with e | e
  · rw [e]; exact Int.le_refl _
  · rw [e]; exact h
theorem max_right {l : List Nd} {n i : Nat} (h : l[2 * i + 1]!.op < l[2 * i + 2]!.op) : ∀ c, 0 < c → c < n → (c - 1) / 2 = i → l[c]!.op ≤ l[2 * i + 2]!.op := fun c h0 hc hi => by
  have : c = 2 * i + 1 ∨ c = 2 * i + 2 := by omega
  rcases this with e | e
  · rw [e]; omega
  · rw [e]; exact Int.le_refl _
theorem HeapN.top {l : List Nd} {n : Nat} (h : HeapN l n) : ∀ i, i < n → l[i]!.op ≤ l[0]!.op := by
  intro i
  induction i using Nat.strongRecOn with
  | _ i ih =>
    intro hi
    by_cases e : i = 0
    · rw [e]; exact Int.le_refl _
    · have h1 := h i (by omega) hi
      have h2 := ih ((i - 1) / 2) (by omega) (by omega)
      omega
theorem HDn.start {l : List Nd} {n : Nat} (h : HeapN l l.length) (hl : l.length = n + 1) : HDn (swp l 0 n) n 0 := by
  refine ⟨fun k h0 hk hne => ?_, fun c _ _ _ h => absurd h (by omega)⟩
  rw [swp_get l 0 n k (by omega) (by omega), swp_get l 0 n _ (by omega) (by omega), if_neg (by omega), if_neg (by omega), if_neg (by omega), if_neg (by omega)]
  exact h k h0 (by omega)
theorem HeapN.take {l : List Nd} {n : Nat} (h : HeapN l n) (hn : n ≤ l.length) : HeapN (l.take n) (l.take n).length := by
  have hget : ∀ i, i < n → (l.take n)[i]! = l[i]! := fun i hi => by
    rw [getElem!_pos (l.take n) i (by rw [List.length_take]; omega), getElem!_pos l i (by omega), List.getElem_take]
  intro i h0 hi
  rw [List.length_take] at hi
  rw [hget i (by omega), hget _ (by omega)]
  exact h i h0 (by omega)
/-- behind a pop: what came, and what is left -/
theorem pop_parts {l l2 : List Nd} {n : Nat} (h : HeapN l l.length) (hl : l.length = n + 1) (hp : l2.Perm (swp l 0 n)) (hlast : l2[n]! = (swp l 0 n)[n]!) (h2 : HeapN l2 n) :
    (l2[n]! :: l2.take n).Perm l ∧ (∀ y ∈ l2.take n, y.op ≤ l2[n]!.op) ∧ HeapN (l2.take n) (l2.take n).length := by
  have hpl : l2.Perm l := hp.trans (swp_perm l 0 n (by omega) (by omega))
  have hlen : l2.length = n + 1 := by rw [hpl.length_eq]; exact hl
  have hx : l2[n]! = l[0]! := by rw [hlast, swp_get l 0 n n (by omega) (by omega), if_pos rfl]
  refine ⟨?_, fun y hy => ?_, h2.take (by omega)⟩
  · have e : l2 = l2.take n ++ [l2[n]!] := by
      have h3 := List.take_append_drop n l2
      rw [getElem!_pos l2 n (by omega)]
      conv => lhs; rw [← h3]
      congr 1
      rw [List.drop_eq_getElem_cons (by omega), List.drop_eq_nil_of_le (by omega)]
    refine List.Perm.trans ?_ hpl
    have e2 : (l2.take n ++ [l2[n]!]).Perm l2 := by rw [← e]
    exact ((List.perm_append_comm (l₁ := [l2[n]!]) (l₂ := l2.take n)).trans e2)
  · rw [hx]
    have hm : y ∈ l := hpl.subset (List.mem_of_mem_take hy)
    obtain ⟨i, hi, rfl⟩ := List.getElem_of_mem hm
    have := h.top i hi
    rw [getElem!_pos l i hi] at this
    exact this
end Go.Proofs.Ytbalcamjccfkdaa
