/- The order of a tree: which node comes first of those that are reached. Pure. -/
import Derived.Test.YthnedehihbploaaGreatDoorFront
namespace Go.Proofs.YthnedehihbploaaGreatDoor
open Go.RowKit Go.Lib

/-- a node and what it hangs under -/
structure Tn where
  nd : Nd
  par : El
def B0 : El := ⟨0, 0, 0⟩
/-- e is the begin, or among the first m -/
def Seen (D : List Tn) (m : Nat) (e : El) : Prop := e = B0 ∨ ∃ (j : Nat) (u : Tn), j < m ∧ D[j]? = some u ∧ u.nd.e = e
/-- the order of a tree -/
structure TOrd (D : List Tn) : Prop where
  nodup : ∀ (i j : Nat) (u v : Tn), D[i]? = some u → D[j]? = some v → u.nd.e = v.nd.e → i = j
  nob : ∀ (i : Nat) (u : Tn), D[i]? = some u → u.nd.e ≠ B0
  par : ∀ (m : Nat) (t : Tn), D[m]? = some t → Seen D m t.par
  ahead : ∀ (m : Nat) (t : Tn), D[m]? = some t → ∀ (k : Nat) (s : Tn), m < k → D[k]? = some s → Seen D m s.par → s.nd.op < t.nd.op

open Classical in
/-- the nodes that are reached, but not told yet, when m were told -/
noncomputable def fr (D : List Tn) (m : Nat) : List Nd := ((D.drop m).filter (fun t => decide (Seen D m t.par))).map Tn.nd
/-- what hangs right under e -/
def kids (A : List Tn) (e : El) : List Nd := (A.filter (fun t => decide (t.par = e))).map Tn.nd

theorem filter_or_perm {α : Type} (l : List α) (p q r : α → Bool) (hr : ∀ x ∈ l, r x = (p x || q x)) (hd : ∀ x ∈ l, ¬ (p x = true ∧ q x = true)) : (l.filter p ++ l.filter q).Perm (l.filter r) := by
  induction l with
  | nil => exact List.Perm.refl _
  | cons x l ih =>
    have ih' := ih (fun y hy => hr y (List.mem_cons_of_mem _ hy)) (fun y hy => hd y (List.mem_cons_of_mem _ hy))
    have h1 := hr x (List.mem_cons_self ..)
    have h2 := hd x (List.mem_cons_self ..)
    cases hp : p x <;> cases hq : q x
    · rw [hp, hq] at h1
      rw [List.filter_cons_of_neg (by simp [hp]), List.filter_cons_of_neg (by simp [hq]), List.filter_cons_of_neg (by simp [h1])]
      exact ih'
    · rw [hp, hq] at h1
      rw [List.filter_cons_of_neg (by simp [hp]), List.filter_cons_of_pos (by simp [hq]), List.filter_cons_of_pos (by simp [h1])]
      exact List.perm_middle.trans (ih'.cons x)
    · rw [hp, hq] at h1
      rw [List.filter_cons_of_pos (by simp [hp]), List.filter_cons_of_neg (by simp [hq]), List.filter_cons_of_pos (by simp [h1])]
      exact ih'.cons x
    · exact absurd ⟨hp, hq⟩ h2
theorem seen_mono {D : List Tn} {m k : Nat} {e : El} (h : Seen D m e) (hk : m ≤ k) : Seen D k e := by
  rcases h with h | ⟨j, u, h1, h2, h3⟩
  · exact .inl h
  · exact .inr ⟨j, u, by omega, h2, h3⟩
theorem seen_succ {D : List Tn} {m : Nat} {t : Tn} (ht : D[m]? = some t) (e : El) : Seen D (m + 1) e ↔ Seen D m e ∨ e = t.nd.e := by
  constructor
  · rintro (h | ⟨j, u, h1, h2, h3⟩)
    · exact .inl (.inl h)
    · by_cases hj : j = m
      · subst hj
        rw [ht] at h2
        cases h2
        exact .inr h3.symm
      · exact .inl (.inr ⟨j, u, by omega, h2, h3⟩)
  · rintro (h | h)
    · exact seen_mono h (by omega)
    · exact .inr ⟨m, t, by omega, ht, h.symm⟩

theorem fr_start (D : List Tn) : fr D 0 = kids D B0 := by
  unfold fr kids
  rw [List.drop_zero]
  congr 1
  apply List.filter_congr
  intro t _
  rw [decide_eq_decide]
  constructor
  · rintro (h | ⟨j, _, hj, _⟩)
    · exact h
    · omega
  · exact fun h => .inl h
theorem fr_cons {D : List Tn} (h : TOrd D) {m : Nat} {t : Tn} (ht : D[m]? = some t) : ∃ R, fr D m = t.nd :: R ∧ (∀ y ∈ R, y.op < t.nd.op) ∧ (R ++ kids D t.nd.e).Perm (fr D (m + 1)) := by
  obtain ⟨hm, hte⟩ := List.getElem?_eq_some_iff.1 ht
  have hdrop : D.drop m = t :: D.drop (m + 1) := by rw [List.drop_eq_getElem_cons hm, hte]
  refine ⟨((D.drop (m + 1)).filter (fun t => @decide (Seen D m t.par) (Classical.propDecidable _))).map Tn.nd, ?_, ?_, ?_⟩
  · unfold fr
    rw [hdrop, List.filter_cons_of_pos (by simpa using h.par m t ht)]
    rfl
  · intro y hy
    obtain ⟨s, hs, rfl⟩ := List.mem_map.1 hy
    obtain ⟨hs1, hs2⟩ := List.mem_filter.1 hs
    obtain ⟨k, hk, rfl⟩ := List.getElem_of_mem hs1
    rw [List.getElem_drop] at hs2 ⊢
    rw [List.length_drop] at hk
    exact h.ahead m t ht (m + 1 + k) _ (by omega) (by rw [List.getElem?_eq_getElem (by omega)]) (by simpa using hs2)
  · have hkids : kids D t.nd.e = ((D.drop (m + 1)).filter (fun s => decide (s.par = t.nd.e))).map Tn.nd := by
      unfold kids
      conv => lhs; rw [← List.take_append_drop (m + 1) D]
      rw [List.filter_append]
      have : (D.take (m + 1)).filter (fun s => decide (s.par = t.nd.e)) = [] := by
        rw [List.filter_eq_nil_iff]
        intro s hs
        obtain ⟨k, hk, rfl⟩ := List.getElem_of_mem hs
        rw [List.length_take] at hk
        rw [List.getElem_take]
        simp only [decide_eq_true_eq]
        intro hp
        rcases h.par k D[k] (List.getElem?_eq_getElem (by omega)) with e | ⟨j, u, hj, hu, he⟩
        · exact h.nob m t ht (by rw [← hp, e])
        · have := h.nodup j m u t hu ht (by rw [he, hp])
          omega
      rw [this, List.nil_append]
    rw [hkids, ← List.map_append]
    unfold fr
    refine List.Perm.map _ (filter_or_perm _ _ _ _ (fun s hs => ?_) (fun s hs => ?_))
    · rw [Bool.eq_iff_iff]
      simp only [decide_eq_true_eq, Bool.or_eq_true]
      exact seen_succ ht s.par
    · simp only [decide_eq_true_eq]
      rintro ⟨h1, h2⟩
      rcases h1 with e | ⟨j, u, hj, hu, he⟩
      · exact h.nob m t ht (by rw [← h2, e])
      · have := h.nodup j m u t hu ht (by rw [he, h2])
        omega
/-- what a pop tells is the next of the order -/
theorem fr_step {D : List Tn} (h : TOrd D) {m : Nat} {t : Tn} (ht : D[m]? = some t) {x : Nd} {L' : List Nd} (hp : (x :: L').Perm (fr D m)) (hmax : ∀ y ∈ L', y.op ≤ x.op) : x = t.nd ∧ (L' ++ kids D t.nd.e).Perm (fr D (m + 1)) := by
  obtain ⟨R, h1, h2, h3⟩ := fr_cons h ht
  rw [h1] at hp
  have hx : x = t.nd := by
    have hxm : x ∈ t.nd :: R := hp.subset (List.mem_cons_self ..)
    rcases List.mem_cons.1 hxm with e | hxR
    · exact e
    · have h4 := h2 x hxR
      have htm : t.nd ∈ x :: L' := hp.symm.subset (List.mem_cons_self ..)
      rcases List.mem_cons.1 htm with e | htL
      · exact e.symm
      · have := hmax _ htL
        omega
  subst hx
  refine ⟨rfl, ?_⟩
  have := (List.Perm.cons_inv hp)
  exact (this.append_right _).trans h3
theorem fr_end {D : List Tn} {m : Nat} (hm : D.length ≤ m) : fr D m = [] := by
  unfold fr
  rw [List.drop_eq_nil_of_le hm]
  rfl
theorem fr_pos {D : List Tn} (h : TOrd D) {m : Nat} (hm : m < D.length) : 0 < (fr D m).length := by
  obtain ⟨R, h1, _⟩ := fr_cons h (List.getElem?_eq_getElem hm)
  rw [h1]
  simp
theorem fr_length (D : List Tn) (m : Nat) : (fr D m).length ≤ D.length := by
  unfold fr
  rw [List.length_map]
  refine Nat.le_trans (List.length_filter_le _ _) ?_
  rw [List.length_drop]
  omega
theorem kids_length (D : List Tn) (e : El) : (kids D e).length ≤ D.length := by
  unfold kids
  rw [List.length_map]
  exact List.length_filter_le _ _
theorem kids_perm {A D : List Tn} (h : A.Perm D) (e : El) : (kids A e).Perm (kids D e) := (h.filter _).map _

/-! what an op writes is laid right behind what it was written behind -/
structure Blk (D B : List Tn) (p N : Nat) (e : El) : Prop where
  le : p ≤ D.length
  new : ∀ (i j : Nat) (u v : Tn), D[i]? = some u → B[j]? = some v → u.nd.e ≠ v.nd.e
  nodup : ∀ (i j : Nat) (u v : Tn), B[i]? = some u → B[j]? = some v → u.nd.e = v.nd.e → i = j
  nob : ∀ (i : Nat) (u : Tn), B[i]? = some u → u.nd.e ≠ B0
  op : ∀ (i : Nat) (u : Tn), B[i]? = some u → u.nd.op = N
  old : ∀ (i : Nat) (u : Tn), D[i]? = some u → u.nd.op < N
  first : ∀ u : Tn, B[0]? = some u → u.par = e
  next : ∀ (i : Nat) (u v : Tn), B[i]? = some u → B[i + 1]? = some v → v.par = u.nd.e
  at_ : (e = B0 ∧ p = 0) ∨ ∃ u : Tn, 0 < p ∧ D[p - 1]? = some u ∧ u.nd.e = e
def lay (D B : List Tn) (p : Nat) : List Tn := D.take p ++ B ++ D.drop p
theorem lay_get {D B : List Tn} {p : Nat} (hp : p ≤ D.length) (k : Nat) : (lay D B p)[k]? = if k < p then D[k]? else if k < p + B.length then B[k - p]? else D[k - B.length]? := by
  unfold lay
  have hl : (D.take p).length = p := by rw [List.length_take]; omega
  by_cases h1 : k < p
  · rw [if_pos h1, List.append_assoc, List.getElem?_append_left (by omega), List.getElem?_take_of_lt h1]
  · rw [if_neg h1, List.append_assoc, List.getElem?_append_right (by omega), hl]
    by_cases h2 : k < p + B.length
    · rw [if_pos h2, List.getElem?_append_left (by omega)]
    · rw [if_neg h2, List.getElem?_append_right (by omega), List.getElem?_drop]
      congr 1
      omega
/-- where an index of the new order comes from -/
theorem lay_from {D B : List Tn} {p : Nat} (hp : p ≤ D.length) {k : Nat} {t : Tn} (h : (lay D B p)[k]? = some t) :
    (k < p ∧ D[k]? = some t) ∨ (p ≤ k ∧ k < p + B.length ∧ B[k - p]? = some t) ∨ (p + B.length ≤ k ∧ D[k - B.length]? = some t) := by
  rw [lay_get hp] at h
  by_cases h1 : k < p
  · rw [if_pos h1] at h; exact .inl ⟨h1, h⟩
  · rw [if_neg h1] at h
    by_cases h2 : k < p + B.length
    · rw [if_pos h2] at h; exact .inr (.inl ⟨by omega, h2, h⟩)
    · rw [if_neg h2] at h; exact .inr (.inr ⟨by omega, h⟩)
/-- an old node, at its old place i and its new one -/
theorem lay_old {D B : List Tn} {p : Nat} (hp : p ≤ D.length) {k : Nat} {t : Tn} (h : (lay D B p)[k]? = some t) (hB : ∀ (j : Nat) (v : Tn), B[j]? = some v → v.nd.e ≠ t.nd.e) :
    ∃ i, D[i]? = some t ∧ ((i < p ∧ k = i) ∨ (p ≤ i ∧ k = i + B.length)) := by
  rcases lay_from hp h with ⟨h1, h2⟩ | ⟨_, _, h2⟩ | ⟨h1, h2⟩
  · exact ⟨k, h2, .inl ⟨h1, rfl⟩⟩
  · exact absurd rfl (hB _ _ h2)
  · exact ⟨k - B.length, h2, .inr ⟨by omega, by omega⟩⟩
theorem lay_ord {D B : List Tn} {p N : Nat} {e : El} (h : TOrd D) (hb : Blk D B p N e) : TOrd (lay D B p) := by
  have hp := hb.le
  -- what is seen of an old node's parent was seen in the old order
  have back : ∀ (m : Nat) (s : Tn) (i : Nat), D[i]? = some s → Seen (lay D B p) m s.par → ∀ mo, (∀ j, (j < p → j < m → j < mo) ∧ (p ≤ j → j + B.length < m → j < mo)) → Seen D mo s.par := by
    intro m s i hs hseen mo hmo
    rcases hseen with e1 | ⟨j, u, hj, hu, he⟩
    · exact .inl e1
    · rcases h.par i s hs with e2 | ⟨j2, u2, hj2, hu2, he2⟩
      · exact .inl e2
      · rcases lay_from hp hu with ⟨h1, h2⟩ | ⟨_, _, h2⟩ | ⟨h1, h2⟩
        · exact .inr ⟨j, u, (hmo j).1 h1 hj, h2, he⟩
        · exact absurd (he2.trans he.symm) (hb.new _ _ _ _ hu2 h2)
        · exact .inr ⟨j - B.length, u, (hmo _).2 (by omega) (by omega), h2, he⟩
  refine ⟨?_, ?_, ?_, ?_⟩
  · intro i j u v hu hv he
    rcases lay_from hp hu with ⟨h1, h2⟩ | ⟨h1, h1', h2⟩ | ⟨h1, h2⟩ <;> rcases lay_from hp hv with ⟨g1, g2⟩ | ⟨g1, g1', g2⟩ | ⟨g1, g2⟩
    · exact h.nodup _ _ _ _ h2 g2 he
    · exact absurd he (hb.new _ _ _ _ h2 g2)
    · have := h.nodup _ _ _ _ h2 g2 he; omega
    · exact absurd he.symm (hb.new _ _ _ _ g2 h2)
    · have := hb.nodup _ _ _ _ h2 g2 he; omega
    · exact absurd he.symm (hb.new _ _ _ _ g2 h2)
    · have := h.nodup _ _ _ _ h2 g2 he; omega
    · exact absurd he (hb.new _ _ _ _ h2 g2)
    · have := h.nodup _ _ _ _ h2 g2 he; omega
  · intro i u hu
    rcases lay_from hp hu with ⟨_, h2⟩ | ⟨_, _, h2⟩ | ⟨_, h2⟩
    · exact h.nob _ _ h2
    · exact hb.nob _ _ h2
    · exact h.nob _ _ h2
  · intro m t ht
    rcases lay_from hp ht with ⟨h1, h2⟩ | ⟨h1, h1', h2⟩ | ⟨h1, h2⟩
    · rcases h.par m t h2 with e1 | ⟨j, u, hj, hu, he⟩
      · exact .inl e1
      · exact .inr ⟨j, u, hj, by rw [lay_get hp, if_pos (by omega)]; exact hu, he⟩
    · by_cases h0 : m = p
      · subst h0
        rw [Nat.sub_self] at h2
        have hf := hb.first t h2
        rcases hb.at_ with ⟨e1, _⟩ | ⟨u, hm0, hu, he⟩
        · exact .inl (by rw [hf, e1])
        · exact .inr ⟨m - 1, u, by omega, by rw [lay_get hp, if_pos (by omega)]; exact hu, by rw [he, hf]⟩
      · have hBl : m - p - 1 < B.length := by omega
        have hprev : B[m - p - 1]? = some B[m - p - 1] := List.getElem?_eq_getElem hBl
        have hn := hb.next (m - p - 1) _ t hprev (by rw [show m - p - 1 + 1 = m - p from by omega]; exact h2)
        refine .inr ⟨m - 1, _, by omega, ?_, hn.symm⟩
        rw [lay_get hp, if_neg (by omega), if_pos (by omega), ← hprev]
        congr 1
        omega
    · rcases h.par _ t h2 with e1 | ⟨j, u, hj, hu, he⟩
      · exact .inl e1
      · by_cases hjp : j < p
        · exact .inr ⟨j, u, by omega, by rw [lay_get hp, if_pos hjp]; exact hu, he⟩
        · refine .inr ⟨j + B.length, u, by omega, ?_, he⟩
          rw [lay_get hp, if_neg (by omega), if_neg (by omega), ← hu]
          congr 1
          omega
  · intro m t ht k s hk hs hseen
    rcases lay_from hp ht with ⟨h1, h2⟩ | ⟨h1, h1', h2⟩ | ⟨h1, h2⟩
    · rcases lay_from hp hs with ⟨g1, g2⟩ | ⟨g1, g1', g2⟩ | ⟨g1, g2⟩
      · exact h.ahead m t h2 k s hk g2 (back m s k g2 hseen m (fun j => ⟨fun _ h => h, fun _ h => by omega⟩))
      · -- a node of the block is seen only behind the one ahead of it
        exfalso
        rcases hseen with e1 | ⟨j, u, hj, hu, he⟩
        · by_cases h0 : k = p
          · subst h0
            rw [Nat.sub_self] at g2
            have hf := hb.first s g2
            rcases hb.at_ with ⟨_, e3⟩ | ⟨u2, _, hu2, he2⟩
            · omega
            · exact h.nob _ _ hu2 (by rw [he2, ← hf, e1])
          · have hBl : k - p - 1 < B.length := by omega
            have hprev : B[k - p - 1]? = some B[k - p - 1] := List.getElem?_eq_getElem hBl
            have hn := hb.next (k - p - 1) _ s hprev (by rw [show k - p - 1 + 1 = k - p from by omega]; exact g2)
            exact hb.nob _ _ hprev (by rw [← hn, e1])
        · have hjp : j < p := by omega
          have hu' : D[j]? = some u := by rw [lay_get hp, if_pos hjp] at hu; exact hu
          by_cases h0 : k = p
          · subst h0
            rw [Nat.sub_self] at g2
            have hf := hb.first s g2
            rcases hb.at_ with ⟨_, e3⟩ | ⟨u2, _, hu2, he2⟩
            · omega
            · have := h.nodup _ _ _ _ hu' hu2 (by rw [he, he2, hf])
              omega
          · have hBl : k - p - 1 < B.length := by omega
            have hprev : B[k - p - 1]? = some B[k - p - 1] := List.getElem?_eq_getElem hBl
            have hn := hb.next (k - p - 1) _ s hprev (by rw [show k - p - 1 + 1 = k - p from by omega]; exact g2)
            exact hb.new _ _ _ _ hu' hprev (by rw [he, hn])
      · exact h.ahead m t h2 (k - B.length) s (by omega) g2 (back m s _ g2 hseen m (fun j => ⟨fun _ h => h, fun _ h => by omega⟩))
    · rw [hb.op _ _ h2]
      rcases lay_from hp hs with ⟨g1, g2⟩ | ⟨g1, g1', g2⟩ | ⟨g1, g2⟩
      · exact hb.old _ _ g2
      · exfalso
        have hBl : k - p - 1 < B.length := by omega
        have hprev : B[k - p - 1]? = some B[k - p - 1] := List.getElem?_eq_getElem hBl
        have hn := hb.next (k - p - 1) _ s hprev (by rw [show k - p - 1 + 1 = k - p from by omega]; exact g2)
        rcases hseen with e1 | ⟨j, u, hj, hu, he⟩
        · exact hb.nob _ _ hprev (by rw [← hn, e1])
        · rcases lay_from hp hu with ⟨f1, f2⟩ | ⟨f1, f1', f2⟩ | ⟨f1, f2⟩
          · exact hb.new _ _ _ _ f2 hprev (by rw [he, hn])
          · have := hb.nodup _ _ _ _ f2 hprev (by rw [he, hn])
            omega
          · omega
      · exact hb.old _ _ g2
    · rcases lay_from hp hs with ⟨g1, g2⟩ | ⟨g1, g1', g2⟩ | ⟨g1, g2⟩
      · omega
      · omega
      · exact h.ahead _ t h2 (k - B.length) s (by omega) g2 (back m s _ g2 hseen (m - B.length) (fun j => ⟨fun _ h => by omega, fun _ h => by omega⟩))
theorem lay_perm (D B : List Tn) (p : Nat) : (lay D B p).Perm (D ++ B) := by
  unfold lay
  have h1 : (D.take p ++ B ++ D.drop p).Perm (D.take p ++ (D.drop p ++ B)) := by
    rw [List.append_assoc]
    exact List.Perm.append_left _ List.perm_append_comm
  refine h1.trans ?_
  rw [← List.append_assoc, List.take_append_drop]
theorem ord_nil : TOrd [] := ⟨by simp, by simp, by simp, by simp⟩
end Go.Proofs.YthnedehihbploaaGreatDoor
