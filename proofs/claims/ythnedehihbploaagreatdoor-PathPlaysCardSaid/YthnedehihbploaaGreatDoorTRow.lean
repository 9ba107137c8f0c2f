/- A row of ops: when it may be, and the order of what it writes. Pure. -/
import Derived.Test.YthnedehihbploaaGreatDoorTMath
import Derived.Test.YthnedehihbploaaGreatDoorPNeeds
import Derived.Test.YthnedehihbploaaGreatDoorPElems
namespace Go.Proofs.YthnedehihbploaaGreatDoor
open Go.RowKit Go.Lib

/-- the edits by their names, and how many elements each wrote -/
def ed (l : List OpD) (e : El) : Option Nat := l.foldl (fun a p => if p.kind = 1 ∧ e = ⟨p.site, p.seq, 0⟩ then some (nR p.text) else a) none
def cnt (l : List OpD) (s : Int) : Nat := (l.filter (fun p => decide (p.site = s))).length
def tot (l : List OpD) : Nat := (l.map (fun p => nR p.text)).sum
def wr (l : List OpD) (e : El) : Bool := decide (e.i < (((ed l e.w).getD 0 : Nat) : Int))
def hasN (l : List OpD) (e : El) : Bool := (ed l e).isSome
/-- may o stand next? -/
def tk (l : List OpD) (o : OpD) : Bool := okOp o && (decide (o.seq = cnt l o.site + 1) && ((needs o).all (hasN l) && (o.gone.all (wr l) && ((o.after.begin || wr l o.after) && decide (tot l + nR o.text ≤ 200)))))
def okRow (l : List OpD) : Prop := ∀ (k : Nat) (h : k < l.length), tk (l.take k) l[k] = true
def rowP (l : List OpD) : Prop := l.length ≤ 40 ∧ okRow l

theorem ed_snoc (l : List OpD) (o : OpD) (e : El) : ed (l ++ [o]) e = if o.kind = 1 ∧ e = ⟨o.site, o.seq, 0⟩ then some (nR o.text) else ed l e := by
  unfold ed
  rw [List.foldl_append]
  rfl
theorem cnt_snoc (l : List OpD) (o : OpD) (s : Int) : cnt (l ++ [o]) s = cnt l s + (if o.site = s then 1 else 0) := by
  unfold cnt
  rw [List.filter_append, List.length_append]
  congr 1
  by_cases h : o.site = s <;> simp [h]
theorem tot_snoc (l : List OpD) (o : OpD) : tot (l ++ [o]) = tot l + nR o.text := by
  simp [tot]

/-- what the op at place i of a row writes, and what each hangs under -/
def blk (o : OpD) (i : Nat) : List Tn := (List.range (nR o.text)).map (fun (j : Nat) => ⟨⟨⟨o.site, o.seq, j⟩, i⟩, if j = 0 then o.after else ⟨o.site, o.seq, (j : Int) - 1⟩⟩)
theorem blk_length (o : OpD) (i : Nat) : (blk o i).length = nR o.text := by simp [blk]
theorem blk_get {o : OpD} {i j : Nat} {t : Tn} (h : (blk o i)[j]? = some t) : j < nR o.text ∧ t = ⟨⟨⟨o.site, o.seq, j⟩, i⟩, if j = 0 then o.after else ⟨o.site, o.seq, (j : Int) - 1⟩⟩ := by
  obtain ⟨h1, h2⟩ := List.getElem?_eq_some_iff.1 h
  rw [blk_length] at h1
  refine ⟨h1, ?_⟩
  rw [← h2]
  simp [blk]
theorem blk_at {o : OpD} {i j : Nat} (h : j < nR o.text) : ∃ t, (blk o i)[j]? = some t ∧ t.nd.e = ⟨o.site, o.seq, j⟩ := by
  refine ⟨(blk o i)[j]'(by rw [blk_length]; exact h), List.getElem?_eq_getElem _, ?_⟩
  simp [blk]
def pos (D : List Tn) (e : El) : Nat := if e = B0 then 0 else D.findIdx (fun t => decide (t.nd.e = e)) + 1
def ordS (l : List OpD) : List Tn × Nat := l.foldl (fun st o => (lay st.1 (blk o st.2) (pos st.1 o.after), st.2 + 1)) ([], 0)
/-- the order of all that a row writes -/
def ordT (l : List OpD) : List Tn := (ordS l).1
def allS (l : List OpD) : List Tn × Nat := l.foldl (fun st o => (st.1 ++ blk o st.2, st.2 + 1)) ([], 0)
/-- all that a row writes, op by op -/
def allT (l : List OpD) : List Tn := (allS l).1
theorem ordS_len (l : List OpD) : (ordS l).2 = l.length := by
  have : ∀ (l : List OpD) (st : List Tn × Nat), (l.foldl (fun st o => (lay st.1 (blk o st.2) (pos st.1 o.after), st.2 + 1)) st).2 = st.2 + l.length := by
    intro l
    induction l with
    | nil => intro st; rfl
    | cons o l ih => intro st; rw [List.foldl_cons, ih, List.length_cons]; show st.2 + 1 + _ = _; omega
  unfold ordS
  rw [this]
  simp
theorem allS_len (l : List OpD) : (allS l).2 = l.length := by
  have : ∀ (l : List OpD) (st : List Tn × Nat), (l.foldl (fun st o => (st.1 ++ blk o st.2, st.2 + 1)) st).2 = st.2 + l.length := by
    intro l
    induction l with
    | nil => intro st; rfl
    | cons o l ih => intro st; rw [List.foldl_cons, ih, List.length_cons]; show st.2 + 1 + _ = _; omega
  unfold allS
  rw [this]
  simp
theorem ordT_snoc (l : List OpD) (o : OpD) : ordT (l ++ [o]) = lay (ordT l) (blk o l.length) (pos (ordT l) o.after) := by
  have h := ordS_len l
  unfold ordT
  conv => lhs; unfold ordS
  rw [List.foldl_append]
  show (lay (ordS l).1 (blk o (ordS l).2) (pos (ordS l).1 o.after)) = _
  rw [h]
theorem allT_snoc (l : List OpD) (o : OpD) : allT (l ++ [o]) = allT l ++ blk o l.length := by
  have h := allS_len l
  unfold allT
  conv => lhs; unfold allS
  rw [List.foldl_append]
  show (allS l).1 ++ blk o (allS l).2 = _
  rw [h]

theorem begin_iff (e : El) : e.begin = true ↔ e = B0 := by
  cases e
  simp [El.begin, B0]
theorem ok_parts {e : El} (h : e.ok = true) (hb : e.begin = false) : 1 ≤ e.s ∧ e.s ≤ 8 ∧ 1 ≤ e.q ∧ e.q ≤ 268435456 ∧ 0 ≤ e.i ∧ e.i ≤ 11 := by
  unfold El.ok at h
  rw [hb, Bool.false_or, Bool.and_eq_true] at h
  have h1 := nameB_of h.1
  have h2 := of_decide_eq_true h.2
  omega
theorem okOp_name {o : OpD} (h : okOp o = true) : 1 ≤ o.site ∧ o.site ≤ 8 ∧ 1 ≤ o.seq ∧ o.seq ≤ 268435456 := by
  unfold okOp at h
  rw [Bool.and_eq_true] at h
  exact nameB_of h.1
theorem okOp_kind {o : OpD} (h : okOp o = true) : o.kind = 1 ∨ o.kind = 2 := by
  unfold okOp at h
  rw [Bool.and_eq_true] at h
  by_cases h1 : o.kind = 1
  · exact .inl h1
  · by_cases h2 : o.kind = 2
    · exact .inr h2
    · rw [if_neg h1, if_neg h2] at h
      exact absurd h.2 (by simp)
/-- what writes is an edit, behind what may be -/
theorem okOp_writes {o : OpD} (h : okOp o = true) (hn : 0 < nR o.text) : o.kind = 1 ∧ o.after.ok = true ∧ o.after.own o.site o.seq = false := by
  have hne : ¬ o.text = ⟨#[]⟩ := fun e => by
    rw [e] at hn
    exact absurd hn (by decide)
  unfold okOp at h
  rw [Bool.and_eq_true] at h
  by_cases h1 : o.kind = 1
  · rw [if_pos h1] at h
    have h2 := h.2
    unfold okEdit at h2
    simp only [Bool.and_eq_true] at h2
    have h3 := h2.2.2.2.1
    unfold okAfter at h3
    rw [if_neg hne, Bool.and_eq_true] at h3
    exact ⟨h1, h3.1, by simpa using h3.2⟩
  · rw [if_neg h1] at h
    by_cases h4 : o.kind = 2
    · rw [if_pos h4] at h
      have h2 := h.2
      unfold okToggle at h2
      simp only [Bool.and_eq_true] at h2
      exact absurd (of_decide_eq_true h2.2.1) hne
    · rw [if_neg h4] at h
      exact absurd h.2 (by simp)

/-- what holds of a row that may be -/
structure RInv (l : List OpD) : Prop where
  ord : TOrd (ordT l)
  ops : ∀ (i : Nat) (u : Tn), (ordT l)[i]? = some u → u.nd.op < l.length ∧ 0 ≤ u.nd.op
  mem : ∀ e : El, (∃ (i : Nat) (u : Tn), (ordT l)[i]? = some u ∧ u.nd.e = e) ↔ 0 ≤ e.i ∧ ∃ c : Nat, ed l e.w = some c ∧ e.i < c
  edk : ∀ (e : El) (c : Nat), ed l e = some c → e.i = 0 ∧ 1 ≤ e.s ∧ e.s ≤ 8 ∧ 1 ≤ e.q ∧ e.q ≤ cnt l e.s ∧ c ≤ 12
  perm : (ordT l).Perm (allT l)
  len : (ordT l).length = tot l
theorem RInv.nil : RInv [] := ⟨ord_nil, by simp [ordT, ordS], fun e => ⟨by simp [ordT, ordS], by simp [ed]⟩, by simp [ed], by simp [ordT, ordS, allT, allS], by simp [ordT, ordS, tot]⟩
theorem lay_nil (D : List Tn) (p : Nat) : lay D [] p = D := by simp [lay]

/-- where what an op writes is laid -/
theorem blk_ok {l : List OpD} (h : RInv l) {o : OpD} (ht : tk l o = true) (hn : 0 < nR o.text) : Blk (ordT l) (blk o l.length) (pos (ordT l) o.after) l.length o.after := by
  unfold tk at ht
  simp only [Bool.and_eq_true, decide_eq_true_eq] at ht
  obtain ⟨hok, hseq, _, _, haft, _⟩ := ht
  obtain ⟨hk, hao, _⟩ := okOp_writes hok hn
  have hname := okOp_name hok
  have hat : o.after = B0 ∨ ∃ (i : Nat) (u : Tn), (ordT l)[i]? = some u ∧ u.nd.e = o.after := by
    by_cases hb : o.after.begin = true
    · exact .inl ((begin_iff _).1 hb)
    · refine .inr ((h.mem o.after).2 ?_)
      have hbf : o.after.begin = false := by simpa using hb
      rw [hbf, Bool.false_or] at haft
      have h2 := of_decide_eq_true haft
      have h3 := ok_parts hao hbf
      cases hc : ed l o.after.w with
      | none => rw [hc] at h2; simp at h2; omega
      | some c => rw [hc] at h2; exact ⟨h3.2.2.2.2.1, c, rfl, by simpa using h2⟩
  have hpos : (o.after = B0 ∧ pos (ordT l) o.after = 0) ∨ ∃ u : Tn, 0 < pos (ordT l) o.after ∧ pos (ordT l) o.after ≤ (ordT l).length ∧ (ordT l)[pos (ordT l) o.after - 1]? = some u ∧ u.nd.e = o.after := by
    by_cases hb : o.after = B0
    · exact .inl ⟨hb, by unfold pos; rw [if_pos hb]⟩
    · rcases hat with e | ⟨i, u, hu, he⟩
      · exact absurd e hb
      · have hlt : (ordT l).findIdx (fun t => decide (t.nd.e = o.after)) < (ordT l).length := List.findIdx_lt_length_of_exists ⟨u, List.mem_of_getElem? hu, by simpa using he⟩
        have hp := List.findIdx_getElem (w := hlt)
        refine .inr ⟨(ordT l)[(ordT l).findIdx (fun t => decide (t.nd.e = o.after))], ?_, ?_, ?_, by simpa using hp⟩
        · unfold pos; rw [if_neg hb]; omega
        · unfold pos; rw [if_neg hb]; omega
        · unfold pos; rw [if_neg hb, Nat.add_sub_cancel]; exact List.getElem?_eq_getElem hlt
  refine ⟨?_, ?_, ?_, ?_, ?_, ?_, ?_, ?_, ?_⟩
  · rcases hpos with ⟨_, e⟩ | ⟨_, _, h2, _⟩
    · omega
    · exact h2
  · intro i j u v hu hv he
    obtain ⟨hj, rfl⟩ := blk_get hv
    obtain ⟨h1, c, h2, _⟩ := (h.mem u.nd.e).1 ⟨i, u, hu, rfl⟩
    have h3 := h.edk _ _ h2
    rw [he] at h3
    simp only [El.w] at h3
    omega
  · intro i j u v hu hv he
    obtain ⟨_, rfl⟩ := blk_get hu
    obtain ⟨_, rfl⟩ := blk_get hv
    simp only [El.mk.injEq, true_and] at he
    omega
  · intro i u hu he
    obtain ⟨_, rfl⟩ := blk_get hu
    simp only [B0, El.mk.injEq] at he
    omega
  · intro i u hu
    obtain ⟨_, rfl⟩ := blk_get hu
    rfl
  · intro i u hu
    exact (h.ops i u hu).1
  · intro u hu
    obtain ⟨_, rfl⟩ := blk_get hu
    rw [if_pos rfl]
  · intro i u v hu hv
    obtain ⟨_, rfl⟩ := blk_get hu
    obtain ⟨_, rfl⟩ := blk_get hv
    simp only
    rw [if_neg (by omega)]
    congr 1
    omega
  · rcases hpos with h1 | ⟨u, h0, _, h2, h3⟩
    · exact .inl h1
    · exact .inr ⟨u, h0, h2, h3⟩

theorem RInv.step {l : List OpD} (h : RInv l) {o : OpD} (ht : tk l o = true) : RInv (l ++ [o]) := by
  have ht2 := ht
  unfold tk at ht2
  simp only [Bool.and_eq_true, decide_eq_true_eq] at ht2
  obtain ⟨hok, hseq, _, _, haft, htot⟩ := ht2
  have hname := okOp_name hok
  have hn12 := (okOp_text hok).2.1
  have hbl : nR o.text = 0 ∨ Blk (ordT l) (blk o l.length) (pos (ordT l) o.after) l.length o.after := by
    by_cases h0 : nR o.text = 0
    · exact .inl h0
    · exact .inr (blk_ok h ht (by omega))
  have hsplit : ∀ (i : Nat) (u : Tn), (ordT (l ++ [o]))[i]? = some u → (∃ j : Nat, (ordT l)[j]? = some u) ∨ ∃ j : Nat, (blk o l.length)[j]? = some u := by
    intro i u hu
    rw [ordT_snoc] at hu
    rcases hbl with h0 | hb
    · rw [List.eq_nil_of_length_eq_zero ((blk_length o l.length).trans h0), lay_nil] at hu
      exact .inl ⟨i, hu⟩
    · rcases lay_from hb.le hu with ⟨_, h2⟩ | ⟨_, _, h2⟩ | ⟨_, h2⟩
      · exact .inl ⟨_, h2⟩
      · exact .inr ⟨_, h2⟩
      · exact .inl ⟨_, h2⟩
  have hperm : (ordT (l ++ [o])).Perm (ordT l ++ blk o l.length) := by
    rw [ordT_snoc]
    exact lay_perm _ _ _
  have hmem : ∀ u : Tn, (∃ i : Nat, (ordT (l ++ [o]))[i]? = some u) ↔ (∃ j : Nat, (ordT l)[j]? = some u) ∨ ∃ j : Nat, (blk o l.length)[j]? = some u := by
    intro u
    rw [← List.mem_iff_getElem?, ← List.mem_iff_getElem?, ← List.mem_iff_getElem?, hperm.mem_iff, List.mem_append]
  refine ⟨?_, ?_, ?_, ?_, ?_, ?_⟩
  · rw [ordT_snoc]
    rcases hbl with h0 | hb
    · rw [List.eq_nil_of_length_eq_zero ((blk_length o l.length).trans h0), lay_nil]
      exact h.ord
    · exact lay_ord h.ord hb
  · intro i u hu
    rw [List.length_append, List.length_singleton]
    rcases hsplit i u hu with ⟨j, hj⟩ | ⟨j, hj⟩
    · have := h.ops j u hj; omega
    · obtain ⟨_, rfl⟩ := blk_get hj
      simp only
      omega
  · intro e
    have key : (∃ (i : Nat) (u : Tn), (ordT (l ++ [o]))[i]? = some u ∧ u.nd.e = e) ↔ (∃ (i : Nat) (u : Tn), (ordT l)[i]? = some u ∧ u.nd.e = e) ∨ ∃ (j : Nat) (u : Tn), (blk o l.length)[j]? = some u ∧ u.nd.e = e := by
      constructor
      · rintro ⟨i, u, hu, he⟩
        rcases (hmem u).1 ⟨i, hu⟩ with ⟨j, hj⟩ | ⟨j, hj⟩
        · exact .inl ⟨j, u, hj, he⟩
        · exact .inr ⟨j, u, hj, he⟩
      · rintro (⟨i, u, hu, he⟩ | ⟨i, u, hu, he⟩)
        · obtain ⟨k, hk⟩ := (hmem u).2 (.inl ⟨i, hu⟩)
          exact ⟨k, u, hk, he⟩
        · obtain ⟨k, hk⟩ := (hmem u).2 (.inr ⟨i, hu⟩)
          exact ⟨k, u, hk, he⟩
    rw [key, h.mem e]
    constructor
    · rintro (⟨h1, c, h2, h3⟩ | ⟨j, u, hj, he⟩)
      · refine ⟨h1, c, ?_, h3⟩
        rw [ed_snoc, if_neg]
        · exact h2
        · rintro ⟨_, he⟩
          have h4 := h.edk _ _ h2
          rw [he] at h4
          simp only at h4
          omega
      · obtain ⟨hjn, rfl⟩ := blk_get hj
        simp only at he
        subst he
        refine ⟨by simp only; omega, nR o.text, ?_, by simp only; omega⟩
        rw [ed_snoc, if_pos ⟨(okOp_writes hok (by omega)).1, rfl⟩]
    · rintro ⟨h1, c, h2, h3⟩
      rw [ed_snoc] at h2
      split at h2
      · rename_i hc
        obtain ⟨_, hw⟩ := hc
        simp only [Option.some.injEq] at h2
        subst h2
        obtain ⟨i, hi⟩ : ∃ i : Nat, e.i = i := ⟨e.i.toNat, by omega⟩
        obtain ⟨t, ht1, ht2⟩ := blk_at (o := o) (i := l.length) (j := i) (by omega)
        refine .inr ⟨i, t, ht1, ?_⟩
        rw [ht2]
        cases e
        simp only [El.w, El.mk.injEq, and_true] at hw hi ⊢
        exact ⟨hw.1.symm, hw.2.symm, hi.symm⟩
      · exact .inl ⟨h1, c, h2, h3⟩
  · intro e c he
    rw [ed_snoc] at he
    rw [cnt_snoc]
    split at he
    · rename_i hc
      obtain ⟨_, rfl⟩ := hc
      simp only [Option.some.injEq] at he
      subst he
      simp only [if_true]
      refine ⟨trivial, hname.1, hname.2.1, hname.2.2.1, by omega, hn12⟩
    · have := h.edk e c he
      refine ⟨this.1, this.2.1, this.2.2.1, this.2.2.2.1, by omega, this.2.2.2.2.2⟩
  · rw [allT_snoc]
    exact hperm.trans (h.perm.append_right _)
  · rw [hperm.length_eq, List.length_append, h.len, blk_length, tot_snoc]
theorem okRow_take {l : List OpD} (h : okRow l) (k : Nat) : okRow (l.take k) := fun j hj => by
  rw [List.length_take] at hj
  rw [List.take_take, Nat.min_eq_left (by omega), List.getElem_take]
  exact h j (by omega)
theorem row_inv {l : List OpD} (h : okRow l) : ∀ k, k ≤ l.length → RInv (l.take k) := by
  intro k
  induction k with
  | zero => intro _; rw [List.take_zero]; exact RInv.nil
  | succ k ih =>
    intro hk
    rw [List.take_succ_eq_append_getElem (by omega)]
    exact (ih (by omega)).step (h k (by omega))
theorem row_tot {l : List OpD} (h : okRow l) : tot l ≤ 200 := by
  rcases Nat.eq_zero_or_pos l.length with e | hp
  · rw [List.eq_nil_of_length_eq_zero e]; simp [tot]
  · have h1 := h (l.length - 1) (by omega)
    unfold tk at h1
    simp only [Bool.and_eq_true, decide_eq_true_eq] at h1
    have h2 := h1.2.2.2.2.2
    have h3 : l = l.take (l.length - 1) ++ [l[l.length - 1]] := by
      rw [← List.take_succ_eq_append_getElem (by omega), show l.length - 1 + 1 = l.length from by omega, List.take_length]
    rw [h3, tot_snoc]
    exact h2
end Go.Proofs.YthnedehihbploaaGreatDoor
