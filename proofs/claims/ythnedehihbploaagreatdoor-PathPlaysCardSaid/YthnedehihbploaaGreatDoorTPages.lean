/- The page's own answers on rows: where a name is found, what is written, when a row may be. Pure. -/
import Derived.Test.YthnedehihbploaaGreatDoorTCheck
namespace Go.Proofs.YthnedehihbploaaGreatDoor
open Go.RowKit Go.Lib

theorem OpsAt.take {w : World} {a : Option Addr} {l : List OpR} (h : OpsAt w a l) (k : Nat) : OpsAt w a (l.take k) :=
  ⟨fun j hj => by
    rw [List.length_take] at hj
    obtain ⟨b, off, h1, h2, h3⟩ := h.cell j (by omega)
    exact ⟨b, off, h1, h2, fun c u hu => h3 c u (by rw [List.getElem_take] at hu; exact hu)⟩, fun j hj => by
    rw [List.length_take] at hj
    rw [List.getElem_take]
    exact h.op j (by omega), by rw [List.length_take]; have := h.len; omega⟩
theorem rowP_take {l : List OpD} (h : rowP l) (k : Nat) : rowP (l.take k) := ⟨by rw [List.length_take]; have := h.1; omega, okRow_take h.2 k⟩
/-- where e is first; -1: nowhere -/
def atI (l : List El) (e : El) : Int := if e ∈ l then (l.findIdx (fun x => decide (x = e)) : Nat) else -1
theorem atI_pos {l : List El} {e : El} (h : e ∈ l) : 0 ≤ atI l e := by unfold atI; rw [if_pos h]; omega
theorem atI_neg {l : List El} {e : El} (h : ¬ e ∈ l) : atI l e = -1 := by unfold atI; rw [if_neg h]
theorem atI_le {l : List El} {e : El} : atI l e ≤ l.length := by
  unfold atI
  split
  · have := List.findIdx_le_length (xs := l) (p := fun x => decide (x = e)); omega
  · omega
theorem atI_at {l : List El} {e : El} {k : Nat} (hk : l[k]? = some e) (hall : ∀ j x, j < k → l[j]? = some x → x ≠ e) : atI l e = k := by
  obtain ⟨h1, h2⟩ := List.getElem?_eq_some_iff.1 hk
  unfold atI
  rw [if_pos (List.mem_of_getElem? hk)]
  have h3 : l.findIdx (fun x => decide (x = e)) = k := by
    rw [List.findIdx_eq h1]
    refine ⟨by simpa using h2, fun j hj => ?_⟩
    have hj2 : j < l.length := by omega
    have := hall j l[j] hj (List.getElem?_eq_getElem hj2)
    simpa using this
  rw [h3]
theorem atI_no {l : List El} {e : El} (hall : ∀ (j : Nat) x, l[j]? = some x → x ≠ e) : atI l e = -1 := by
  refine atI_neg (fun hm => ?_)
  obtain ⟨j, hj, he⟩ := List.getElem_of_mem hm
  exact hall j _ (List.getElem?_eq_getElem hj) he
/-- where the op of a name is; the length: nowhere -/
def fk (l : List OpD) (s q : Int) : Nat := l.findIdx (fun p => decide (p.site = s ∧ p.seq = q))
def findI (l : List OpD) (s q : Int) : Int := if fk l s q < l.length then (fk l s q : Nat) else -1
theorem fk_le (l : List OpD) (s q : Int) : fk l s q ≤ l.length := List.findIdx_le_length
theorem fk_snoc (l : List OpD) (o : OpD) (s q : Int) : fk (l ++ [o]) s q = if fk l s q < l.length then fk l s q else if o.site = s ∧ o.seq = q then l.length else l.length + 1 := by
  unfold fk
  rw [List.findIdx_append]
  by_cases h : l.findIdx (fun p => decide (p.site = s ∧ p.seq = q)) < l.length
  · rw [if_pos h, if_pos h]
  · rw [if_neg h, if_neg h]
    by_cases hc : o.site = s ∧ o.seq = q
    · rw [if_pos hc, List.findIdx_cons]
      simp [hc]
    · rw [if_neg hc, List.findIdx_cons]
      simp [hc]
      omega
theorem fk_is {l : List OpD} {s q : Int} (h : fk l s q < l.length) : l[fk l s q].site = s ∧ l[fk l s q].seq = q := by
  have h2 : l.findIdx (fun p => decide (p.site = s ∧ p.seq = q)) < l.length := h
  exact of_decide_eq_true (List.findIdx_getElem (w := h2))
def wrt (l : List OpD) (e : El) : Bool := e.begin || (match l[fk l e.s e.q]? with | some p => decide (0 ≤ e.i) && decide (e.i < (nR p.text : Int)) | none => false)
def edt (l : List OpD) (s q : Int) : Bool := match l[fk l s q]? with | some p => decide (p.kind = 1) | none => false
/-- may o stand behind l, but for the limits? -/
def goes (l : List OpD) (o : OpD) : Bool := okOp o && (decide (o.seq = cnt l o.site + 1) && (wrt l o.after && (o.gone.all (wrt l) && (decide (o.kind = 1) || edt l o.of o.num))))
def rowG (l : List OpD) : Prop := l.length ≤ 40 ∧ (∀ (k : Nat) (h : k < l.length), goes (l.take k) l[k] = true) ∧ tot l ≤ 200

/-- what a name is found as, in a row that may be -/
def NInv (l : List OpD) : Prop := ∀ s q : Int, (fk l s q = l.length ∧ ed l ⟨s, q, 0⟩ = none) ∨
  ∃ p, fk l s q < l.length ∧ l[fk l s q]? = some p ∧ q ≤ cnt l s ∧ okOp p = true ∧ ((p.kind = 1 ∧ ed l ⟨s, q, 0⟩ = some (nR p.text)) ∨ (p.kind = 2 ∧ ed l ⟨s, q, 0⟩ = none ∧ nR p.text = 0))
theorem NInv.nil : NInv [] := fun _ _ => .inl ⟨rfl, rfl⟩
theorem toggle_text {o : OpD} (h : okOp o = true) (hk : o.kind = 2) : nR o.text = 0 := by
  unfold okOp at h
  rw [Bool.and_eq_true, if_neg (by omega), if_pos hk] at h
  have h2 := h.2
  unfold okToggle at h2
  simp only [Bool.and_eq_true] at h2
  have h3 : o.text = ⟨#[]⟩ := of_decide_eq_true h2.2.1
  rw [h3]
  decide
theorem NInv.step {l : List OpD} (h : NInv l) {o : OpD} (hok : okOp o = true) (hseq : o.seq = cnt l o.site + 1) : NInv (l ++ [o]) := by
  intro s q
  rw [fk_snoc, ed_snoc, cnt_snoc, List.length_append, List.length_singleton]
  rcases h s q with ⟨h1, h2⟩ | ⟨p, h1, h2, h3, h4, h5⟩
  · rw [h1, if_neg (Nat.lt_irrefl _)]
    by_cases hc : o.site = s ∧ o.seq = q
    · rw [if_pos hc]
      refine .inr ⟨o, by omega, by rw [List.getElem?_append_right (Nat.le_refl _)]; simp, ?_, hok, ?_⟩
      · rw [if_pos hc.1, ← hc.2, hseq, hc.1]; omega
      · rcases okOp_kind hok with hk | hk
        · refine .inl ⟨hk, ?_⟩
          rw [if_pos ⟨hk, by rw [hc.1, hc.2]⟩]
        · refine .inr ⟨hk, ?_, toggle_text hok hk⟩
          rw [if_neg (fun h => by omega)]
          exact h2
    · rw [if_neg hc]
      refine .inl ⟨rfl, ?_⟩
      rw [if_neg]
      · exact h2
      · rintro ⟨_, he⟩
        simp only [El.mk.injEq, and_true] at he
        exact hc ⟨he.1.symm, he.2.symm⟩
  · rw [if_pos h1]
    have hn : ¬ (o.kind = 1 ∧ (⟨s, q, 0⟩ : El) = ⟨o.site, o.seq, 0⟩) := by
      rintro ⟨_, he⟩
      simp only [El.mk.injEq, and_true] at he
      rw [he.1] at h3
      omega
    rw [if_neg hn]
    refine .inr ⟨p, by omega, by rw [List.getElem?_append_left h1]; exact h2, by omega, h4, h5⟩
theorem tk_goes {l : List OpD} {o : OpD} (h : tk l o = true) : okOp o = true ∧ o.seq = cnt l o.site + 1 := by
  unfold tk at h
  simp only [Bool.and_eq_true, decide_eq_true_eq] at h
  exact ⟨h.1, h.2.1⟩
theorem row_names {l : List OpD} (h : okRow l) : ∀ k, k ≤ l.length → NInv (l.take k) := by
  intro k
  induction k with
  | zero => intro _; rw [List.take_zero]; exact NInv.nil
  | succ k ih =>
    intro hk
    have ht := tk_goes (h k (by omega))
    rw [List.take_succ_eq_append_getElem (by omega)]
    exact (ih (by omega)).step ht.1 ht.2
theorem wrt_eq {l : List OpD} (h : NInv l) {e : El} (hb : e.begin = false) (hi : 0 ≤ e.i) : wrt l e = wr l e := by
  unfold wrt wr El.w
  rw [hb, Bool.false_or]
  rcases h e.s e.q with ⟨h1, h2⟩ | ⟨p, h1, h2, _, _, ⟨_, h5⟩ | ⟨_, h5, h6⟩⟩
  · rw [h2, h1, List.getElem?_eq_none (Nat.le_refl _)]
    simp
    omega
  · rw [h5, h2]
    simp [hi]
  · rw [h5, h2]
    simp [h6]
    omega
theorem edt_eq {l : List OpD} (h : NInv l) (s q : Int) : edt l s q = hasN l ⟨s, q, 0⟩ := by
  unfold edt hasN
  rcases h s q with ⟨h1, h2⟩ | ⟨p, h1, h2, _, _, ⟨hk, h5⟩ | ⟨hk, h5, h6⟩⟩
  · rw [h2, h1, List.getElem?_eq_none (Nat.le_refl _)]
    rfl
  · rw [h5, h2]
    simp [hk]
  · rw [h5, h2]
    simp [hk]
theorem gOk_nb {s q : Int} : ∀ {p : Option El} {l : List El}, gOk s q p l = true → ∀ x ∈ l, x.begin = false
  | _, [], _ => fun x h => absurd h (by simp)
  | p, e :: r, h => fun x hx => by
    unfold gOk at h
    simp only [Bool.and_eq_true] at h
    rcases List.mem_cons.1 hx with rfl | hx
    · simpa using h.1
    · exact gOk_nb h.2.2.2.2 x hx
theorem gone_nb {o : OpD} (h : okOp o = true) : ∀ x ∈ o.gone, x.begin = false := by
  by_cases hk : o.kind = 2
  · unfold okOp at h
    rw [Bool.and_eq_true, if_neg (by omega), if_pos hk] at h
    have h2 := h.2
    unfold okToggle at h2
    simp only [Bool.and_eq_true] at h2
    have h3 : o.gone.length = 0 := of_decide_eq_true h2.2.2.1
    rw [List.eq_nil_of_length_eq_zero h3]
    exact fun x hx => absurd hx (by simp)
  · obtain ⟨_, he⟩ := okOp_edit h hk
    exact gOk_nb (okEdit_gone he).2.1
theorem ok_i {e : El} (h : e.ok = true) : 0 ≤ e.i := by
  cases hb : e.begin with
  | true => unfold El.begin at hb; have := of_decide_eq_true hb; omega
  | false => exact (ok_parts h hb).2.2.2.2.1
theorem wr_has {l : List OpD} {e : El} (hi : 0 ≤ e.i) (h : wr l e = true) : hasN l e.w = true := by
  unfold wr at h
  unfold hasN
  have h2 := of_decide_eq_true h
  cases hc : ed l e.w with
  | none => rw [hc] at h2; simp at h2; omega
  | some c => rfl
theorem tk_eq {l : List OpD} (h : NInv l) (o : OpD) : tk l o = (goes l o && decide (tot l + nR o.text ≤ 200)) := by
  unfold tk goes
  cases hok : okOp o with
  | false => simp
  | true =>
    have hga : o.gone.all (wrt l) = o.gone.all (wr l) := by
      rw [Bool.eq_iff_iff, List.all_eq_true, List.all_eq_true]
      constructor
      · intro hh x hx
        rw [← wrt_eq h (gone_nb hok x hx) (ok_i ((gone_ok hok).2 x hx))]
        exact hh x hx
      · intro hh x hx
        rw [wrt_eq h (gone_nb hok x hx) (ok_i ((gone_ok hok).2 x hx))]
        exact hh x hx
    have haf : wrt l o.after = (o.after.begin || wr l o.after) := by
      cases hb : o.after.begin with
      | true => unfold wrt; rw [hb]; rfl
      | false => rw [wrt_eq h hb (ok_i (after_ok hok)), Bool.false_or]
    rw [hga, haf]
    by_cases hk : o.kind = 2
    · have hn : needs o = [⟨o.of, o.num, 0⟩] := by unfold needs; rw [if_pos hk]
      have hg0 : o.gone = [] := by
        unfold okOp at hok
        rw [Bool.and_eq_true, if_neg (by omega), if_pos hk] at hok
        have h2 := hok.2
        unfold okToggle at h2
        simp only [Bool.and_eq_true] at h2
        exact List.eq_nil_of_length_eq_zero (of_decide_eq_true h2.2.2.1)
      rw [hn, hg0, edt_eq h]
      have hk1 : ¬ o.kind = 1 := by omega
      simp only [List.all_cons, List.all_nil, Bool.and_true, Bool.true_and, hk1, decide_false, Bool.false_or]
      cases hasN l ⟨o.of, o.num, 0⟩ <;> cases (o.after.begin || wr l o.after) <;> simp
    · have hk1 := (okOp_edit hok hk).1
      have hneed : (o.gone.all (wr l) && (o.after.begin || wr l o.after)) = true → (needs o).all (hasN l) = true := by
        intro hh
        simp only [Bool.and_eq_true, List.all_eq_true, Bool.or_eq_true] at hh
        rw [List.all_eq_true]
        intro e he
        unfold needs at he
        rw [if_neg hk, ddl_mem, isort_mem] at he
        unfold needL at he
        rcases List.mem_append.1 he with he | he
        · split at he
          · exact absurd he (by simp)
          · rename_i hb
            have : e = o.after.w := by simpa using he
            rw [this]
            rcases hh.2 with h3 | h3
            · exact absurd h3 hb
            · exact wr_has (ok_i (after_ok hok)) h3
        · obtain ⟨x, hx, rfl⟩ := List.mem_map.1 he
          exact wr_has (ok_i ((gone_ok hok).2 x hx)) (hh.1 x hx)
      simp only [hk1, decide_true, Bool.true_or, Bool.and_true, Bool.true_and]
      cases h1 : o.gone.all (wr l) <;> cases h2 : (o.after.begin || wr l o.after) <;> simp only [Bool.and_false, Bool.false_and, Bool.and_true, Bool.true_and]
      rw [hneed (by rw [h1, h2]; rfl), Bool.true_and]
/-- what an op is written behind is found ahead of it -/
def AInv (l : List OpD) : Prop := ∀ x ∈ l, x.after = B0 ∨ fk l x.after.s x.after.q < l.length
theorem AInv.step {l : List OpD} (h : AInv l) (hn : NInv l) {o : OpD} (ht : tk l o = true) : AInv (l ++ [o]) := by
  intro x hx
  rw [fk_snoc, List.length_append, List.length_singleton]
  rcases List.mem_append.1 hx with hx | hx
  · rcases h x hx with e | e
    · exact .inl e
    · rw [if_pos e]
      exact .inr (by omega)
  · have : x = o := by simpa using hx
    subst this
    unfold tk at ht
    simp only [Bool.and_eq_true, Bool.or_eq_true] at ht
    rcases ht.2.2.2.2.1 with e | e
    · exact .inl ((begin_iff _).1 e)
    · right
      have h2 := wr_has (ok_i (after_ok ht.1)) e
      unfold hasN El.w at h2
      rcases hn x.after.s x.after.q with ⟨_, h4⟩ | ⟨_, h4, _⟩
      · rw [h4] at h2; cases h2
      · rw [if_pos h4]; omega
theorem row_after {l : List OpD} (h : okRow l) : ∀ k, k ≤ l.length → AInv (l.take k) := by
  intro k
  induction k with
  | zero => intro _ x hx; rw [List.take_zero] at hx; exact absurd hx (by simp)
  | succ k ih =>
    intro hk
    rw [List.take_succ_eq_append_getElem (by omega)]
    exact (ih (by omega)).step (row_names h k (by omega)) (h k (by omega))
theorem row_iff (l : List OpD) : rowP l ↔ rowG l := by
  constructor
  · rintro ⟨h1, h2⟩
    refine ⟨h1, fun k hk => ?_, row_tot h2⟩
    have h3 := h2 k hk
    rw [tk_eq (row_names h2 k (by omega))] at h3
    rw [Bool.and_eq_true] at h3
    exact h3.1
  · rintro ⟨h1, h2, h3⟩
    refine ⟨h1, ?_⟩
    have key : ∀ k, k ≤ l.length → okRow (l.take k) := by
      intro k
      induction k with
      | zero => intro _ j hj; rw [List.take_zero] at hj; exact absurd hj (by simp)
      | succ k ih =>
        intro hk
        have ihk := ih (by omega)
        intro j hj
        rw [List.length_take] at hj
        rw [List.take_take, Nat.min_eq_left (by omega), List.getElem_take]
        by_cases hjk : j = k
        · subst hjk
          have hn := row_names ihk j (by rw [List.length_take]; omega)
          rw [List.take_take, Nat.min_self] at hn
          rw [tk_eq hn, h2 j (by omega), Bool.true_and]
          have h4 := tot_take l (j + 1)
          rw [List.take_succ_eq_append_getElem (by omega), tot_snoc] at h4
          exact decide_eq_true (by omega)
        · have h5 := ihk j (by rw [List.length_take]; omega)
          rw [List.take_take, Nat.min_eq_left (by omega), List.getElem_take] at h5
          exact h5
    have := key l.length (Nat.le_refl _)
    rw [List.take_length] at this
    exact this
end Go.Proofs.YthnedehihbploaaGreatDoor
/- What hangs under an element, as the page finds it; the order, as a search in depth tells it. Pure. -/
namespace Go.Proofs.YthnedehihbploaaGreatDoor
open Go.RowKit Go.Lib

theorem filter_split {α : Type} (X : List α) (p q r : α → Bool) (hr : ∀ x ∈ X, r x = (p x || q x)) (hd : ∀ x ∈ X, ¬ (p x = true ∧ q x = true)) (hpw : X.Pairwise (fun a b => ¬ (p a = true ∧ q b = true))) : X.filter r = X.filter q ++ X.filter p := by
  induction X with
  | nil => rfl
  | cons x X ih =>
    have h1 := hr x (List.mem_cons_self ..)
    have h2 := hd x (List.mem_cons_self ..)
    rw [List.pairwise_cons] at hpw
    have ih' := ih (fun y hy => hr y (List.mem_cons_of_mem _ hy)) (fun y hy => hd y (List.mem_cons_of_mem _ hy)) hpw.2
    cases hp : p x <;> cases hq : q x
    · rw [hp, hq] at h1
      rw [List.filter_cons_of_neg (by simp [h1]), List.filter_cons_of_neg (by simp [hq]), List.filter_cons_of_neg (by simp [hp])]
      exact ih'
    · rw [hp, hq] at h1
      rw [List.filter_cons_of_pos (by simp [h1]), List.filter_cons_of_pos (by simp [hq]), List.filter_cons_of_neg (by simp [hp]), ih']
      rfl
    · rw [hp, hq] at h1
      have hn : X.filter q = [] := List.filter_eq_nil_iff.2 (fun y hy h => hpw.1 y hy ⟨hp, h⟩)
      rw [List.filter_cons_of_pos (by simp [h1]), List.filter_cons_of_neg (by simp [hq]), List.filter_cons_of_pos (by simp [hp]), ih', hn]
      rfl
    · exact absurd ⟨hp, hq⟩ h2
theorem range_one (n a : Nat) : (List.range n).filter (fun j => decide (j = a)) = if a < n then [a] else [] := by
  induction n with
  | zero => simp
  | succ n ih =>
    rw [List.range_succ, List.filter_append, ih]
    by_cases h : a = n
    · subst h
      simp
    · by_cases h2 : a < n
      · rw [if_pos h2, if_pos (by omega)]
        simp [Ne.symm h]
      · rw [if_neg h2, if_neg (by omega)]
        simp [Ne.symm h]

/-- no op hangs its elements under a later one's -/
def ParOp (D : List Tn) : Prop := ∀ s ∈ D, ∀ t ∈ D, s.par = t.nd.e → t.nd.op ≤ s.nd.op
theorem mem_snoc {l : List OpD} {o : OpD} {u : Tn} : u ∈ ordT (l ++ [o]) ↔ u ∈ ordT l ∨ u ∈ blk o l.length := by
  rw [ordT_snoc, (lay_perm _ _ _).mem_iff, List.mem_append]
/-- nothing old hangs under what is new -/
theorem old_par {l : List OpD} (h : RInv l) {o : OpD} (ht : tk l o = true) {s : Tn} (hs : s ∈ ordT l) {i : Int} : s.par ≠ ⟨o.site, o.seq, i⟩ := by
  intro he
  obtain ⟨m, hm⟩ := List.mem_iff_getElem?.1 hs
  obtain ⟨hok, hseq⟩ := tk_goes ht
  have hname := okOp_name hok
  rcases h.ord.par m s hm with e | ⟨j, u, _, hu, hue⟩
  · rw [he] at e
    simp only [B0, El.mk.injEq] at e
    omega
  · obtain ⟨_, c, h2, _⟩ := (h.mem u.nd.e).1 ⟨j, u, hu, rfl⟩
    have h3 := h.edk _ _ h2
    rw [hue, he] at h3
    unfold El.w at h3
    simp only at h3
    omega
theorem old_e {l : List OpD} (h : RInv l) {o : OpD} (ht : tk l o = true) {s : Tn} (hs : s ∈ ordT l) : ¬ (s.nd.e.s = o.site ∧ s.nd.e.q = o.seq) := by
  intro he
  obtain ⟨m, hm⟩ := List.mem_iff_getElem?.1 hs
  obtain ⟨hok, hseq⟩ := tk_goes ht
  obtain ⟨_, c, h2, _⟩ := (h.mem s.nd.e).1 ⟨m, s, hm, rfl⟩
  have h3 := h.edk _ _ h2
  unfold El.w at h3
  simp only at h3
  rw [he.1] at h3
  omega
theorem parOp_step {l : List OpD} (h : RInv l) {o : OpD} (ht : tk l o = true) (hp : ParOp (ordT l)) : ParOp (ordT (l ++ [o])) := by
  intro s hs t ht2 he
  rcases mem_snoc.1 hs with hs | hs <;> rcases mem_snoc.1 ht2 with ht2 | ht2
  · exact hp s hs t ht2 he
  · obtain ⟨j, hj⟩ := List.mem_iff_getElem?.1 ht2
    obtain ⟨_, rfl⟩ := blk_get hj
    exact absurd he (old_par h ht hs)
  · obtain ⟨j, hj⟩ := List.mem_iff_getElem?.1 hs
    obtain ⟨_, rfl⟩ := blk_get hj
    obtain ⟨k, hk⟩ := List.mem_iff_getElem?.1 ht2
    have := h.ops k t hk
    simp only
    omega
  · obtain ⟨j, hj⟩ := List.mem_iff_getElem?.1 hs
    obtain ⟨_, rfl⟩ := blk_get hj
    obtain ⟨k, hk⟩ := List.mem_iff_getElem?.1 ht2
    obtain ⟨_, rfl⟩ := blk_get hk
    exact Int.le_refl _
theorem row_parOp {l : List OpD} (h : okRow l) : ∀ k, k ≤ l.length → ParOp (ordT (l.take k)) := by
  intro k
  induction k with
  | zero => intro _ s hs; rw [List.take_zero] at hs; exact absurd hs (by simp [ordT, ordS])
  | succ k ih =>
    intro hk
    rw [List.take_succ_eq_append_getElem (by omega)]
    exact parOp_step (row_inv h k (by omega)) (h k (by omega)) (ih (by omega))
/-- what is to come, when one more was told -/
theorem fr_next {D : List Tn} (h : TOrd D) (hop : ParOp D) {m : Nat} {t : Tn} (ht : D[m]? = some t) : ∃ R, fr D m = t.nd :: R ∧ fr D (m + 1) = kids D t.nd.e ++ R := by
  obtain ⟨hm, hte⟩ := List.getElem?_eq_some_iff.1 ht
  have hdrop : D.drop m = t :: D.drop (m + 1) := by rw [List.drop_eq_getElem_cons hm, hte]
  refine ⟨((D.drop (m + 1)).filter (fun t => @decide (Seen D m t.par) (Classical.propDecidable _))).map Tn.nd, ?_, ?_⟩
  · unfold fr
    rw [hdrop, List.filter_cons_of_pos (by simpa using h.par m t ht)]
    rfl
  · have hkids : kids D t.nd.e = ((D.drop (m + 1)).filter (fun s => decide (s.par = t.nd.e))).map Tn.nd := by
      unfold kids
      conv => lhs; rw [← List.take_append_drop (m + 1) D]
      rw [List.filter_append]
      have : (D.take (m + 1)).filter (fun s => decide (s.par = t.nd.e)) = [] := by
        rw [List.filter_eq_nil_iff]
        intro s hs
        obtain ⟨k, hk, rfl⟩ := List.getElem_of_mem hs
        rw [List.length_take] at hk
        rw [List.getElem_take]
        simp only [decide_eq_true_eq]
        intro hp
        rcases h.par k D[k] (List.getElem?_eq_getElem (by omega)) with e | ⟨j, u, hj, hu, he⟩
        · exact h.nob m t ht (by rw [← hp, e])
        · have := h.nodup j m u t hu ht (by rw [he, hp])
          omega
      rw [this, List.nil_append]
    rw [hkids, ← List.map_append]
    unfold fr
    congr 1
    refine filter_split _ _ _ _ (fun s hs => ?_) (fun s hs => ?_) ?_
    · rw [Bool.eq_iff_iff]
      simp only [decide_eq_true_eq, Bool.or_eq_true]
      exact seen_succ ht s.par
    · simp only [decide_eq_true_eq]
      rintro ⟨h1, h2⟩
      rcases h1 with e | ⟨j, u, hj, hu, he⟩
      · exact h.nob m t ht (by rw [← h2, e])
      · have := h.nodup j m u t hu ht (by rw [he, h2])
        omega
    · rw [List.pairwise_iff_getElem]
      intro i j hi hj hij
      rw [List.length_drop] at hi hj
      simp only [List.getElem_drop, decide_eq_true_eq]
      rintro ⟨h1, h2⟩
      have g1 : D[m + 1 + i]? = some D[m + 1 + i] := List.getElem?_eq_getElem (by omega)
      have g2 : D[m + 1 + j]? = some D[m + 1 + j] := List.getElem?_eq_getElem (by omega)
      have a1 := h.ahead m t ht (m + 1 + i) _ (by omega) g1 h1
      have a2 := h.ahead (m + 1 + i) _ g1 (m + 1 + j) _ (by omega) g2 (.inr ⟨m, t, by omega, ht, h2.symm⟩)
      have a3 := hop _ (List.mem_of_getElem? g2) _ (List.mem_of_getElem? ht) h2
      omega

/-- what hangs under e by ops, the later ones first -/
def up (e : El) : List OpD → List El
  | [] => []
  | o :: r => up e r ++ (if o.text = ⟨#[]⟩ then [] else if o.after = e then [⟨o.site, o.seq, 0⟩] else [])
theorem up_snoc (e : El) (l : List OpD) (o : OpD) : up e (l ++ [o]) = (if o.text = ⟨#[]⟩ then [] else if o.after = e then [⟨o.site, o.seq, 0⟩] else []) ++ up e l := by
  induction l with
  | nil => simp [up]
  | cons x l ih => rw [List.cons_append, up, ih, up, List.append_assoc]
def nextP (l : List OpD) (e : El) : List El := if e.begin then [] else if wrt l ⟨e.s, e.q, e.i + 1⟩ then [⟨e.s, e.q, e.i + 1⟩] else []
/-- what hangs under e, as the page tells it -/
def undP (l : List OpD) (e : El) : List El := up e l ++ nextP l e
def unE (l : List OpD) (e : El) : List El := (kids (ordT l) e).map Nd.e
theorem text_pos {o : OpD} (h : okOp o = true) : o.text = ⟨#[]⟩ ↔ nR o.text = 0 := by
  have h1 := (okOp_text h).1
  unfold nR
  rw [if_pos h1]
  exact rns_zero.symm
theorem blk_kids1 {o : OpD} {N : Nat} {e : El} (hne : ¬ (e.s = o.site ∧ e.q = o.seq)) : kids (blk o N) e = if 0 < nR o.text ∧ o.after = e then [⟨⟨o.site, o.seq, 0⟩, N⟩] else [] := by
  unfold kids blk
  rw [List.filter_map, List.map_map]
  have hf : ∀ j ∈ List.range (nR o.text), ((fun t : Tn => decide (t.par = e)) ∘ fun (j : Nat) => (⟨⟨⟨o.site, o.seq, j⟩, N⟩, if j = 0 then o.after else ⟨o.site, o.seq, (j : Int) - 1⟩⟩ : Tn)) j = (decide (j = 0) && decide (o.after = e)) := by
    intro j _
    simp only [Function.comp]
    by_cases hj : j = 0
    · subst hj
      simp
    · simp only [hj, ↓reduceIte, decide_false, Bool.false_and, decide_eq_false_iff_not]
      rintro rfl
      exact hne ⟨rfl, rfl⟩
  rw [List.filter_congr hf]
  by_cases ha : o.after = e
  · simp only [ha, decide_true, Bool.and_true, and_true]
    rw [range_one]
    split <;> simp
  · simp [ha]
theorem blk_kids2 {o : OpD} {N : Nat} (i : Nat) (hne : ¬ o.after = ⟨o.site, o.seq, i⟩) : kids (blk o N) ⟨o.site, o.seq, i⟩ = if i + 1 < nR o.text then [⟨⟨o.site, o.seq, (i : Int) + 1⟩, N⟩] else [] := by
  unfold kids blk
  rw [List.filter_map, List.map_map]
  have hf : ∀ j ∈ List.range (nR o.text), ((fun t : Tn => decide (t.par = ⟨o.site, o.seq, i⟩)) ∘ fun (j : Nat) => (⟨⟨⟨o.site, o.seq, j⟩, N⟩, if j = 0 then o.after else ⟨o.site, o.seq, (j : Int) - 1⟩⟩ : Tn)) j = decide (j = i + 1) := by
    intro j _
    simp only [Function.comp]
    by_cases hj : j = 0
    · subst hj
      simp [hne]
    · simp only [hj, ↓reduceIte, El.mk.injEq, true_and, decide_eq_decide]
      omega
  rw [List.filter_congr hf, range_one]
  split <;> simp
theorem kids_append (A B : List Tn) (e : El) : kids (A ++ B) e = kids A e ++ kids B e := by simp [kids]
theorem kids_lay (D B : List Tn) (p : Nat) (e : El) (h : kids B e = [] ∨ kids (D.take p) e = []) : kids (lay D B p) e = kids B e ++ kids D e := by
  have hD : kids D e = kids (D.take p) e ++ kids (D.drop p) e := by rw [← kids_append, List.take_append_drop]
  unfold lay
  rw [kids_append, kids_append, hD]
  rcases h with h | h
  · rw [h]; simp
  · rw [h]; simp
theorem kids_old {l : List OpD} (h : RInv l) {o : OpD} (ht : tk l o = true) (i : Int) : kids (ordT l) ⟨o.site, o.seq, i⟩ = [] := by
  unfold kids
  rw [List.map_eq_nil_iff, List.filter_eq_nil_iff]
  intro s hs
  simpa using old_par h ht hs
/-- ahead of the place behind e nothing hangs under e -/
theorem kids_ahead {D : List Tn} (h : TOrd D) (e : El) (hle : pos D e ≤ D.length) : kids (D.take (pos D e)) e = [] := by
  unfold kids
  rw [List.map_eq_nil_iff, List.filter_eq_nil_iff]
  intro s hs
  obtain ⟨k, hk, rfl⟩ := List.getElem_of_mem hs
  rw [List.length_take] at hk
  rw [List.getElem_take]
  simp only [decide_eq_true_eq]
  intro hp
  unfold pos at hk hle
  by_cases hb : e = B0
  · rw [if_pos hb] at hk; omega
  · rw [if_neg hb] at hk hle
    have hlt : D.findIdx (fun t => decide (t.nd.e = e)) < D.length := by omega
    have hw := List.findIdx_getElem (w := hlt)
    rcases h.par k D[k] (List.getElem?_eq_getElem (by omega)) with e1 | ⟨j, u, hj, hu, he⟩
    · exact hb (by rw [← hp, e1])
    · have hj2 := (List.getElem?_eq_some_iff.1 hu)
      have := List.not_of_lt_findIdx (p := fun t : Tn => decide (t.nd.e = e)) (xs := D) (i := j) (by omega)
      rw [hj2.2] at this
      simp [he, hp] at this
theorem undP_step {l : List OpD} (h : RInv l) (hn : NInv l) (ha : AInv l) {o : OpD} (ht : tk l o = true) (ih : ∀ e, (e = B0 ∨ e ∈ ordE l) → undP l e = unE l e) : ∀ e, (e = B0 ∨ e ∈ ordE (l ++ [o])) → undP (l ++ [o]) e = unE (l ++ [o]) e := by
  intro e he
  obtain ⟨hok, hseq⟩ := tk_goes ht
  have hname := okOp_name hok
  have htx := text_pos hok
  have hcase : (e = B0 ∨ e ∈ ordE l) ∨ ∃ i : Nat, i < nR o.text ∧ e = ⟨o.site, o.seq, i⟩ := by
    rcases he with he | he
    · exact .inl (.inl he)
    · unfold ordE at he
      obtain ⟨u, hu, rfl⟩ := List.mem_map.1 he
      rcases mem_snoc.1 hu with hu | hu
      · exact .inl (.inr (List.mem_map.2 ⟨u, hu, rfl⟩))
      · obtain ⟨j, hj⟩ := List.mem_iff_getElem?.1 hu
        obtain ⟨hj1, rfl⟩ := blk_get hj
        exact .inr ⟨j, hj1, rfl⟩
  rcases hcase with ho | ⟨i, hi, rfl⟩
  · -- an old one, or the begin
    have hne : ¬ (e.s = o.site ∧ e.q = o.seq) := by
      rcases ho with rfl | ho
      · simp only [B0]; omega
      · unfold ordE at ho
        obtain ⟨u, hu, rfl⟩ := List.mem_map.1 ho
        exact old_e h ht hu
    have hnx : nextP (l ++ [o]) e = nextP l e := by
      unfold nextP
      rcases ho with rfl | ho
      · simp [B0, El.begin]
      · unfold ordE at ho
        obtain ⟨u, hu, rfl⟩ := List.mem_map.1 ho
        obtain ⟨m, hm⟩ := List.mem_iff_getElem?.1 hu
        obtain ⟨_, c, h2, _⟩ := (h.mem u.nd.e).1 ⟨m, u, hm, rfl⟩
        have hf : fk l u.nd.e.s u.nd.e.q < l.length := by
          rcases hn u.nd.e.s u.nd.e.q with ⟨_, h4⟩ | ⟨_, h4, _⟩
          · unfold El.w at h2; rw [h4] at h2; cases h2
          · exact h4
        have hw : wrt (l ++ [o]) ⟨u.nd.e.s, u.nd.e.q, u.nd.e.i + 1⟩ = wrt l ⟨u.nd.e.s, u.nd.e.q, u.nd.e.i + 1⟩ := by
          unfold wrt
          simp only
          rw [fk_snoc, if_pos hf, List.getElem?_append_left hf]
        rw [hw]
    unfold undP
    rw [up_snoc, hnx, List.append_assoc]
    have hih := ih e ho
    unfold undP at hih
    rw [hih]
    unfold unE
    rw [ordT_snoc]
    have hk := blk_kids1 (o := o) (N := l.length) hne
    have hlay : kids (lay (ordT l) (blk o l.length) (pos (ordT l) o.after)) e = kids (blk o l.length) e ++ kids (ordT l) e := by
      refine kids_lay _ _ _ _ ?_
      by_cases hc : 0 < nR o.text ∧ o.after = e
      · right
        have hb := blk_ok h ht hc.1
        rw [← hc.2]
        exact kids_ahead h.ord _ hb.le
      · left
        rw [hk, if_neg hc]
    rw [hlay, hk, List.map_append]
    congr 1
    by_cases ht0 : o.text = ⟨#[]⟩
    · have := htx.1 ht0
      rw [if_pos ht0, if_neg (by omega)]
      rfl
    · have : 0 < nR o.text := Nat.pos_of_ne_zero (fun hz => ht0 (htx.2 hz))
      rw [if_neg ht0]
      by_cases ha : o.after = e
      · rw [if_pos ha, if_pos ⟨this, ha⟩]
        rfl
      · rw [if_neg ha, if_neg (fun hc => ha hc.2)]
        rfl
  · -- a new one
    have haft : ¬ o.after = ⟨o.site, o.seq, i⟩ := by
      intro hc
      have := (okOp_writes hok (by omega)).2.2
      rw [hc] at this
      simp [El.own] at this
    have hup : up ⟨o.site, o.seq, (i : Int)⟩ l = [] := by
      have hk := kids_old h ht (i : Int)
      have : ∀ l' : List OpD, (∀ x ∈ l', ¬ x.text = ⟨#[]⟩ → ¬ x.after = ⟨o.site, o.seq, (i : Int)⟩) → up ⟨o.site, o.seq, (i : Int)⟩ l' = [] := by
        intro l'
        induction l' with
        | nil => intro _; rfl
        | cons x r ihr =>
          intro hx
          rw [up, ihr (fun y hy => hx y (List.mem_cons_of_mem _ hy))]
          by_cases h1 : x.text = ⟨#[]⟩
          · rw [if_pos h1]; rfl
          · rw [if_neg h1, if_neg (hx x (List.mem_cons_self ..) h1)]; rfl
      refine this l (fun x hx _ hxa => ?_)
      rcases ha x hx with e | e
      · rw [hxa] at e
        simp only [B0, El.mk.injEq] at e
        omega
      · rw [hxa] at e
        simp only at e
        rcases hn o.site o.seq with ⟨h4, _⟩ | ⟨_, _, _, h4, _⟩
        · omega
        · omega
    have hfk : fk (l ++ [o]) o.site o.seq = l.length := by
      rw [fk_snoc]
      rcases hn o.site o.seq with ⟨h4, _⟩ | ⟨_, _, _, h4, _⟩
      · rw [h4, if_neg (Nat.lt_irrefl _), if_pos ⟨rfl, rfl⟩]
      · omega
    have hnx : nextP (l ++ [o]) ⟨o.site, o.seq, (i : Int)⟩ = if i + 1 < nR o.text then [⟨o.site, o.seq, (i : Int) + 1⟩] else [] := by
      unfold nextP wrt
      have hb : ∀ k : Int, El.begin ⟨o.site, o.seq, k⟩ = false := fun k => decide_eq_false (by simp only; omega)
      simp only
      rw [hb, hb, hfk, List.getElem?_append_right (Nat.le_refl _)]
      simp only [Nat.sub_self, List.getElem?_cons_zero, Bool.false_or, if_false, Bool.false_eq_true]
      by_cases hlt : i + 1 < nR o.text
      · rw [if_pos hlt, decide_eq_true (show (0 : Int) ≤ (i : Int) + 1 from by omega), decide_eq_true (show (i : Int) + 1 < (nR o.text : Int) from by omega)]
        rfl
      · rw [if_neg hlt, decide_eq_false (show ¬ (i : Int) + 1 < (nR o.text : Int) from by omega)]
        simp
    unfold undP
    rw [up_snoc, hup, hnx, if_neg haft]
    have hko := kids_old h ht (i : Int)
    have hkt : kids ((ordT l).take (pos (ordT l) o.after)) ⟨o.site, o.seq, (i : Int)⟩ = [] := by
      have h2 := kids_append ((ordT l).take (pos (ordT l) o.after)) ((ordT l).drop (pos (ordT l) o.after)) ⟨o.site, o.seq, (i : Int)⟩
      rw [List.take_append_drop, hko] at h2
      exact (List.append_eq_nil_iff.1 h2.symm).1
    unfold unE
    rw [ordT_snoc, kids_lay _ _ _ _ (.inr hkt), hko, blk_kids2 i haft]
    split <;> split <;> simp
theorem undP_row {l : List OpD} (h : okRow l) : ∀ k, k ≤ l.length → ∀ e, (e = B0 ∨ e ∈ ordE (l.take k)) → undP (l.take k) e = unE (l.take k) e := by
  intro k
  induction k with
  | zero =>
    intro _ e he
    rw [List.take_zero] at he ⊢
    rcases he with rfl | he
    · rfl
    · exact absurd he (by simp [ordE, ordT, ordS])
  | succ k ih =>
    intro hk
    rw [List.take_succ_eq_append_getElem (by omega)]
    exact undP_step (row_inv h k (by omega)) (row_names h k (by omega)) (row_after h k (by omega)) (h k (by omega)) (ih (by omega))
theorem undP_eq {l : List OpD} (h : okRow l) {e : El} (he : e = B0 ∨ e ∈ ordE l) : undP l e = unE l e := by
  have := undP_row h l.length (Nat.le_refl _) e
  rw [List.take_length] at this
  exact this he
end Go.Proofs.YthnedehihbploaaGreatDoor
