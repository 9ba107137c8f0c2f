/- The document of a row: toggles that count, what is visible, its runes. Pure. -/
import Derived.Test.YthnedehihbploaaGreatDoorTPages
namespace Go.Proofs.YthnedehihbploaaGreatDoor
open Go.RowKit Go.Lib

theorem olen (l : List OpR) : (OpR.os l).length = l.length := by simp [OpR.os]
/-- how many toggles of a name count -/
def ct (l : List OpD) (s q : Int) : Nat := l.foldl (fun n p => if p.kind = 2 ∧ p.of = s ∧ p.num = q ∧ p.gen = (n : Int) then n + 1 else n) 0
theorem ct_nil (s q : Int) : ct [] s q = 0 := rfl
theorem ct_snoc (l : List OpD) (o : OpD) (s q : Int) : ct (l ++ [o]) s q = if o.kind = 2 ∧ o.of = s ∧ o.num = q ∧ o.gen = (ct l s q : Int) then ct l s q + 1 else ct l s q := by
  unfold ct
  rw [List.foldl_append]
  rfl
theorem ct_take_le (l : List OpD) (s q : Int) : ∀ k, k ≤ l.length → ct (l.take k) s q ≤ k := by
  intro k
  induction k with
  | zero => intro _; rw [List.take_zero]; exact Nat.le_refl _
  | succ k ih =>
    intro hk
    have := ih (by omega)
    rw [List.take_succ_eq_append_getElem (by omega), ct_snoc]
    split <;> omega
theorem ct_le (l : List OpD) (s q : Int) : ct l s q ≤ l.length := by
  have := ct_take_le l s q l.length (Nat.le_refl _)
  rwa [List.take_length] at this
theorem ct_edit {l : List OpD} {o : OpD} (h : o.kind = 1) (s q : Int) : ct (l ++ [o]) s q = ct l s q := by
  rw [ct_snoc, if_neg (by omega)]
theorem hasN_snoc (l : List OpD) (o : OpD) (e : El) : hasN (l ++ [o]) e = (decide (o.kind = 1 ∧ e = ⟨o.site, o.seq, 0⟩) || hasN l e) := by
  unfold hasN
  rw [ed_snoc]
  by_cases h : o.kind = 1 ∧ e = ⟨o.site, o.seq, 0⟩
  · rw [if_pos h, decide_eq_true h]
    rfl
  · rw [if_neg h, decide_eq_false h, Bool.false_or]
/-- only edits' toggles count -/
def CInv (l : List OpD) : Prop := (∀ s q : Int, hasN l ⟨s, q, 0⟩ = false → ct l s q = 0) ∧ ∀ e : El, hasN l e = true → e.i = 0 ∧ 1 ≤ e.s ∧ e.s ≤ 8 ∧ 1 ≤ e.q ∧ e.q ≤ cnt l e.s
theorem toggle_has {l : List OpD} {o : OpD} (ht : tk l o = true) (hk : o.kind = 2) : hasN l ⟨o.of, o.num, 0⟩ = true := by
  unfold tk at ht
  simp only [Bool.and_eq_true] at ht
  have h := ht.2.2.1
  unfold needs at h
  rw [if_pos hk] at h
  simpa using h
theorem row_ct {l : List OpD} (h : okRow l) : ∀ k, k ≤ l.length → CInv (l.take k) := by
  intro k
  induction k with
  | zero => intro _; rw [List.take_zero]; exact ⟨fun _ _ _ => rfl, fun e he => absurd he (by simp [hasN, ed])⟩
  | succ k ih =>
    intro hk
    have ht := h k (by omega)
    have hi := row_inv h (k + 1) hk
    rw [List.take_succ_eq_append_getElem (by omega)] at hi ⊢
    refine ⟨fun s q hn => ?_, fun e he => ?_⟩
    · rw [hasN_snoc, Bool.or_eq_false_iff] at hn
      rw [ct_snoc, if_neg]
      · exact (ih (by omega)).1 s q hn.2
      · rintro ⟨h1, h2, h3, _⟩
        have h4 := toggle_has ht h1
        rw [h2, h3, hn.2] at h4
        cases h4
    · unfold hasN at he
      cases hc : ed (l.take k ++ [l[k]]) e with
      | none => rw [hc] at he; cases he
      | some c =>
        have := hi.edk e c hc
        exact ⟨this.1, this.2.1, this.2.2.1, this.2.2.2.1, this.2.2.2.2.1⟩
/-- what the map of counts holds -/
def ctV (l : List OpD) (e : El) : Option Value := if hasN l e = true then some (.int .i64 (ct l e.s e.q)) else none
theorem ctV_nil : ctV [] = fun _ => none := by
  funext e
  simp [ctV, hasN, ed]
theorem ctV_get {l : List OpD} (h : CInv l) (s q : Int) : (ctV l ⟨s, q, 0⟩).getD (.int .i64 0) = .int .i64 (ct l s q) := by
  unfold ctV
  by_cases hn : hasN l ⟨s, q, 0⟩ = true
  · rw [if_pos hn]; rfl
  · rw [if_neg hn, h.1 s q (by simpa using hn)]; rfl
theorem ctV_is (l : List OpD) (e : El) : (ctV l e).isSome = hasN l e := by
  unfold ctV
  cases hasN l e <;> rfl
theorem ctV_edit {l : List OpD} (h : CInv l) {o : OpD} (ht : tk l o = true) (hk : o.kind = 1) : ctV (l ++ [o]) = fun x => if x = ⟨o.site, o.seq, 0⟩ then some (.int .i64 0) else ctV l x := by
  obtain ⟨hok, hseq⟩ := tk_goes ht
  funext x
  unfold ctV
  rw [hasN_snoc, ct_edit hk]
  by_cases hx : x = ⟨o.site, o.seq, 0⟩
  · subst hx
    rw [decide_eq_true ⟨hk, rfl⟩, Bool.true_or, if_pos rfl, if_pos rfl]
    have h0 : ct l o.site o.seq = 0 := by
      refine h.1 _ _ ?_
      cases hn : hasN l ⟨o.site, o.seq, 0⟩ with
      | false => rfl
      | true => have := (h.2 _ hn).2.2.2.2; simp only at this; omega
    rw [h0]
    rfl
  · rw [decide_eq_false (fun h => hx h.2), Bool.false_or, if_neg hx]
theorem ctV_toggle {l : List OpD} (h : CInv l) {o : OpD} (ht : tk l o = true) (hk : o.kind = 2) (hg : o.gen = (ct l o.of o.num : Int)) : ctV (l ++ [o]) = fun x => if x = ⟨o.of, o.num, 0⟩ then some (.int .i64 ((ct l o.of o.num + 1 : Nat) : Int)) else ctV l x := by
  have hn := toggle_has ht hk
  funext x
  unfold ctV
  rw [hasN_snoc, decide_eq_false (by omega), Bool.false_or, ct_snoc]
  by_cases hx : x = ⟨o.of, o.num, 0⟩
  · subst hx
    rw [if_pos hn, if_pos rfl, if_pos ⟨hk, rfl, rfl, hg⟩]
  · rw [if_neg hx]
    by_cases hx2 : hasN l x = true
    · rw [if_pos hx2, if_pos hx2, if_neg]
      rintro ⟨_, h2, h3, _⟩
      refine hx ?_
      have h4 := (h.2 x hx2).1
      cases x
      simp only at h2 h3 h4
      rw [h2, h3, h4]
    · rw [if_neg hx2, if_neg hx2]
theorem ctV_idle {l : List OpD} {o : OpD} (hk : o.kind = 2) (hg : ¬ o.gen = (ct l o.of o.num : Int)) : ctV (l ++ [o]) = ctV l := by
  funext x
  have hc : ct (l ++ [o]) x.s x.q = ct l x.s x.q := by
    rw [ct_snoc, if_neg]
    rintro ⟨_, h2, h3, h4⟩
    rw [← h2, ← h3] at h4
    exact hg h4
  unfold ctV
  rw [hasN_snoc, decide_eq_false (by omega), Bool.false_or, hc]

/-- is an edit effective? -/
def evn (l : List OpD) (s q : Int) : Bool := decide (ct l s q % 2 = 0)
/-- does an effective op of m have e among what goes? -/
def goneE (l m : List OpD) (e : El) : Bool := m.any (fun o => evn l o.site o.seq && decide (e ∈ o.gone))
theorem goneE_snoc (l m : List OpD) (o : OpD) (e : El) : goneE l (m ++ [o]) e = (goneE l m e || (evn l o.site o.seq && decide (e ∈ o.gone))) := by simp [goneE]
def unitV : Value := .agg #[]
def goV (l m : List OpD) (g : List El) (e : El) : Option Value := if goneE l m e = true ∨ e ∈ g then some unitV else none
theorem goV_nil (l : List OpD) : goV l [] [] = fun _ => none := by
  funext e
  simp [goV, goneE]
theorem goV_put (l m : List OpD) (g : List El) (x : El) : goV l m (g ++ [x]) = fun e => if e = x then some unitV else goV l m g e := by
  funext e
  unfold goV
  by_cases h : e = x
  · rw [if_pos h, if_pos (.inr (by simp [h]))]
  · rw [if_neg h]
    simp [h]
theorem goV_in (l m : List OpD) (o : OpD) (h : evn l o.site o.seq = true) : goV l (m ++ [o]) [] = goV l m o.gone := by
  funext e
  unfold goV
  rw [goneE_snoc, h]
  simp
theorem goV_out (l m : List OpD) (o : OpD) (h : evn l o.site o.seq = false) : goV l (m ++ [o]) [] = goV l m [] := by
  funext e
  unfold goV
  rw [goneE_snoc, h]
  simp
theorem goV_is (l m : List OpD) (e : El) : (goV l m [] e).isSome = goneE l m e := by
  unfold goV
  cases goneE l m e <;> simp
/-- is an element visible? -/
def vis (l : List OpD) (e : El) : Bool := evn l e.s e.q && !goneE l l e
def visE (l : List OpD) : List El := (ordE l).filter (vis l)
/-- the rune of an element that a row writes -/
def rnP (l : List OpD) (e : El) : Option Int := match l[fk l e.s e.q]? with | some p => if 0 ≤ e.i then (rns p.text)[e.i.toNat]? else none | none => none
def rnO (o : OpD) (e : El) : Option Int := if e.s = o.site ∧ e.q = o.seq ∧ 0 ≤ e.i then (rns o.text)[e.i.toNat]? else none
theorem rnP_nil (e : El) : rnP [] e = none := by simp [rnP]
theorem rnP_snoc {l : List OpD} (h : NInv l) {o : OpD} (hseq : o.seq = cnt l o.site + 1) (e : El) : rnP (l ++ [o]) e = if e.s = o.site ∧ e.q = o.seq then rnO o e else rnP l e := by
  unfold rnP
  rw [fk_snoc]
  rcases h e.s e.q with ⟨h1, _⟩ | ⟨p, h1, h2, h3, _⟩
  · rw [h1, if_neg (Nat.lt_irrefl _)]
    by_cases hc : o.site = e.s ∧ o.seq = e.q
    · rw [if_pos hc, if_pos ⟨hc.1.symm, hc.2.symm⟩]
      rw [List.getElem?_append_right (Nat.le_refl _), Nat.sub_self]
      unfold rnO
      simp only [List.getElem?_cons_zero]
      by_cases hi : 0 ≤ e.i
      · rw [if_pos hi, if_pos ⟨hc.1.symm, hc.2.symm, hi⟩]
      · rw [if_neg hi, if_neg (fun h => hi h.2.2)]
    · rw [if_neg hc, if_neg (fun h => hc ⟨h.1.symm, h.2.symm⟩)]
      rw [List.getElem?_eq_none (by simp), List.getElem?_eq_none (Nat.le_refl _)]
  · rw [if_pos h1, List.getElem?_append_left h1, if_neg]
    rintro ⟨h4, h5⟩
    rw [h4] at h3
    omega
/-- what the map of runes holds, of m and of the first of those of one more -/
def rnV (m : List OpD) (o : OpD) (j : Nat) (e : El) : Option Value := if e.s = o.site ∧ e.q = o.seq ∧ 0 ≤ e.i ∧ e.i < (j : Int) then ((rns o.text)[e.i.toNat]?).map (Value.int .i32) else (rnP m e).map (Value.int .i32)
def rnM (m : List OpD) (e : El) : Option Value := (rnP m e).map (Value.int .i32)
theorem rnM_nil : rnM [] = fun _ => none := by funext e; simp [rnM, rnP]
theorem rnV_zero (m : List OpD) (o : OpD) : rnV m o 0 = rnM m := by
  funext e
  unfold rnV rnM
  rw [if_neg (by omega)]
theorem rnV_put (m : List OpD) (o : OpD) (j : Nat) {r : Int} (hr : (rns o.text)[j]? = some r) : rnV m o (j + 1) = fun e => if e = ⟨o.site, o.seq, (j : Int)⟩ then some (.int .i32 r) else rnV m o j e := by
  funext e
  unfold rnV
  by_cases h : e = ⟨o.site, o.seq, (j : Int)⟩
  · subst h
    rw [if_pos rfl, if_pos ⟨rfl, rfl, by simp only; omega, by simp only; omega⟩]
    simp [hr]
  · rw [if_neg h]
    by_cases h1 : e.s = o.site ∧ e.q = o.seq ∧ 0 ≤ e.i ∧ e.i < (j : Int)
    · rw [if_pos h1, if_pos ⟨h1.1, h1.2.1, h1.2.2.1, by omega⟩]
    · rw [if_neg h1, if_neg]
      rintro ⟨a, b, c, d⟩
      have hj : e.i = (j : Int) := by
        have : ¬ e.i < (j : Int) := fun hh => h1 ⟨a, b, c, hh⟩
        omega
      refine h ?_
      cases e
      simp only at a b hj
      rw [a, b, hj]
theorem rnV_end {m : List OpD} (h : NInv m) {o : OpD} (hseq : o.seq = cnt m o.site + 1) : rnV m o (rns o.text).length = rnM (m ++ [o]) := by
  funext e
  unfold rnV rnM
  rw [rnP_snoc h hseq]
  by_cases hn : e.s = o.site ∧ e.q = o.seq
  · rw [if_pos hn]
    have hno : rnP m e = none := by
      unfold rnP
      rcases h e.s e.q with ⟨h1, _⟩ | ⟨p, h1, h2, h3, _⟩
      · rw [h1, List.getElem?_eq_none (Nat.le_refl _)]
      · rw [hn.1, hn.2] at h3; omega
    by_cases hi : 0 ≤ e.i
    · have hro : rnO o e = (rns o.text)[e.i.toNat]? := by unfold rnO; rw [if_pos ⟨hn.1, hn.2, hi⟩]
      rw [hro]
      by_cases hj : e.i < ((rns o.text).length : Int)
      · rw [if_pos ⟨hn.1, hn.2, hi, hj⟩]
      · rw [if_neg (fun h => hj h.2.2.2), List.getElem?_eq_none (by omega), hno]
    · have hro : rnO o e = none := by unfold rnO; rw [if_neg (fun h => hi h.2.2)]
      rw [hro, if_neg (fun h => hi h.2.2.1), hno]
  · rw [if_neg hn, if_neg (fun h => hn ⟨h.1, h.2.1⟩)]
/-- the runes of what is visible, and their text -/
def rnE (l : List OpD) (e : El) : Int := (rnP l e).getD 0
def visR (l : List OpD) : List Int := (visE l).map (rnE l)
def docT (l : List OpD) : List UInt8 := Go.Proofs.YthnedehihbploaaGreatDoor.mk (visR l)
theorem visE_le {l : List OpD} (h : okRow l) : (visE l).length ≤ 200 := by
  have h1 := (row_inv h l.length (Nat.le_refl _)).len
  have h2 := row_tot h
  rw [List.take_length] at h1
  have h3 : (visE l).length ≤ (ordE l).length := List.length_filter_le _ _
  unfold ordE at h3
  rw [List.length_map] at h3
  omega
/-- what is written is an edit's, and has its rune -/
theorem ord_edit {l : List OpD} (h : okRow l) {e : El} (he : e ∈ ordE l) : ∃ (hk : fk l e.s e.q < l.length), l[fk l e.s e.q].kind = 1 ∧ okT l[fk l e.s e.q].text = true ∧ 0 ≤ e.i ∧ e.i < ((rns l[fk l e.s e.q].text).length : Int) ∧ e.begin = false := by
  have hinv := row_inv h l.length (Nat.le_refl _)
  have hn := row_names h l.length (Nat.le_refl _)
  rw [List.take_length] at hinv hn
  unfold ordE at he
  obtain ⟨u, hu, rfl⟩ := List.mem_map.1 he
  obtain ⟨i, hi⟩ := List.mem_iff_getElem?.1 hu
  obtain ⟨h0, c, hc, hlt⟩ := (hinv.mem u.nd.e).1 ⟨i, u, hi, rfl⟩
  have hk1 := hinv.edk _ _ hc
  have hb : u.nd.e.begin = false := by
    cases hbb : u.nd.e.begin with
    | false => rfl
    | true =>
      rw [(begin_iff _).1 hbb] at hk1
      simp only [El.w, B0] at hk1
      omega
  rcases hn u.nd.e.s u.nd.e.q with ⟨_, h2⟩ | ⟨p, h1, h2, h3, h4, ⟨hk, h5⟩ | ⟨_, h5, _⟩⟩
  · unfold El.w at hc
    rw [h2] at hc
    cases hc
  · refine ⟨h1, ?_⟩
    have hp : l[fk l u.nd.e.s u.nd.e.q] = p := by
      rw [List.getElem?_eq_getElem h1] at h2
      exact Option.some.inj h2
    rw [hp]
    have ho := (okOp_text h4).1
    refine ⟨hk, ho, h0, ?_, hb⟩
    unfold El.w at hc
    rw [h5] at hc
    simp only [Option.some.injEq] at hc
    unfold nR at hc
    rw [if_pos ho] at hc
    omega
  · unfold El.w at hc
    rw [h5] at hc
    cases hc
theorem rnP_ord {l : List OpD} (h : okRow l) {e : El} (he : e ∈ ordE l) : ∃ r, rnP l e = some r ∧ okR r = true := by
  obtain ⟨h1, _, h3, h4, h5, _⟩ := ord_edit h he
  have hlt : e.i.toNat < (rns l[fk l e.s e.q].text).length := by omega
  refine ⟨(rns l[fk l e.s e.q].text)[e.i.toNat], ?_, ?_⟩
  · unfold rnP
    rw [List.getElem?_eq_getElem h1]
    simp only
    rw [if_pos h4, List.getElem?_eq_getElem hlt]
  · unfold okT at h3
    rw [List.all_eq_true] at h3
    exact h3 _ (List.getElem_mem hlt)
theorem visE_ord {l : List OpD} {e : El} (h : e ∈ visE l) : e ∈ ordE l := (List.mem_filter.1 h).1
theorem visR_ok {l : List OpD} (h : okRow l) : ∀ r ∈ visR l, okR r = true := by
  intro r hr
  unfold visR at hr
  obtain ⟨e, he, rfl⟩ := List.mem_map.1 hr
  obtain ⟨r, h1, h2⟩ := rnP_ord h (visE_ord he)
  unfold rnE
  rw [h1]
  exact h2
theorem visR_len (l : List OpD) : (visR l).length = (visE l).length := by simp [visR]
/-- a toggle takes nothing away -/
theorem toggle_gone {o : OpD} (h : okOp o = true) (hk : o.kind = 2) : o.gone = [] := by
  unfold okOp at h
  rw [Bool.and_eq_true, if_neg (by omega), if_pos hk] at h
  have h2 := h.2
  unfold okToggle at h2
  simp only [Bool.and_eq_true] at h2
  exact List.eq_nil_of_length_eq_zero (of_decide_eq_true h2.2.2.1)
/-- the page's own: what an op takes away while it is at work -/
def wks (l : List OpD) (o : OpD) : Bool := decide (o.kind = 1) && evn l o.site o.seq
theorem row_ok {l : List OpD} (h : okRow l) : ∀ o ∈ l, okOp o = true := by
  intro o ho
  obtain ⟨k, hk, rfl⟩ := List.getElem_of_mem ho
  exact (tk_goes (h k hk)).1
theorem goneE_works {l : List OpD} (h : okRow l) (e : El) : goneE l l e = l.any (fun o => wks l o && decide (e ∈ o.gone)) := by
  have hall := row_ok h
  unfold goneE
  rw [Bool.eq_iff_iff, List.any_eq_true, List.any_eq_true]
  constructor
  · rintro ⟨o, ho, h2⟩
    refine ⟨o, ho, ?_⟩
    rcases okOp_kind (hall o ho) with hk | hk
    · unfold wks
      rw [decide_eq_true hk, Bool.true_and]
      exact h2
    · rw [toggle_gone (hall o ho) hk] at h2
      simp at h2
  · rintro ⟨o, ho, h2⟩
    refine ⟨o, ho, ?_⟩
    unfold wks at h2
    simp only [Bool.and_eq_true] at h2 ⊢
    exact ⟨h2.1.2, h2.2⟩
end Go.Proofs.YthnedehihbploaaGreatDoor
