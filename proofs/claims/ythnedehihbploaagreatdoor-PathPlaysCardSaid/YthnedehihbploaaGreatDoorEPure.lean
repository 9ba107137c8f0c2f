/- With an op more: what stays, and where what it writes stands. Pure. -/
import Derived.Test.YthnedehihbploaaGreatDoorVEq
import Derived.Test.YthnedehihbploaaGreatDoorTTake
import Derived.Test.YthnedehihbploaaGreatDoorDPure
namespace Go.Proofs.YthnedehihbploaaGreatDoor
open Go.RowKit Go.Lib

theorem blkE (o : OpD) (i : Nat) : (blk o i).map (fun u => u.nd.e) = mine o.site o.seq (nR o.text) := by
  simp [blk, mine, Function.comp_def]
theorem ordE_snoc (l : List OpD) (o : OpD) : ordE (l ++ [o]) = (ordE l).take (pos (ordT l) o.after) ++ mine o.site o.seq (nR o.text) ++ (ordE l).drop (pos (ordT l) o.after) := by
  unfold ordE
  rw [ordT_snoc]
  unfold lay
  rw [List.map_append, List.map_append, blkE, List.map_take, List.map_drop]
theorem ordE_length (l : List OpD) (o : OpD) : (ordE (l ++ [o])).length = (ordE l).length + nR o.text := by
  rw [ordE_snoc, List.length_append, List.length_append, List.length_take, List.length_drop, mine_length]
  omega
theorem ordE_mem {l : List OpD} (e : El) : e ∈ ordE l ↔ ∃ (i : Nat) (u : Tn), (ordT l)[i]? = some u ∧ u.nd.e = e := by
  unfold ordE
  rw [List.mem_map]
  constructor
  · rintro ⟨u, hu, rfl⟩
    obtain ⟨i, hi⟩ := List.mem_iff_getElem?.1 hu
    exact ⟨i, u, hi, rfl⟩
  · rintro ⟨i, u, hi, rfl⟩
    exact ⟨u, List.mem_of_getElem? hi, rfl⟩
/-- the new ones are none of the old -/
theorem mine_new {l : List OpD} (h : RInv l) {o : OpD} (ht : tk l o = true) : ∀ e ∈ mine o.site o.seq (nR o.text), e ∉ ordE l := by
  intro e he hm
  unfold tk at ht
  simp only [Bool.and_eq_true, decide_eq_true_eq] at ht
  obtain ⟨_, hseq, _⟩ := ht
  obtain ⟨h1, c, h2, _⟩ := (h.mem e).1 ((ordE_mem e).1 hm)
  have h3 := h.edk _ _ h2
  unfold mine at he
  obtain ⟨j, hj, rfl⟩ := List.mem_map.1 he
  unfold El.w at h3
  simp only at h3
  omega
theorem stays_filter {l : List OpD} (h : RInv l) {o : OpD} (ht : tk l o = true) : (ordE (l ++ [o])).filter (fun e => decide (e ∈ ordE l)) = ordE l := by
  have hn := mine_new h ht
  rw [ordE_snoc, List.filter_append, List.filter_append]
  have h1 : ∀ (L : List El), (∀ e ∈ L, e ∈ ordE l) → L.filter (fun e => decide (e ∈ ordE l)) = L := fun L hL => List.filter_eq_self.2 (fun e he => by simpa using hL e he)
  have h2 : (mine o.site o.seq (nR o.text)).filter (fun e => decide (e ∈ ordE l)) = [] := List.filter_eq_nil_iff.2 (fun e he => by simpa using hn e he)
  rw [h1 _ (fun e he => List.mem_of_mem_take he), h1 _ (fun e he => List.mem_of_mem_drop he), h2, List.append_nil, List.take_append_drop]
theorem after_in {l : List OpD} (h : RInv l) {o : OpD} (ht : tk l o = true) (hb : o.after ≠ B0) : o.after ∈ ordE l := by
  unfold tk at ht
  simp only [Bool.and_eq_true, decide_eq_true_eq] at ht
  obtain ⟨hok, _, _, _, haft, _⟩ := ht
  have hbf : o.after.begin = false := by
    rcases Bool.eq_false_or_eq_true o.after.begin with e | e
    · exact absurd ((begin_iff _).1 e) hb
    · exact e
  rw [hbf, Bool.false_or] at haft
  have h2 := of_decide_eq_true haft
  have h3 := ok_parts (after_ok hok) hbf
  refine (ordE_mem _).2 ((h.mem o.after).2 ?_)
  cases hc : ed l o.after.w with
  | none => rw [hc] at h2; simp at h2; omega
  | some c => rw [hc] at h2; exact ⟨h3.2.2.2.2.1, c, rfl, by simpa using h2⟩
theorem findIdx_map {D : List Tn} (e : El) : (D.map (fun u => u.nd.e)).findIdx (fun x => decide (x = e)) = D.findIdx (fun t => decide (t.nd.e = e)) := by
  induction D with
  | nil => rfl
  | cons t D ih => simp [List.findIdx_cons, ih]
/-- where what was written behind is, in the new order -/
theorem after_at {l : List OpD} (h : RInv l) {o : OpD} (ht : tk l o = true) (hb : o.after ≠ B0) : atI (ordE (l ++ [o])) o.after + 1 = (pos (ordT l) o.after : Nat) ∧ 0 < pos (ordT l) o.after ∧ pos (ordT l) o.after ≤ (ordE l).length := by
  have hin := after_in h ht hb
  have hlt : (ordE l).findIdx (fun x => decide (x = o.after)) < (ordE l).length := List.findIdx_lt_length_of_exists ⟨_, hin, by simp⟩
  have hp : pos (ordT l) o.after = (ordE l).findIdx (fun x => decide (x = o.after)) + 1 := by
    unfold pos
    rw [if_neg hb]
    congr 1
    exact (findIdx_map o.after).symm
  have hX : o.after ∈ ordE (l ++ [o]) := by
    have := stays_filter h ht
    rw [← this] at hin
    exact (List.mem_filter.1 hin).1
  refine ⟨?_, by omega, by omega⟩
  unfold atI
  rw [if_pos hX, hp]
  have : (ordE (l ++ [o])).findIdx (fun x => decide (x = o.after)) = (ordE l).findIdx (fun x => decide (x = o.after)) := by
    rw [ordE_snoc, hp, List.append_assoc, List.findIdx_append]
    have h1 : ((ordE l).take ((ordE l).findIdx (fun x => decide (x = o.after)) + 1)).findIdx (fun x => decide (x = o.after)) = (ordE l).findIdx (fun x => decide (x = o.after)) := by
      rw [List.findIdx_eq (by rw [List.length_take]; omega)]
      refine ⟨?_, fun j hj => ?_⟩
      · rw [List.getElem_take]
        exact List.findIdx_getElem (w := hlt)
      · rw [List.getElem_take]
        exact List.not_of_lt_findIdx hj |> fun h => by simpa using h
    rw [h1, if_pos (by rw [List.length_take]; omega)]
  rw [this]
  omega
theorem new_at {l : List OpD} {o : OpD} (hp : pos (ordT l) o.after ≤ (ordE l).length) {k : Nat} (hk : k < nR o.text) : (ordE (l ++ [o]))[pos (ordT l) o.after + k]? = some ⟨o.site, o.seq, (k : Int)⟩ := by
  have hl : ((ordE l).take (pos (ordT l) o.after)).length = pos (ordT l) o.after := by rw [List.length_take]; omega
  rw [ordE_snoc, List.append_assoc, List.getElem?_append_right (by omega), hl, List.getElem?_append_left (by rw [mine_length]; omega)]
  rw [show pos (ordT l) o.after + k - pos (ordT l) o.after = k from by omega]
  rw [List.getElem?_eq_getElem (by rw [mine_length]; exact hk), mine_get]
end Go.Proofs.YthnedehihbploaaGreatDoor
/- What is visible of a row with an edit more. Pure. -/
namespace Go.Proofs.YthnedehihbploaaGreatDoor
open Go.RowKit Go.Lib

theorem erow_nm {l : List OpD} (h : okRow l) : NInv l := by
  have := row_names h l.length (Nat.le_refl _)
  rwa [List.take_length] at this
theorem erow_cv {l : List OpD} (h : okRow l) : CInv l := by
  have := row_ct h l.length (Nat.le_refl _)
  rwa [List.take_length] at this
theorem erow_inv {l : List OpD} (h : okRow l) : RInv l := by
  have := row_inv h l.length (Nat.le_refl _)
  rwa [List.take_length] at this
theorem eRow_snoc {l : List OpD} {o : OpD} (h : okRow (l ++ [o])) : okRow l ∧ tk l o = true := by
  refine ⟨?_, ?_⟩
  · have := okRow_take h l.length
    rwa [List.take_left] at this
  · have := h l.length (by simp)
    rw [List.take_left, List.getElem_append_right (Nat.le_refl _)] at this
    simpa using this
theorem ordE_apart {l : List OpD} (h : okRow l) : (ordE l).Pairwise (fun a b => a ≠ b) := by
  have hi := (erow_inv h).ord
  unfold ordE
  rw [List.pairwise_map, List.pairwise_iff_getElem]
  intro i j hi' hj' hij he
  have := hi.nodup i j _ _ (List.getElem?_eq_getElem hi') (List.getElem?_eq_getElem hj') he
  omega
theorem visE_apart {l : List OpD} (h : okRow l) : (visE l).Pairwise (fun a b => a ≠ b) := List.Pairwise.filter _ (ordE_apart h)
/-- what goes is written -/
theorem gone_ord {l : List OpD} (h : okRow l) {o : OpD} (ht : tk l o = true) {e : El} (he : e ∈ o.gone) : e ∈ ordE l := by
  unfold tk at ht
  simp only [Bool.and_eq_true, decide_eq_true_eq] at ht
  obtain ⟨hok, _, _, hg, _⟩ := ht
  rw [List.all_eq_true] at hg
  have h2 := of_decide_eq_true (hg e he)
  have hp : 0 ≤ e.i := by
    cases hb : e.begin with
    | true => rw [(begin_iff _).1 hb]; exact Int.le_refl 0
    | false => exact (ok_parts ((gone_ok hok).2 e he) hb).2.2.2.2.1
  refine (ordE_mem _).2 (((erow_inv h).mem e).2 ?_)
  cases hc : ed l e.w with
  | none => rw [hc] at h2; simp at h2; omega
  | some c => rw [hc] at h2; exact ⟨hp, c, rfl, by simpa using h2⟩
theorem ord_more {l : List OpD} (o : OpD) {e : El} (he : e ∈ ordE l) : e ∈ ordE (l ++ [o]) := by
  rw [ordE_snoc, List.mem_append, List.mem_append]
  rw [← List.take_append_drop (pos (ordT l) o.after) (ordE l), List.mem_append] at he
  rcases he with he | he
  · exact .inl (.inl he)
  · exact .inr he
theorem ord_take (l : List OpD) (k : Nat) {e : El} (he : e ∈ ordE (l.take k)) (j : Nat) : e ∈ ordE (l.take (k + j)) := by
  induction j with
  | zero => exact he
  | succ j ih =>
    by_cases hl : k + j < l.length
    · rw [show k + (j + 1) = k + j + 1 from by omega, List.take_succ_eq_append_getElem hl]
      exact ord_more _ ih
    · rw [List.take_of_length_le (by omega)] at ih
      rw [List.take_of_length_le (by omega)]
      exact ih
theorem ordE_take (l : List OpD) (k : Nat) {e : El} (he : e ∈ ordE (l.take k)) : e ∈ ordE l := by
  have := ord_take l k he l.length
  rwa [List.take_of_length_le (by omega)] at this
theorem goneE_ord {l : List OpD} (h : okRow l) {e : El} (he : goneE l l e = true) : e ∈ ordE l := by
  unfold goneE at he
  rw [List.any_eq_true] at he
  obtain ⟨o, ho, h2⟩ := he
  rw [Bool.and_eq_true] at h2
  obtain ⟨k, hk, rfl⟩ := List.getElem_of_mem ho
  exact ordE_take l k (gone_ord (okRow_take h k) (h k hk) (of_decide_eq_true h2.2))
/-- which elements are visible, with an edit more -/
theorem vis_old {l : List OpD} (h : okRow l) {o : OpD} (ht : tk l o = true) (hk : o.kind = 1) (e : El) : vis (l ++ [o]) e = (vis l e && !decide (e ∈ o.gone)) := by
  have hct : ∀ s q, ct (l ++ [o]) s q = ct l s q := ct_edit hk
  have hev : ∀ s q, evn (l ++ [o]) s q = evn l s q := fun s q => by unfold evn; rw [hct]
  have hgo : ∀ m e, goneE (l ++ [o]) m e = goneE l m e := fun m e => by
    unfold goneE
    congr 1
    funext p
    rw [hev]
  have hown : evn l o.site o.seq = true := by
    have h0 : ct l o.site o.seq = 0 := by
      refine (erow_cv h).1 _ _ ?_
      cases hn : hasN l ⟨o.site, o.seq, 0⟩ with
      | false => rfl
      | true =>
        have h1 := ((erow_cv h).2 _ hn).2.2.2.2
        have h2 := (tk_goes ht).2
        simp only at h1
        omega
    unfold evn
    rw [h0]
    rfl
  unfold vis
  rw [hev, hgo, goneE_snoc, hown, Bool.true_and, Bool.not_or, Bool.and_assoc]
theorem vis_new {l : List OpD} (h : okRow l) {o : OpD} (ht : tk l o = true) (hk : o.kind = 1) {e : El} (he : e ∈ mine o.site o.seq (nR o.text)) : vis (l ++ [o]) e = true := by
  have hn := mine_new (erow_inv h) ht e he
  rw [vis_old h ht hk]
  have h1 : decide (e ∈ o.gone) = false := decide_eq_false (fun hg => hn (gone_ord h ht hg))
  have h2 : goneE l l e = false := by
    cases hg : goneE l l e with
    | false => rfl
    | true => exact absurd (goneE_ord h hg) hn
  rw [h1]
  unfold vis
  rw [h2]
  unfold mine at he
  obtain ⟨j, hj, rfl⟩ := List.mem_map.1 he
  have h0 : ct l o.site o.seq = 0 := by
    refine (erow_cv h).1 _ _ ?_
    cases hn : hasN l ⟨o.site, o.seq, 0⟩ with
    | false => rfl
    | true =>
      have h1 := ((erow_cv h).2 _ hn).2.2.2.2
      have h2 := (tk_goes ht).2
      simp only at h1
      omega
  simp only
  unfold evn
  rw [h0]
  rfl
/-- the visible elements ahead of where an edit writes, and those behind -/
def visA (l : List OpD) (o : OpD) : List El := ((ordE l).take (pos (ordT l) o.after)).filter (vis l)
def visB (l : List OpD) (o : OpD) : List El := ((ordE l).drop (pos (ordT l) o.after)).filter (vis l)
theorem vis_parts (l : List OpD) (o : OpD) : visE l = visA l o ++ visB l o := by
  unfold visA visB visE
  rw [← List.filter_append, List.take_append_drop]
theorem visE_snoc {l : List OpD} (h : okRow l) {o : OpD} (ht : tk l o = true) (hk : o.kind = 1) :
    visE (l ++ [o]) = (visA l o).filter (fun e => !decide (e ∈ o.gone)) ++ mine o.site o.seq (nR o.text) ++ (visB l o).filter (fun e => !decide (e ∈ o.gone)) := by
  have hf : ∀ L : List El, L.filter (vis (l ++ [o])) = (L.filter (vis l)).filter (fun e => !decide (e ∈ o.gone)) := fun L => by
    rw [List.filter_filter]
    apply List.filter_congr
    intro e _
    rw [vis_old h ht hk, Bool.and_comm]
  unfold visE visA visB
  have hm : (mine o.site o.seq (nR o.text)).filter (vis (l ++ [o])) = mine o.site o.seq (nR o.text) := List.filter_eq_self.2 (fun e he => vis_new h ht hk he)
  rw [ordE_snoc, List.filter_append, List.filter_append, hm, hf, hf]
/-- how many are visible -/
theorem visE_more {l : List OpD} (h : okRow l) {o : OpD} (ht : tk l o = true) (hk : o.kind = 1) :
    (visE (l ++ [o])).length = ((visE l).filter (fun e => !decide (e ∈ o.gone))).length + nR o.text := by
  rw [visE_snoc h ht hk, vis_parts l o, List.filter_append, List.length_append, List.length_append, List.length_append, mine_length]
  omega
theorem filter_one {L : List El} (h : L.Pairwise (fun a b => a ≠ b)) {g : El} (hg : g ∈ L) : (L.filter (fun e => !decide (e ∈ [g]))).length + 1 = L.length := by
  induction L with
  | nil => cases hg
  | cons x L ih =>
    rw [List.pairwise_cons] at h
    by_cases hx : x = g
    · subst hx
      have h1 : L.filter (fun e => !decide (e ∈ [x])) = L := List.filter_eq_self.2 (fun e he => by
        have := h.1 e he
        simp
        exact fun h2 => this h2.symm)
      rw [List.filter_cons]
      simp only [List.mem_singleton, decide_true, Bool.not_true, Bool.false_eq_true, if_false]
      have h2 : L.filter (fun e => !decide (e = x)) = L := by
        have h3 : (fun e : El => !decide (e ∈ [x])) = (fun e : El => !decide (e = x)) := by
          funext e
          simp
        rw [← h3]
        exact h1
      rw [h2]
      simp
    · have hm : g ∈ L := by
        rcases List.mem_cons.1 hg with e | e
        · exact absurd e.symm hx
        · exact e
      have := ih h.2 hm
      rw [List.filter_cons]
      simp only [List.mem_singleton, hx, decide_false, Bool.not_false, if_true, List.length_cons] at this ⊢
      omega
/-- side by side, and seen, they are side by side in what is seen -/
theorem at_filter {L : List El} {p : El → Bool} (h : L.Pairwise (fun a b => a ≠ b)) {F R : List El} {a b : El} (hL : L = F ++ a :: b :: R) (ha : p a = true) (hb : p b = true) : 0 ≤ atI (L.filter p) a ∧ atI (L.filter p) b = atI (L.filter p) a + 1 := by
  subst hL
  rw [List.filter_append, List.filter_cons, if_pos ha, List.filter_cons, if_pos hb]
  have h2 := h
  rw [List.pairwise_append, List.pairwise_cons, List.pairwise_cons] at h2
  obtain ⟨_, ⟨hab, _, _⟩, hF⟩ := h2
  have hFa : ∀ x ∈ F.filter p, x ≠ a := fun x hx => hF x (List.mem_filter.1 hx).1 a (by simp)
  have hFb : ∀ x ∈ F.filter p, x ≠ b := fun x hx => hF x (List.mem_filter.1 hx).1 b (by simp)
  generalize F.filter p = G at *
  generalize R.filter p = Q at *
  have hia : (G ++ a :: b :: Q).findIdx (fun x => decide (x = a)) = G.length := by
    rw [List.findIdx_append]
    have : G.findIdx (fun x => decide (x = a)) = G.length := List.findIdx_eq_length.2 (fun x hx => by simpa using hFa x hx)
    rw [this, if_neg (Nat.lt_irrefl _), List.findIdx_cons]
    simp
  have hib : (G ++ a :: b :: Q).findIdx (fun x => decide (x = b)) = G.length + 1 := by
    rw [List.findIdx_append]
    have : G.findIdx (fun x => decide (x = b)) = G.length := List.findIdx_eq_length.2 (fun x hx => by simpa using hFb x hx)
    rw [this, if_neg (Nat.lt_irrefl _), List.findIdx_cons, List.findIdx_cons]
    have hne : ¬ a = b := hab b (by simp)
    simp [hne]
    omega
  unfold atI
  rw [if_pos (by simp), if_pos (by simp), hia, hib]
  omega
end Go.Proofs.YthnedehihbploaaGreatDoor
/- Two edits of one row, one behind the other: what each writes stands whole, side by side. Pure. -/
namespace Go.Proofs.YthnedehihbploaaGreatDoor
open Go.RowKit Go.Lib

theorem mine_two (s q : Int) : mine s q 2 = [⟨s, q, 0⟩, ⟨s, q, 1⟩] := rfl
theorem race_split {l : List OpD} {a b : OpD} (h : okRow (l ++ [a] ++ [b])) (hb : tk l b = true) (na : nR a.text = 2) : ∃ F R, ordE (l ++ [a] ++ [b]) = F ++ ⟨a.site, a.seq, 0⟩ :: ⟨a.site, a.seq, 1⟩ :: R := by
  obtain ⟨h1, ht2⟩ := eRow_snoc h
  obtain ⟨h0, ht1⟩ := eRow_snoc h1
  have hO1 := ordE_snoc l a
  rw [na, mine_two] at hO1
  have hO2 := ordE_snoc (l ++ [a]) b
  obtain ⟨p, hp⟩ : ∃ p, pos (ordT (l ++ [a])) b.after = p := ⟨_, rfl⟩
  rw [hp] at hO2
  have hnew := mine_new (erow_inv h0) ht1 ⟨a.site, a.seq, 0⟩ (by rw [na, mine_two]; simp)
  obtain ⟨F, hF⟩ : ∃ F, (ordE l).take (pos (ordT l) a.after) = F := ⟨_, rfl⟩
  obtain ⟨R, hR⟩ : ∃ R, (ordE l).drop (pos (ordT l) a.after) = R := ⟨_, rfl⟩
  rw [hF, hR, List.append_assoc] at hO1
  simp only [List.cons_append, List.nil_append] at hO1
  have hne : p ≠ F.length + 1 := by
    intro he
    by_cases hB : b.after = B0
    · rw [← hp] at he
      unfold pos at he
      rw [if_pos hB] at he
      omega
    · have hin := after_in (erow_inv h0) hb hB
      have h2 : (ordE (l ++ [a])).findIdx (fun x => decide (x = b.after)) = F.length := by
        have h3 : pos (ordT (l ++ [a])) b.after = (ordE (l ++ [a])).findIdx (fun x => decide (x = b.after)) + 1 := by
          unfold pos
          rw [if_neg hB]
          congr 1
          exact (findIdx_map b.after).symm
        omega
      have hlt : (ordE (l ++ [a])).findIdx (fun x => decide (x = b.after)) < (ordE (l ++ [a])).length := by
        rw [h2, hO1]
        simp
      have h4 := List.findIdx_getElem (w := hlt)
      have h5 : (ordE (l ++ [a]))[(ordE (l ++ [a])).findIdx (fun x => decide (x = b.after))]'hlt = ⟨a.site, a.seq, 0⟩ := by
        have h6 : (ordE (l ++ [a]))[(ordE (l ++ [a])).findIdx (fun x => decide (x = b.after))]? = some ⟨a.site, a.seq, 0⟩ := by
          rw [h2, hO1, List.getElem?_append_right (Nat.le_refl _), Nat.sub_self]
          rfl
        rw [List.getElem?_eq_getElem hlt] at h6
        exact Option.some.inj h6
      rw [h5] at h4
      rw [of_decide_eq_true h4] at hnew
      exact hnew hin
  rw [hO1] at hO2
  by_cases hle : p ≤ F.length
  · rw [List.take_append_of_le_length hle, List.drop_append_of_le_length hle] at hO2
    exact ⟨F.take p ++ mine b.site b.seq (nR b.text) ++ F.drop p, R, by rw [hO2]; simp⟩
  · obtain ⟨k, rfl⟩ : ∃ k, p = F.length + (k + 2) := ⟨p - F.length - 2, by omega⟩
    rw [List.take_length_add_append, List.drop_length_add_append] at hO2
    exact ⟨F, R.take k ++ mine b.site b.seq (nR b.text) ++ R.drop k, by rw [hO2]; simp⟩
/-- what each wrote stands whole, side by side -/
theorem race_at {l : List OpD} {a b : OpD} (h : okRow (l ++ [a] ++ [b])) (hb : tk l b = true) (ka : a.kind = 1) (kb : b.kind = 1) (na : nR a.text = 2) (nb : nR b.text = 2) :
    (0 ≤ atI (visE (l ++ [a] ++ [b])) ⟨a.site, a.seq, 0⟩ ∧ atI (visE (l ++ [a] ++ [b])) ⟨a.site, a.seq, 1⟩ = atI (visE (l ++ [a] ++ [b])) ⟨a.site, a.seq, 0⟩ + 1) ∧
    (0 ≤ atI (visE (l ++ [a] ++ [b])) ⟨b.site, b.seq, 0⟩ ∧ atI (visE (l ++ [a] ++ [b])) ⟨b.site, b.seq, 1⟩ = atI (visE (l ++ [a] ++ [b])) ⟨b.site, b.seq, 0⟩ + 1) := by
  obtain ⟨h1, ht2⟩ := eRow_snoc h
  obtain ⟨h0, ht1⟩ := eRow_snoc h1
  have hva : ∀ e ∈ mine a.site a.seq 2, vis (l ++ [a] ++ [b]) e = true := by
    intro e he
    rw [← na] at he
    rw [vis_old h1 ht2 kb, vis_new h0 ht1 ka he, decide_eq_false (fun hg => mine_new (erow_inv h0) ht1 e he (gone_ord h0 hb hg))]
    rfl
  have hvb : ∀ e ∈ mine b.site b.seq 2, vis (l ++ [a] ++ [b]) e = true := fun e he => vis_new h1 ht2 kb (by rw [nb]; exact he)
  rw [mine_two] at hva hvb
  constructor
  · obtain ⟨F, R, hO⟩ := race_split h hb na
    exact at_filter (ordE_apart h) hO (hva _ (by simp)) (hva _ (by simp))
  · have hO := ordE_snoc (l ++ [a]) b
    rw [nb, mine_two, List.append_assoc (List.take _ _)] at hO
    exact at_filter (ordE_apart h) hO (hvb _ (by simp)) (hvb _ (by simp))
/-- how many are visible behind both -/
theorem race_len {l : List OpD} {a b : OpD} (hx : okRow (l ++ [a] ++ [b])) (hy : okRow (l ++ [b] ++ [a])) (ka : a.kind = 1) (kb : b.kind = 1) (na : nR a.text = 2) (nb : nR b.text = 2) (hb : b.gone = []) (ha : a.gone = [] ∨ ∃ g, a.gone = [g] ∧ g ∈ visE l) :
    (visE (l ++ [a] ++ [b])).length + a.gone.length = (visE l).length + 4 ∧ (visE (l ++ [b] ++ [a])).length + a.gone.length = (visE l).length + 4 := by
  obtain ⟨hx1, htx2⟩ := eRow_snoc hx
  obtain ⟨h0, htx1⟩ := eRow_snoc hx1
  obtain ⟨hy1, hty2⟩ := eRow_snoc hy
  obtain ⟨_, hty1⟩ := eRow_snoc hy1
  have hself : ∀ L : List El, L.filter (fun e => !decide (e ∈ ([] : List El))) = L := fun L => List.filter_eq_self.2 (fun e _ => by simp)
  have e1 := visE_more hx1 htx2 kb
  have e2 := visE_more h0 htx1 ka
  have e3 := visE_more hy1 hty2 ka
  have e4 := visE_more h0 hty1 kb
  rw [hb, hself, nb] at e1 e4
  rw [na] at e2 e3
  rcases ha with ha | ⟨g, ha, hg⟩
  · rw [ha, hself] at e2 e3
    rw [ha]
    simp only [List.length_nil]
    omega
  · rw [ha] at e2 e3
    have f2 := filter_one (visE_apart h0) hg
    have hg2 : g ∈ visE (l ++ [b]) := by
      rw [vis_parts l b, List.mem_append] at hg
      rw [visE_snoc h0 hty1 kb, hb, hself, hself, List.mem_append, List.mem_append]
      rcases hg with hg | hg
      · exact .inl (.inl hg)
      · exact .inr hg
    have f3 := filter_one (visE_apart hy1) hg2
    rw [ha]
    simp only [List.length_cons, List.length_nil]
    omega
end Go.Proofs.YthnedehihbploaaGreatDoor
