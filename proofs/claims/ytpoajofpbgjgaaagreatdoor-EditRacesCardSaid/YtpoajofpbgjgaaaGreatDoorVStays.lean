/- With an op more: what stays, and where what it writes stands. Pure. -/
import Derived.Test.YtpoajofpbgjgaaaGreatDoorVEq
import Derived.Test.YtpoajofpbgjgaaaGreatDoorTTake
namespace Go.Proofs.YtpoajofpbgjgaaaGreatDoor
open Go.RowKit Go.Lib

theorem blkE (o : OpD) (i : Nat) : (blk o i).map (fun u => u.nd.e) = mine o.site o.seq (nR o.text) := by
  simp [blk, mine, Function.comp_def]
theorem ordE_snoc (l : List OpD) (o : OpD) : ordE (l ++ [o]) = (ordE l).take (pos (ordT l) o.after) ++ mine o.site o.seq (nR o.text) ++ (ordE l).drop (pos (ordT l) o.after) := by
  unfold ordE
  rw [ordT_snoc]
  unfold lay
  rw [List.map_append, List.map_append, blkE, List.map_take, List.map_drop]
theorem ordE_length (l : List OpD) (o : OpD) : (ordE (l ++ [o])).length = (ordE l).length + nR o.text := by
  rw [ordE_snoc, List.length_append, List.length_append, List.length_take, List.length_drop, mine_length]
  omega
theorem ordE_mem {l : List OpD} (e : El) : e ∈ ordE l ↔ ∃ (i : Nat) (u : Tn), (ordT l)[i]? = some u ∧ u.nd.e = e := by
  unfold ordE
  rw [List.mem_map]
  constructor
  · rintro ⟨u, hu, rfl⟩
    obtain ⟨i, hi⟩ := List.mem_iff_getElem?.1 hu
    exact ⟨i, u, hi, rfl⟩
  · rintro ⟨i, u, hi, rfl⟩
    exact ⟨u, List.mem_of_getElem? hi, rfl⟩
/-- the new ones are none of the old -/
theorem mine_new {l : List OpD} (h : RInv l) {o : OpD} (ht : tk l o = true) : ∀ e ∈ mine o.site o.seq (nR o.text), e ∉ ordE l := by
  intro e he hm
  unfold tk at ht
  simp only [Bool.and_eq_true, decide_eq_true_eq] at ht
  obtain ⟨_, hseq, _⟩ := ht
  obtain ⟨h1, c, h2, _⟩ := (h.mem e).1 ((ordE_mem e).1 hm)
  have h3 := h.edk _ _ h2
  unfold mine at he
  obtain ⟨j, hj, rfl⟩ := List.mem_map.1 he
  unfold El.w at h3
  simp only at h3
  omega
theorem stays_filter {l : List OpD} (h : RInv l) {o : OpD} (ht : tk l o = true) : (ordE (l ++ [o])).filter (fun e => decide (e ∈ ordE l)) = ordE l := by
  have hn := mine_new h ht
  rw [ordE_snoc, List.filter_append, List.filter_append]
  have h1 : ∀ (L : List El), (∀ e ∈ L, e ∈ ordE l) → L.filter (fun e => decide (e ∈ ordE l)) = L := fun L hL => List.filter_eq_self.2 (fun e he => by simpa using hL e he)
  have h2 : (mine o.site o.seq (nR o.text)).filter (fun e => decide (e ∈ ordE l)) = [] := List.filter_eq_nil_iff.2 (fun e he => by simpa using hn e he)
  rw [h1 _ (fun e he => List.mem_of_mem_take he), h1 _ (fun e he => List.mem_of_mem_drop he), h2, List.append_nil, List.take_append_drop]
theorem after_in {l : List OpD} (h : RInv l) {o : OpD} (ht : tk l o = true) (hb : o.after ≠ B0) : o.after ∈ ordE l := by
  unfold tk at ht
  simp only [Bool.and_eq_true, decide_eq_true_eq] at ht
  obtain ⟨hok, _, _, _, haft, _⟩ := ht
  have hbf : o.after.begin = false := by
    rcases Bool.eq_false_or_eq_true o.after.begin with e | e
    · exact absurd ((begin_iff _).1 e) hb
    · exact e
  rw [hbf, Bool.false_or] at haft
  have h2 := of_decide_eq_true haft
  have h3 := ok_parts (after_ok hok) hbf
  refine (ordE_mem _).2 ((h.mem o.after).2 ?_)
  cases hc : ed l o.after.w with
  | none => rw [hc] at h2; simp at h2; omega
  | some c => rw [hc] at h2; exact ⟨h3.2.2.2.2.1, c, rfl, by simpa using h2⟩
theorem findIdx_map {D : List Tn} (e : El) : (D.map (fun u => u.nd.e)).findIdx (fun x => decide (x = e)) = D.findIdx (fun t => decide (t.nd.e = e)) := by
  induction D with
  | nil => rfl
  | cons t D ih => simp [List.findIdx_cons, ih]
/-- where what was written behind is, in the new order -/
theorem after_at {l : List OpD} (h : RInv l) {o : OpD} (ht : tk l o = true) (hb : o.after ≠ B0) : atI (ordE (l ++ [o])) o.after + 1 = (pos (ordT l) o.after : Nat) ∧ 0 < pos (ordT l) o.after ∧ pos (ordT l) o.after ≤ (ordE l).length := by
  have hin := after_in h ht hb
  have hlt : (ordE l).findIdx (fun x => decide (x = o.after)) < (ordE l).length := List.findIdx_lt_length_of_exists ⟨_, hin, by simp⟩
  have hp : pos (ordT l) o.after = (ordE l).findIdx (fun x => decide (x = o.after)) + 1 := by
    unfold pos
    rw [if_neg hb]
    congr 1
    exact (findIdx_map o.after).symm
  have hX : o.after ∈ ordE (l ++ [o]) := by
    have := stays_filter h ht
    rw [← this] at hin
    exact (List.mem_filter.1 hin).1
  refine ⟨?_, by omega, by omega⟩
  unfold atI
  rw [if_pos hX, hp]
  have : (ordE (l ++ [o])).findIdx (fun x => decide (x = o.after)) = (ordE l).findIdx (fun x => decide (x = o.after)) := by
    rw [ordE_snoc, hp, List.append_assoc, List.findIdx_append]
    have h1 : ((ordE l).take ((ordE l).findIdx (fun x => decide (x = o.after)) + 1)).findIdx (fun x => decide (x = o.after)) = (ordE l).findIdx (fun x => decide (x = o.after)) := by
      rw [List.findIdx_eq (by rw [List.length_take]; omega)]
      refine ⟨?_, fun j hj => ?_⟩
      · rw [List.getElem_take]
        exact List.findIdx_getElem (w := hlt)
      · rw [List.getElem_take]
        exact List.not_of_lt_findIdx hj |> fun h => by simpa using h
    rw [h1, if_pos (by rw [List.length_take]; omega)]
  rw [this]
  omega
theorem new_at {l : List OpD} {o : OpD} (hp : pos (ordT l) o.after ≤ (ordE l).length) {k : Nat} (hk : k < nR o.text) : (ordE (l ++ [o]))[pos (ordT l) o.after + k]? = some ⟨o.site, o.seq, (k : Int)⟩ := by
  have hl : ((ordE l).take (pos (ordT l) o.after)).length = pos (ordT l) o.after := by rw [List.length_take]; omega
  rw [ordE_snoc, List.append_assoc, List.getElem?_append_right (by omega), hl, List.getElem?_append_left (by rw [mine_length]; omega)]
  rw [show pos (ordT l) o.after + k - pos (ordT l) o.after = k from by omega]
  rw [List.getElem?_eq_getElem (by rw [mine_length]; exact hk), mine_get]
end Go.Proofs.YtpoajofpbgjgaaaGreatDoor
