/- tree.hang: which nodes hang right under each element -/
import Derived.Test.YtbalcamjccfkdaaTGrp
import Derived.Test.YtbalcamjccfkdaaOWeight
namespace Go.Proofs.Ytbalcamjccfkdaa
open Go.RowKit Go.Lib

/-- what the j-th element that o writes hangs under -/
def par (o : OpD) (j : Nat) : El := if j = 0 then o.after else ⟨o.site, o.seq, (j : Int) - 1⟩
theorem par_fit {o : OpD} (h : okOp o = true) {j : Nat} (hj : j < nR o.text) : (par o j).fit := by
  have hn := okOp_name h
  have hn12 := (okOp_text h).2.1
  obtain ⟨_, hao, _⟩ := okOp_writes h (by omega)
  unfold par
  by_cases h0 : j = 0
  · rw [if_pos h0]
    by_cases hb : o.after.begin = true
    · rw [(begin_iff _).1 hb]; exact b0_fit
    · have := ok_parts hao (by simpa using hb)
      unfold El.fit in64
      omega
  · rw [if_neg h0]
    unfold El.fit in64
    simp only
    omega
theorem blk_take {o : OpD} {i j : Nat} (hj : j < nR o.text) : (blk o i).take (j + 1) = (blk o i).take j ++ [⟨⟨⟨o.site, o.seq, j⟩, i⟩, par o j⟩] := by
  rw [List.take_succ_eq_append_getElem (by rw [blk_length]; exact hj)]
  congr 1
  simp [blk, par]
theorem block3 {w : World} {b : Nat} {a c d : Value} {t : TypeId} (h : w.heap[b]? = some (.cells #[a, c, d] t (0, 0))) : w.cell? ⟨b, 0, none⟩ = some a ∧ w.cell? ⟨b, 1, none⟩ = some c ∧ w.cell? ⟨b, 2, none⟩ = some d ∧ (∀ o, w.frozen? ⟨b, o, none⟩ = false) ∧ b < w.heap.size := by
  refine ⟨?_, ?_, ?_, fun o => ?_, (Array.getElem?_eq_some_iff.1 h).1⟩
  all_goals first | (simp [World.cell?, h]; done) | (simp [World.frozen?, h])
theorem set3_block {w : World} {b : Nat} {a c d : Value} {t : TypeId} (h : w.heap[b]? = some (.cells #[a, c, d] t (0, 0))) (x y z : Value) :
    (((w.setCell ⟨b, 0, none⟩ x).setCell ⟨b, 1, none⟩ y).setCell ⟨b, 2, none⟩ z).heap[b]? = some (.cells #[x, y, z] t (0, 0)) := by
  unfold World.setCell
  simp [Array.getElem?_modify, h]
theorem set3_other {w : World} {b k : Nat} (hk : k ≠ b) (x y z : Value) : (((w.setCell ⟨b, 0, none⟩ x).setCell ⟨b, 1, none⟩ y).setCell ⟨b, 2, none⟩ z).heap[k]? = w.heap[k]? := by
  rw [set_other hk, set_other hk, set_other hk]
theorem owns_blk {w w' : World} {base : Nat} {e : TypeId} {size : Nat} {v : Value} {n : Nat} {xs : List Value} (h : w.ownsRow base e size v n xs) (hb : ∀ g, v.ownBlock = some g → w'.heap[g]? = w.heap[g]?) : w'.ownsRow base e size v n xs := by
  refine ⟨h.1, ?_⟩
  rcases h.2 with hn | ⟨g, cap, cur, hv, hg, hh, r⟩
  · exact .inl hn
  · refine .inr ⟨g, cap, cur, hv, hg, ?_, r⟩
    rw [hb g (by rw [hv]; rfl)]
    exact hh
theorem below_set3 {B b : Nat} {w w1 : World} (h : Below B w w1) (hb : B ≤ b) (x y z : Value) : Below B w (((w1.setCell ⟨b, 0, none⟩ x).setCell ⟨b, 1, none⟩ y).setCell ⟨b, 2, none⟩ z) := ((h.setCell hb _).setCell hb _).setCell hb _

/-- behind j elements of the op o at place i -/
structure InSt (A0 : List Tn) (o : OpD) (i base bm pb wb : Nat) (ev : Value) (w wi : World) (j : Nat) : Prop where
  grp : GrpB wi base bm (A0 ++ (blk o i).take j) (fun g => ev.ownBlock = some g ∨ g = pb)
  box : wi.heap[pb]? = some (.cells #[.int .i64 (par o j).s, .int .i64 (par o j).q, .int .i64 (par o j).i] 36 (0, 0))
  own : wi.ownsRow wb 36 3 ev (nR o.text) (ecs (mine o.site o.seq (nR o.text)))
  ne1 : ev.ownBlock ≠ some pb
  ne2 : pb ≠ bm
  ne3 : ev.ownBlock ≠ some bm
  below : Below base w wi
  ge : base ≤ pb
/-- one round: the entry, the append, the store, the parent -/
theorem InSt.round {A0 : List Tn} {o : OpD} {i base bm pb wb : Nat} {ev : Value} {w wi : World} {j : Nat} (h : InSt A0 o i base bm pb wb ev w wi j) (hok : okOp o = true) (hj : j < nR o.text) (hA : A0.length ≤ 900) (eo : Obj) (hbw : base ≤ wi.heap.size) :
    ∃ st v0 w1, (Instr.mapEntry 48 (.map (some bm)) (.agg #[.int .i64 (par o j).s, .int .i64 (par o j).q, .int .i64 (par o j).i])).run Try.prog ((wi.alloc (.cells #[.int .i64 o.site, .int .i64 o.seq, .int .i64 j] 36)).alloc eo) = .ok (.tuple #[v0, .int .i64 st]) w1 ∧
      w1.heap.size = wi.heap.size + 2 ∧ base ≤ w1.heap.size ∧ (w1.heap[wi.heap.size + 1]? = some eo) ∧
      w1.ownsRow base 63 4 v0 (kids (A0 ++ (blk o i).take j) (par o j)).length (ncs (kids (A0 ++ (blk o i).take j) (par o j))) ∧ (kids (A0 ++ (blk o i).take j) (par o j)).length ≤ 1000 ∧
      ∀ (w2 : World) (v2 : Value), w2.ownsRow base 63 4 v2 ((kids (A0 ++ (blk o i).take j) (par o j)).length + 1) (ncs (kids (A0 ++ (blk o i).take j) (par o j)) ++ Nd.cs ⟨⟨o.site, o.seq, j⟩, i⟩) → w1.grownBy w2 v0.ownBlock → (v2.ownBlock = v0.ownBlock ∨ v2.ownBlock = some w1.heap.size) →
        ∃ w3, (Instr.entryStore 48 (.map (some bm)) (.int .i64 st) v2).run Try.prog w2 = .ok () w3 ∧
          w3.heap[pb]? = some (.cells #[.int .i64 (par o j).s, .int .i64 (par o j).q, .int .i64 (par o j).i] 36 (0, 0)) ∧
          w3.heap[wi.heap.size]? = some (.cells #[.int .i64 o.site, .int .i64 o.seq, .int .i64 j] 36 (0, 0)) ∧
          InSt A0 o i base bm pb wb ev w (((w3.setCell ⟨pb, 0, none⟩ (.int .i64 o.site)).setCell ⟨pb, 1, none⟩ (.int .i64 o.seq)).setCell ⟨pb, 2, none⟩ (.int .i64 j)) (j + 1) := by
  obtain ⟨hgrp, hbox, hown, hne1, hne2, hne3, hbelow, hge⟩ := h
  have hn12 := (okOp_text hok).2.1
  have hpbl := (Array.getElem?_eq_some_iff.1 hbox).1
  have hs : ((wi.alloc (.cells #[.int .i64 o.site, .int .i64 o.seq, .int .i64 j] 36)).alloc eo).heap.size = wi.heap.size + 2 := by simp
  have hbW : Below wi.heap.size wi ((wi.alloc (.cells #[.int .i64 o.site, .int .i64 o.seq, .int .i64 j] 36)).alloc eo) := ((Below.refl _ _).alloc (Nat.le_refl _) _).alloc (by simp) _
  have hg2 := (hgrp.below hbW).weaken (Y := fun g => (ev.ownBlock = some g ∨ g = pb) ∨ g = wi.heap.size ∨ g = wi.heap.size + 1) (fun g hg => by
    rcases hg with hg | hg | hg
    · exact .inl hg
    · exact .inr (by omega)
    · exact .inr (by omega))
  have hbm := hgrp.lt
  have hevlt : ∀ g, ev.ownBlock = some g → g < wi.heap.size := fun g hg => (hown.lt g hg).2
  obtain ⟨st, v0, w1, hrun, hgr1, hs1, ho1, hv1, hv2, hk1, hback⟩ := hg2.step (by rw [List.length_append, List.length_take, blk_length]; omega) ⟨⟨⟨o.site, o.seq, j⟩, i⟩, par o j⟩ (par_fit hok hj) (fun g hg => by
    rw [hs]
    rcases hg with (hg | hg) | hg | hg
    · have := hevlt g hg; omega
    · omega
    · omega
    · omega)
  have hnb1 : wi.heap.size + 1 ≠ bm := by omega
  have hnb0 : wi.heap.size ≠ bm := by omega
  refine ⟨st, v0, w1, hrun, by rw [hs1, hs], by rw [hs1, hs]; omega, ?_, ho1, hk1, fun w2 v2 ho2 hgr2 hat => ?_⟩
  · rw [hgr1.block _ (by rw [hs]; omega) (by simp; exact hnb1)]
    have := heap_alloc_new (wi.alloc (.cells #[.int .i64 o.site, .int .i64 o.seq, .int .i64 j] 36)) eo
    rw [show (wi.alloc (.cells #[.int .i64 o.site, .int .i64 o.seq, .int .i64 j] 36)).heap.size = wi.heap.size + 1 from by simp] at this
    exact this
  · obtain ⟨w3, hr3, hg3, hgr3⟩ := hback w2 v2 ho2 hgr2 hat
    have keep : ∀ g, ((ev.ownBlock = some g ∨ g = pb) ∨ g = wi.heap.size ∨ g = wi.heap.size + 1) → g < wi.heap.size + 2 → g ≠ bm → w3.heap[g]? = ((wi.alloc (.cells #[.int .i64 o.site, .int .i64 o.seq, .int .i64 j] 36)).alloc eo).heap[g]? := fun g hg hgl hgb => by
      have z1 := hgr1.size
      have z2 := hgr2.size
      rw [hgr3.block g (by omega) (by simp; exact hgb), hgr2.block g (by omega) (fun e => hv2 g hg e.symm), hgr1.block g (by omega) (by simp; exact hgb)]
    have old : ∀ g, g < wi.heap.size → ((wi.alloc (.cells #[.int .i64 o.site, .int .i64 o.seq, .int .i64 j] 36)).alloc eo).heap[g]? = wi.heap[g]? := fun g hg => by
      rw [heap_alloc_old _ _ (by simp; omega), heap_alloc_old _ _ hg]
    have hb3 : w3.heap[pb]? = some (.cells #[.int .i64 (par o j).s, .int .i64 (par o j).q, .int .i64 (par o j).i] 36 (0, 0)) := by
      rw [keep pb (.inl (.inr rfl)) (by omega) hne2, old pb hpbl]
      exact hbox
    have hpar : par o (j + 1) = ⟨o.site, o.seq, (j : Int)⟩ := by
      unfold par
      rw [if_neg (by omega), show (((j + 1 : Nat) : Int) - 1) = (j : Int) from by omega]
    refine ⟨w3, hr3, hb3, ?_, ?_, ?_, ?_, hne1, hne2, hne3, ?_, hge⟩
    · rw [keep _ (.inr (.inl rfl)) (by omega) hnb0, heap_alloc_old _ _ (by simp)]
      exact heap_alloc_new wi _
    · rw [blk_take hj, ← List.append_assoc]
      exact (((hg3.set (.inl (.inr rfl)) hne2 _ _).set (.inl (.inr rfl)) hne2 _ _).set (.inl (.inr rfl)) hne2 _ _).weaken (fun g hg => .inl hg)
    · rw [hpar]
      exact set3_block hb3 _ _ _
    · refine owns_blk (w := wi) hown (fun g hg => ?_)
      rw [set3_other (fun e => hne1 (by rw [hg, e])), keep g (.inl (.inl hg)) (by have := hevlt g hg; omega) (fun e => hne3 (by rw [hg, e])), old g (hevlt g hg)]
    · refine below_set3 ?_ hge _ _ _
      refine (hbelow.trans ⟨hbW.os, hbW.tape, hbW.output, hbW.size, fun k hk => hbW.block k (by omega)⟩).trans ?_
      have hbmge := hgrp.ge
      exact (((Below.refl base _).grown hgr1 (by omega) (fun k hk => by cases hk; exact hbmge)).grown hgr2 (by omega) (fun k hk => (ho1.lt k hk).1)).grown hgr3 (by have := hgr2.size; omega) (fun k hk => by cases hk; exact hbmge)
end Go.Proofs.Ytbalcamjccfkdaa
