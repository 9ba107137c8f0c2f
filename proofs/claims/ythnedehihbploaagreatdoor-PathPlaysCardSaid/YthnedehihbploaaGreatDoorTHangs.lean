/- the map that tree.hang makes, while it is made -/
import Derived.Test.YthnedehihbploaaGreatDoorTWalk
import Derived.Test.YthnedehihbploaaGreatDoorTRow
import Derived.Test.YthnedehihbploaaGreatDoorOArgs2
namespace Go.Proofs.YthnedehihbploaaGreatDoor
open Go.RowKit Go.Lib

theorem wpList_mapEntry {P : Program} {w : World} {ops : Array Oper} {rest : List Oper} {o : Oper} {a : Act} {Q : Exit → Act → World → Prop} (hg : o.guard = none) (m x : Operand) (t : TypeId) (hop : o.op = Op.mapEntry t m x)
    (mv kv : Value) (hm : a.eval m = mv) (hx : a.eval x = kv) {r : Value} {w1 : World} (hrun : (Instr.mapEntry t mv kv).run P w = .ok r w1) (h : wpList P ops Q rest (a.put o.dst r) w1) : wpList P ops Q (o :: rest) a w := by
  refine wpList_plain hg fun K' hK' => ?_
  unfold Oper.wp
  simp [execOp, hop, hm, hx, hrun, Result.andThen]
  exact hK' _ _ h
theorem wpList_entryStore {P : Program} {w : World} {ops : Array Oper} {rest : List Oper} {o : Oper} {a : Act} {Q : Exit → Act → World → Prop} (hg : o.guard = none) (m x v : Operand) (t : TypeId) (hop : o.op = Op.entryStore t m x v)
    (mv sv vv : Value) (hm : a.eval m = mv) (hx : a.eval x = sv) (hv : a.eval v = vv) {w1 : World} (hrun : (Instr.entryStore t mv sv vv).run P w = .ok () w1) (h : wpList P ops Q rest (a.put o.dst undef) w1) : wpList P ops Q (o :: rest) a w := by
  refine wpList_plain hg fun K' hK' => ?_
  unfold Oper.wp
  simp [execOp, hop, hm, hx, hv, hrun, Result.andThen]
  exact hK' _ _ h

/-- block bm, of the call's own, is a map of rows of nodes, each by itself; X: blocks that none of them is -/
structure GrpB (w : World) (base bm : Nat) (A : List Tn) (X : Nat → Prop) : Prop where
  has : ∃ V, MapE w bm A.length V ∧ (∀ e, V e = none → kids A e = []) ∧
    (∀ e v, V e = some v → w.ownsRow base 166 4 v (kids A e).length (ncs (kids A e)) ∧ v.ownBlock ≠ some bm ∧ ∀ g, X g → v.ownBlock ≠ some g) ∧
    ∀ e e' v v', V e = some v → V e' = some v' → e ≠ e' → v.ownBlock = none ∨ v.ownBlock ≠ v'.ownBlock
  ge : base ≤ bm
theorem GrpB.lt {w : World} {base bm : Nat} {A : List Tn} {X : Nat → Prop} (h : GrpB w base bm A X) : bm < w.heap.size := by
  obtain ⟨V, hM, _⟩ := h.has
  exact hM.lt
theorem GrpB.made (w : World) (base : Nat) (hb : base ≤ w.heap.size) : GrpB (w.alloc (.map #[] 0)) base w.heap.size [] (fun _ => False) :=
  ⟨⟨fun _ => none, MapE.made w, fun _ _ => rfl, fun _ _ h => absurd h (by simp), fun _ _ _ _ h => absurd h (by simp)⟩, hb⟩
theorem GrpB.weaken {w : World} {base bm : Nat} {A : List Tn} {X Y : Nat → Prop} (h : GrpB w base bm A X) (hY : ∀ g, Y g → X g) : GrpB w base bm A Y := by
  obtain ⟨⟨V, h1, h2, h3, h4⟩, hb⟩ := h
  exact ⟨⟨V, h1, h2, fun e v hv => ⟨(h3 e v hv).1, (h3 e v hv).2.1, fun g hg => (h3 e v hv).2.2 g (hY g hg)⟩, h4⟩, hb⟩
/-- new memory is none of the rows -/
theorem GrpB.below {w w' : World} {base bm : Nat} {A : List Tn} {X : Nat → Prop} (h : GrpB w base bm A X) (hb : Below w.heap.size w w') : GrpB w' base bm A (fun g => X g ∨ w.heap.size ≤ g) := by
  obtain ⟨⟨V, h1, h2, h3, h4⟩, hge⟩ := h
  refine ⟨⟨V, h1.kept (hb.block bm h1.lt), h2, fun e v hv => ?_, h4⟩, hge⟩
  obtain ⟨g1, g2, g3⟩ := h3 e v hv
  refine ⟨owns_belE g1 hb, g2, fun g hg => ?_⟩
  rcases hg with hg | hg
  · exact g3 g hg
  · intro e1
    have := (g1.lt g e1).2
    omega
/-- a store into a block that is none of the rows -/
theorem GrpB.set {w : World} {base bm : Nat} {A : List Tn} {X : Nat → Prop} (h : GrpB w base bm A X) {k : Nat} (hk : X k) (hne : k ≠ bm) (o : Nat) (u : Value) : GrpB (w.setCell ⟨k, o, none⟩ u) base bm A X := by
  obtain ⟨⟨V, h1, h2, h3, h4⟩, hge⟩ := h
  refine ⟨⟨V, h1.kept (set_other (Ne.symm hne)), h2, fun e v hv => ?_, h4⟩, hge⟩
  obtain ⟨g1, g2, g3⟩ := h3 e v hv
  refine ⟨⟨g1.1, ?_⟩, g2, g3⟩
  rcases g1.2 with hn | ⟨g, cap, cur, hvv, hg, hh, r⟩
  · exact .inl hn
  · refine .inr ⟨g, cap, cur, hvv, hg, ?_, r⟩
    rw [set_other (by intro e1; subst hvv; exact g3 k hk (by simp [Value.ownBlock, e1]))]
    exact hh
theorem kids_snoc (A : List Tn) (t : Tn) (e : El) : kids (A ++ [t]) e = if t.par = e then kids A e ++ [t.nd] else kids A e := by
  unfold kids
  rw [List.filter_append, List.map_append]
  by_cases h : t.par = e
  · rw [if_pos h]; simp [h]
  · rw [if_neg h]; simp [h]
/-- under[parent] = append(under[parent], n) -/
theorem GrpB.step {w : World} {base bm : Nat} {A : List Tn} {X : Nat → Prop} (h : GrpB w base bm A X) (hA : A.length ≤ 1000) (t : Tn) (hf : t.par.fit) (hX : ∀ g, X g → g < w.heap.size) :
    ∃ st v0 w1, (Instr.mapEntry 138 (.map (some bm)) t.par.v).run Tryz.prog w = .ok (.tuple #[v0, goInt st]) w1 ∧ w.grownBy w1 (some bm) ∧ w1.heap.size = w.heap.size ∧
      w1.ownsRow base 166 4 v0 (kids A t.par).length (ncs (kids A t.par)) ∧ v0.ownBlock ≠ some bm ∧ (∀ g, X g → v0.ownBlock ≠ some g) ∧ (kids A t.par).length ≤ 1000 ∧
      ∀ (w2 : World) (v2 : Value), w2.ownsRow base 166 4 v2 ((kids A t.par).length + 1) (ncs (kids A t.par) ++ Nd.cs t.nd) → w1.grownBy w2 v0.ownBlock → (v2.ownBlock = v0.ownBlock ∨ v2.ownBlock = some w1.heap.size) →
        ∃ w3, (Instr.entryStore 138 (.map (some bm)) (goInt st) v2).run Tryz.prog w2 = .ok () w3 ∧ GrpB w3 base bm (A ++ [t]) X ∧ w2.grownBy w3 (some bm) := by
  obtain ⟨⟨V, h1, h2, h3, h4⟩, hge⟩ := h
  obtain ⟨st, w1, hrun, hg1, hs1, hlt, hback⟩ := h1.entry (t := 138) (z := .slice none 0 0) Tryz.underlying138 (fun u => by kernel_rfl) (by simp only [maxLen]; omega) t.par hf
  have hv0 : w.ownsRow base 166 4 ((V t.par).getD (.slice none 0 0)) (kids A t.par).length (ncs (kids A t.par)) ∧ ((V t.par).getD (.slice none 0 0)).ownBlock ≠ some bm ∧ ∀ g, X g → ((V t.par).getD (.slice none 0 0)).ownBlock ≠ some g := by
    cases hv : V t.par with
    | none =>
      rw [h2 _ hv]
      exact ⟨World.ownsRow_nil _ _ _ _, by simp [Value.ownBlock], fun g _ => by simp [Value.ownBlock]⟩
    | some v => exact h3 _ _ hv
  have hkl : (kids A t.par).length ≤ 1000 := by
    have := kids_length A t.par
    omega
  refine ⟨st, _, w1, hrun, hg1, hs1, hv0.1.kept hg1 (.inr hv0.2.1), hv0.2.1, hv0.2.2, hkl, fun w2 v2 ho2 hg2 hat => ?_⟩
  have hbm2 : w2.heap[bm]? = w1.heap[bm]? := hg2.block bm (by omega) (fun e => hv0.2.1 e.symm)
  obtain ⟨w3, hr3, hM3, hg3⟩ := hback w2 v2 hbm2
  have hne2 : v2.ownBlock ≠ some bm := by
    rcases hat with e | e
    · rw [e]; exact hv0.2.1
    · rw [e, hs1]; intro e2; simp only [Option.some.injEq] at e2; omega
  have hX2 : ∀ g, X g → v2.ownBlock ≠ some g := fun g hg => by
    rcases hat with e | e
    · rw [e]; exact hv0.2.2 g hg
    · rw [e, hs1]; intro e2; have := hX g hg; simp only [Option.some.injEq] at e2; omega
  -- an old row at another key
  have old : ∀ e v, V e = some v → e ≠ t.par → w3.ownsRow base 166 4 v (kids A e).length (ncs (kids A e)) ∧ (v.ownBlock = none ∨ v.ownBlock ≠ v2.ownBlock) := fun e v hv hne => by
    obtain ⟨g1, g2, g3⟩ := h3 e v hv
    have hap : v.ownBlock = none ∨ v.ownBlock ≠ ((V t.par).getD (.slice none 0 0)).ownBlock := by
      cases hvp : V t.par with
      | none =>
        by_cases hn : v.ownBlock = none
        · exact .inl hn
        · exact .inr hn
      | some vp => exact h4 _ _ _ _ hv hvp hne
    refine ⟨((g1.kept hg1 (.inr g2)).kept hg2 hap).kept hg3 (.inr g2), ?_⟩
    rcases hat with e1 | e1
    · rw [e1]; exact hap
    · by_cases hn : v.ownBlock = none
      · exact .inl hn
      · refine .inr ?_
        rw [e1, hs1]
        intro e2
        have := (g1.lt _ e2).2
        omega
  refine ⟨w3, hr3, ⟨⟨_, by rw [List.length_append, List.length_singleton]; exact hM3, fun e he => ?_, fun e v he => ?_, fun e e' v v' he he' hne => ?_⟩, hge⟩, hg3⟩
  · rw [kids_snoc]
    by_cases hk : t.par = e
    · simp only [hk] at he; simp at he
    · rw [if_neg (Ne.symm hk)] at he
      rw [if_neg hk]
      exact h2 e he
  · by_cases hk : e = t.par
    · rw [if_pos hk] at he
      simp only [Option.some.injEq] at he
      subst he
      subst hk
      rw [kids_snoc, if_pos rfl, List.length_append, List.length_singleton, ncs_append]
      have e1 : ncs [t.nd] = Nd.cs t.nd := by simp [ncs]
      rw [e1]
      exact ⟨ho2.kept hg3 (.inr hne2), hne2, hX2⟩
    · rw [if_neg hk] at he
      rw [kids_snoc, if_neg (Ne.symm hk)]
      exact ⟨(old e v he hk).1, (h3 e v he).2.1, (h3 e v he).2.2⟩
  · by_cases hk : e = t.par
    · rw [if_pos hk] at he
      simp only [Option.some.injEq] at he
      subst he
      by_cases hk' : e' = t.par
      · exact absurd (hk.trans hk'.symm) hne
      · rw [if_neg hk'] at he'
        rcases (old e' v' he' hk').2 with e1 | e1
        · by_cases hn : v2.ownBlock = none
          · exact .inl hn
          · exact .inr (by rw [e1]; exact hn)
        · exact .inr (Ne.symm e1)
    · rw [if_neg hk] at he
      by_cases hk' : e' = t.par
      · rw [if_pos hk'] at he'
        simp only [Option.some.injEq] at he'
        subst he'
        exact (old e v he hk).2
      · rw [if_neg hk'] at he'
        exact h4 e e' v v' he he' hne
theorem GrpB.grp {w : World} {base bm : Nat} {A : List Tn} {X : Nat → Prop} (h : GrpB w base bm A X) : Grp w bm A := by
  obtain ⟨⟨V, h1, h2, h3, h4⟩, hge⟩ := h
  refine ⟨_, V, h1, h2, fun e v hv => ?_⟩
  obtain ⟨g1, _, _⟩ := h3 e v hv
  rcases g1.2 with ⟨hn, h0⟩ | ⟨g, cap, cur, hvv, hg, hh, hc, hm, hcs, ht⟩
  · exact ⟨none, 0, by rw [hn, h0], ⟨fun j hj => absurd hj (by omega)⟩⟩
  · refine ⟨_, cap, hvv, ⟨fun j hj => ?_⟩⟩
    subst hvv
    have hlt := (Array.getElem?_eq_some_iff.1 hh).1
    obtain ⟨x0, x1, x2, x3⟩ := row_nd g1 rfl j hj
    rw [getElem!_pos (kids A e) j hj] at x0 x1 x2 x3
    exact ⟨g, 0, rfl, hlt, hlt, by rw [Nat.zero_add]; exact x0, by rw [Nat.zero_add]; exact x1, by rw [Nat.zero_add]; exact x2, by rw [Nat.zero_add]; exact x3⟩
end Go.Proofs.YthnedehihbploaaGreatDoor
/- tree.hang: which nodes hang right under each element -/
namespace Go.Proofs.YthnedehihbploaaGreatDoor
open Go.RowKit Go.Lib

/-- what the j-th element that o writes hangs under -/
def par (o : OpD) (j : Nat) : El := if j = 0 then o.after else ⟨o.site, o.seq, (j : Int) - 1⟩
theorem par_fit {o : OpD} (h : okOp o = true) {j : Nat} (hj : j < nR o.text) : (par o j).fit := by
  have hn := okOp_name h
  have hn12 := (okOp_text h).2.1
  obtain ⟨_, hao, _⟩ := okOp_writes h (by omega)
  unfold par
  by_cases h0 : j = 0
  · rw [if_pos h0]
    by_cases hb : o.after.begin = true
    · rw [(begin_iff _).1 hb]; exact b0_fit
    · have := ok_parts hao (by simpa using hb)
      unfold El.fit in64
      omega
  · rw [if_neg h0]
    unfold El.fit in64
    simp only
    omega
theorem blk_take {o : OpD} {i j : Nat} (hj : j < nR o.text) : (blk o i).take (j + 1) = (blk o i).take j ++ [⟨⟨⟨o.site, o.seq, j⟩, i⟩, par o j⟩] := by
  rw [List.take_succ_eq_append_getElem (by rw [blk_length]; exact hj)]
  congr 1
  simp [blk, par]
theorem block3 {w : World} {b : Nat} {a c d : Value} {t : TypeId} (h : w.heap[b]? = some (.cells #[a, c, d] t (0, 0))) : w.cell? ⟨b, 0, none⟩ = some a ∧ w.cell? ⟨b, 1, none⟩ = some c ∧ w.cell? ⟨b, 2, none⟩ = some d ∧ (∀ o, w.frozen? ⟨b, o, none⟩ = false) ∧ b < w.heap.size := by
  refine ⟨?_, ?_, ?_, fun o => ?_, (Array.getElem?_eq_some_iff.1 h).1⟩
  all_goals first | (simp [World.cell?, h]; done) | (simp [World.frozen?, h])
theorem set3_block {w : World} {b : Nat} {a c d : Value} {t : TypeId} (h : w.heap[b]? = some (.cells #[a, c, d] t (0, 0))) (x y z : Value) :
    (((w.setCell ⟨b, 0, none⟩ x).setCell ⟨b, 1, none⟩ y).setCell ⟨b, 2, none⟩ z).heap[b]? = some (.cells #[x, y, z] t (0, 0)) := by
  unfold World.setCell
  simp [Array.getElem?_modify, h]
theorem set3_other {w : World} {b k : Nat} (hk : k ≠ b) (x y z : Value) : (((w.setCell ⟨b, 0, none⟩ x).setCell ⟨b, 1, none⟩ y).setCell ⟨b, 2, none⟩ z).heap[k]? = w.heap[k]? := by
  rw [set_other hk, set_other hk, set_other hk]
theorem owns_blk {w w' : World} {base : Nat} {e : TypeId} {size : Nat} {v : Value} {n : Nat} {xs : List Value} (h : w.ownsRow base e size v n xs) (hb : ∀ g, v.ownBlock = some g → w'.heap[g]? = w.heap[g]?) : w'.ownsRow base e size v n xs := by
  refine ⟨h.1, ?_⟩
  rcases h.2 with hn | ⟨g, cap, cur, hv, hg, hh, r⟩
  · exact .inl hn
  · refine .inr ⟨g, cap, cur, hv, hg, ?_, r⟩
    rw [hb g (by rw [hv]; rfl)]
    exact hh
theorem below_set3 {B b : Nat} {w w1 : World} (h : Below B w w1) (hb : B ≤ b) (x y z : Value) : Below B w (((w1.setCell ⟨b, 0, none⟩ x).setCell ⟨b, 1, none⟩ y).setCell ⟨b, 2, none⟩ z) := ((h.setCell hb _).setCell hb _).setCell hb _

/-- behind j elements of the op o at place i -/
structure InSt (A0 : List Tn) (o : OpD) (i base bm pb wb : Nat) (ev : Value) (w wi : World) (j : Nat) : Prop where
  grp : GrpB wi base bm (A0 ++ (blk o i).take j) (fun g => ev.ownBlock = some g ∨ g = pb)
  box : wi.heap[pb]? = some (.cells #[.int .i64 (par o j).s, .int .i64 (par o j).q, .int .i64 (par o j).i] 37 (0, 0))
  own : wi.ownsRow wb 37 3 ev (nR o.text) (ecs (mine o.site o.seq (nR o.text)))
  ne1 : ev.ownBlock ≠ some pb
  ne2 : pb ≠ bm
  ne3 : ev.ownBlock ≠ some bm
  below : Below base w wi
  ge : base ≤ pb
/-- one round: the entry, the append, the store, the parent -/
theorem InSt.round {A0 : List Tn} {o : OpD} {i base bm pb wb : Nat} {ev : Value} {w wi : World} {j : Nat} (h : InSt A0 o i base bm pb wb ev w wi j) (hok : okOp o = true) (hj : j < nR o.text) (hA : A0.length ≤ 900) (eo : Obj) (hbw : base ≤ wi.heap.size) :
    ∃ st v0 w1, (Instr.mapEntry 138 (.map (some bm)) (.agg #[.int .i64 (par o j).s, .int .i64 (par o j).q, .int .i64 (par o j).i])).run Tryz.prog ((wi.alloc (.cells #[.int .i64 o.site, .int .i64 o.seq, .int .i64 j] 37)).alloc eo) = .ok (.tuple #[v0, .int .i64 st]) w1 ∧
      w1.heap.size = wi.heap.size + 2 ∧ base ≤ w1.heap.size ∧ (w1.heap[wi.heap.size + 1]? = some eo) ∧
      w1.ownsRow base 166 4 v0 (kids (A0 ++ (blk o i).take j) (par o j)).length (ncs (kids (A0 ++ (blk o i).take j) (par o j))) ∧ (kids (A0 ++ (blk o i).take j) (par o j)).length ≤ 1000 ∧
      ∀ (w2 : World) (v2 : Value), w2.ownsRow base 166 4 v2 ((kids (A0 ++ (blk o i).take j) (par o j)).length + 1) (ncs (kids (A0 ++ (blk o i).take j) (par o j)) ++ Nd.cs ⟨⟨o.site, o.seq, j⟩, i⟩) → w1.grownBy w2 v0.ownBlock → (v2.ownBlock = v0.ownBlock ∨ v2.ownBlock = some w1.heap.size) →
        ∃ w3, (Instr.entryStore 138 (.map (some bm)) (.int .i64 st) v2).run Tryz.prog w2 = .ok () w3 ∧
          w3.heap[pb]? = some (.cells #[.int .i64 (par o j).s, .int .i64 (par o j).q, .int .i64 (par o j).i] 37 (0, 0)) ∧
          w3.heap[wi.heap.size]? = some (.cells #[.int .i64 o.site, .int .i64 o.seq, .int .i64 j] 37 (0, 0)) ∧
          InSt A0 o i base bm pb wb ev w (((w3.setCell ⟨pb, 0, none⟩ (.int .i64 o.site)).setCell ⟨pb, 1, none⟩ (.int .i64 o.seq)).setCell ⟨pb, 2, none⟩ (.int .i64 j)) (j + 1) := by
  obtain ⟨hgrp, hbox, hown, hne1, hne2, hne3, hbelow, hge⟩ := h
  have hn12 := (okOp_text hok).2.1
  have hpbl := (Array.getElem?_eq_some_iff.1 hbox).1
  have hs : ((wi.alloc (.cells #[.int .i64 o.site, .int .i64 o.seq, .int .i64 j] 37)).alloc eo).heap.size = wi.heap.size + 2 := by simp
  have hbW : Below wi.heap.size wi ((wi.alloc (.cells #[.int .i64 o.site, .int .i64 o.seq, .int .i64 j] 37)).alloc eo) := ((Below.refl _ _).alloc (Nat.le_refl _) _).alloc (by simp) _
  have hg2 := (hgrp.below hbW).weaken (Y := fun g => (ev.ownBlock = some g ∨ g = pb) ∨ g = wi.heap.size ∨ g = wi.heap.size + 1) (fun g hg => by
    rcases hg with hg | hg | hg
    · exact .inl hg
    · exact .inr (by omega)
    · exact .inr (by omega))
  have hbm := hgrp.lt
  have hevlt : ∀ g, ev.ownBlock = some g → g < wi.heap.size := fun g hg => (hown.lt g hg).2
  obtain ⟨st, v0, w1, hrun, hgr1, hs1, ho1, hv1, hv2, hk1, hback⟩ := hg2.step (by rw [List.length_append, List.length_take, blk_length]; omega) ⟨⟨⟨o.site, o.seq, j⟩, i⟩, par o j⟩ (par_fit hok hj) (fun g hg => by
    rw [hs]
    rcases hg with (hg | hg) | hg | hg
    · have := hevlt g hg; omega
    · omega
    · omega
    · omega)
  have hnb1 : wi.heap.size + 1 ≠ bm := by omega
  have hnb0 : wi.heap.size ≠ bm := by omega
  refine ⟨st, v0, w1, hrun, by rw [hs1, hs], by rw [hs1, hs]; omega, ?_, ho1, hk1, fun w2 v2 ho2 hgr2 hat => ?_⟩
  · rw [hgr1.block _ (by rw [hs]; omega) (by simp; exact hnb1)]
    have := heap_alloc_new (wi.alloc (.cells #[.int .i64 o.site, .int .i64 o.seq, .int .i64 j] 37)) eo
    rw [show (wi.alloc (.cells #[.int .i64 o.site, .int .i64 o.seq, .int .i64 j] 37)).heap.size = wi.heap.size + 1 from by simp] at this
    exact this
  · obtain ⟨w3, hr3, hg3, hgr3⟩ := hback w2 v2 ho2 hgr2 hat
    have keep : ∀ g, ((ev.ownBlock = some g ∨ g = pb) ∨ g = wi.heap.size ∨ g = wi.heap.size + 1) → g < wi.heap.size + 2 → g ≠ bm → w3.heap[g]? = ((wi.alloc (.cells #[.int .i64 o.site, .int .i64 o.seq, .int .i64 j] 37)).alloc eo).heap[g]? := fun g hg hgl hgb => by
      have z1 := hgr1.size
      have z2 := hgr2.size
      rw [hgr3.block g (by omega) (by simp; exact hgb), hgr2.block g (by omega) (fun e => hv2 g hg e.symm), hgr1.block g (by omega) (by simp; exact hgb)]
    have old : ∀ g, g < wi.heap.size → ((wi.alloc (.cells #[.int .i64 o.site, .int .i64 o.seq, .int .i64 j] 37)).alloc eo).heap[g]? = wi.heap[g]? := fun g hg => by
      rw [heap_alloc_old _ _ (by simp; omega), heap_alloc_old _ _ hg]
    have hb3 : w3.heap[pb]? = some (.cells #[.int .i64 (par o j).s, .int .i64 (par o j).q, .int .i64 (par o j).i] 37 (0, 0)) := by
      rw [keep pb (.inl (.inr rfl)) (by omega) hne2, old pb hpbl]
      exact hbox
    have hpar : par o (j + 1) = ⟨o.site, o.seq, (j : Int)⟩ := by
      unfold par
      rw [if_neg (by omega), show (((j + 1 : Nat) : Int) - 1) = (j : Int) from by omega]
    refine ⟨w3, hr3, hb3, ?_, ?_, ?_, ?_, hne1, hne2, hne3, ?_, hge⟩
    · rw [keep _ (.inr (.inl rfl)) (by omega) hnb0, heap_alloc_old _ _ (by simp)]
      exact heap_alloc_new wi _
    · rw [blk_take hj, ← List.append_assoc]
      exact (((hg3.set (.inl (.inr rfl)) hne2 _ _).set (.inl (.inr rfl)) hne2 _ _).set (.inl (.inr rfl)) hne2 _ _).weaken (fun g hg => .inl hg)
    · rw [hpar]
      exact set3_block hb3 _ _ _
    · refine owns_blk (w := wi) hown (fun g hg => ?_)
      rw [set3_other (fun e => hne1 (by rw [hg, e])), keep g (.inl (.inl hg)) (by have := hevlt g hg; omega) (fun e => hne3 (by rw [hg, e])), old g (hevlt g hg)]
    · refine below_set3 ?_ hge _ _ _
      refine (hbelow.trans ⟨hbW.os, hbW.tape, hbW.output, hbW.size, fun k hk => hbW.block k (by omega)⟩).trans ?_
      have hbmge := hgrp.ge
      exact (((Below.refl base _).grown hgr1 (by omega) (fun k hk => by cases hk; exact hbmge)).grown hgr2 (by omega) (fun k hk => (ho1.lt k hk).1)).grown hgr3 (by have := hgr2.size; omega) (fun k hk => by cases hk; exact hbmge)
end Go.Proofs.YthnedehihbploaaGreatDoor
/- tree.hang: the walk -/
namespace Go.Proofs.YthnedehihbploaaGreatDoor
open Go.RowKit Go.Lib

def OpR.os (l : List OpR) : List OpD := l.map (·.o)
def HangPost (A : List Tn) (w : World) (e : Ending) (w' : World) : Prop := ∃ bm, e = .returned (.map (some bm)) ∧ Grp w' bm A ∧ Below w.heap.size w w'
/-- behind k ops -/
structure HSt (l : List OpR) (base : Nat) (w wr : World) (k : Nat) : Prop where
  grp : GrpB wr base base (allT ((OpR.os l).take k)) (fun _ => False)
  below : Below base w wr
  size : base < wr.heap.size
theorem snoc_ind {p : List OpD → Prop} (h0 : p []) (h1 : ∀ l o, p l → p (l ++ [o])) (l : List OpD) : p l := by
  have : ∀ n, n ≤ l.length → p (l.take n) := by
    intro n
    induction n with
    | zero => intro _; rw [List.take_zero]; exact h0
    | succ n ih =>
      intro hn
      rw [List.take_succ_eq_append_getElem (by omega)]
      exact h1 _ _ (ih (by omega))
  have h2 := this l.length (Nat.le_refl _)
  rw [List.take_length] at h2
  exact h2
theorem allT_len (l : List OpD) : (allT l).length = tot l := by
  refine snoc_ind (p := fun l => (allT l).length = tot l) rfl (fun l o ih => ?_) l
  rw [allT_snoc, List.length_append, ih, blk_length, tot_snoc]
theorem tot_take (l : List OpD) (k : Nat) : tot (l.take k) ≤ tot l := by
  induction l generalizing k with
  | nil => simp [tot]
  | cons o l ih =>
    cases k with
    | zero => simp [tot]
    | succ k =>
      have := ih k
      simp only [tot, List.take_succ_cons, List.map_cons, List.sum_cons] at this ⊢
      omega
/-- into an op: its elements are told, its After is boxed -/
theorem HSt.enter {l : List OpR} {base : Nat} {w wr w5 : World} {k n : Nat} (h : HSt l base w wr k) {o : OpD} {v : Value} {o1 : Obj} (hn : n = nR o.text)
    (hown : w5.ownsRow (wr.alloc o1).heap.size 37 3 v n (ecs (mine o.site o.seq (nR o.text)))) (hb : Below (wr.alloc o1).heap.size (wr.alloc o1) w5) (i : Nat) :
    InSt (allT ((OpR.os l).take k)) o i base base w5.heap.size (wr.heap.size + 1) v w (w5.alloc (.cells #[.int .i64 o.after.s, .int .i64 o.after.q, .int .i64 o.after.i] 37)) 0 ∧ base ≤ w5.heap.size := by
  obtain ⟨hg, hbl, hsz⟩ := h
  have hs1 : (wr.alloc o1).heap.size = wr.heap.size + 1 := by simp
  rw [hs1] at hown
  have hb5 : Below wr.heap.size wr w5 := ((Below.refl _ _).alloc (Nat.le_refl _) o1).trans (hb.mono (by omega))
  have hz5 := hb5.size
  have hb6 : Below wr.heap.size wr (w5.alloc (.cells #[.int .i64 o.after.s, .int .i64 o.after.q, .int .i64 o.after.i] 37)) := hb5.alloc (by omega) _
  have hne : ∀ g, v.ownBlock = some g → wr.heap.size + 1 ≤ g ∧ g < w5.heap.size := fun g hg => by have := hown.lt g hg; omega
  refine ⟨⟨?_, ?_, ?_, ?_, by omega, ?_, ?_, by omega⟩, by omega⟩
  · rw [List.take_zero, List.append_nil]
    exact (hg.below hb6).weaken (fun g hg => by
      rcases hg with hg | hg
      · have := hne g hg; exact .inr (by omega)
      · exact .inr (by omega))
  · have : par o 0 = o.after := rfl
    rw [this]
    exact heap_alloc_new w5 _
  · rw [← hn]
    rw [← hn] at hown
    exact hown.alloc _
  · intro e; have := hne _ e; omega
  · intro e; have := hne _ e; omega
  · exact hbl.trans ⟨hb6.os, hb6.tape, hb6.output, hb6.size, fun j hj => hb6.block j (by omega)⟩
theorem HSt.leave {l : List OpR} {base pb wb : Nat} {w wi : World} {k : Nat} {v : Value} (hk : k < l.length) {o : OpD} (ho : l[k].o = o) (h : InSt (allT ((OpR.os l).take k)) o k base base pb wb v w wi (nR o.text)) : HSt l base w wi (k + 1) := by
  refine ⟨?_, h.below, h.grp.lt⟩
  have e : (OpR.os l).take (k + 1) = (OpR.os l).take k ++ [o] := by
    rw [List.take_succ_eq_append_getElem (by simp [OpR.os]; exact hk)]
    simp [OpR.os, ho]
  have hlk : ((OpR.os l).take k).length = k := by simp [OpR.os]; omega
  rw [e, allT_snoc, hlk]
  have := h.grp
  rw [show (blk o k).take (nR o.text) = blk o k from List.take_of_length_le (by rw [blk_length]; exact Nat.le_refl _)] at this
  exact this.weaken (fun g (hg : False) => hg.elim)
theorem InSt.elem {A0 : List Tn} {o : OpD} {i base bm pb wb : Nat} {ev : Value} {w wi : World} {j n : Nat} {a : Option Addr} {cap : Nat} (h : InSt A0 o i base bm pb wb ev w wi j) (hev : ev = .slice a n cap) (hn : n = nR o.text) (hj : j < n) :
    ∃ g, a = some ⟨g, 0, none⟩ ∧ g < wi.heap.size ∧ wi.cell? ⟨g, j * 3, none⟩ = some (.int .i64 o.site) ∧ wi.cell? ⟨g, j * 3 + 1, none⟩ = some (.int .i64 o.seq) ∧ wi.cell? ⟨g, j * 3 + 2, none⟩ = some (.int .i64 j) := by
  subst hev
  have ho := h.own
  rcases ho.2 with ⟨hv, h0⟩ | ⟨g, c2, cur, hv, _⟩
  · omega
  · simp only [Value.slice.injEq] at hv
    obtain ⟨ha, _, _⟩ := hv
    subst ha
    rw [← hn] at ho
    obtain ⟨x0, x1, x2⟩ := row_cells ho (mine_length _ _ _) j hj
    have hm : (mine o.site o.seq n)[j]! = ⟨o.site, o.seq, j⟩ := by
      rw [getElem!_pos (mine o.site o.seq n) j (by rw [mine_length]; exact hj)]
      exact mine_get _ _ _ _ _
    rw [hm] at x0 x1 x2
    exact ⟨g, rfl, (ho.lt g rfl).2, x0, x1, x2⟩
set_option maxRecDepth 100000 in
set_option maxHeartbeats 4000000 in
theorem xHang_any (a : Option Addr) (cap : Nat) (l : List OpR) (w : World) (h : OpsAt w a l) (hok : ∀ r ∈ l, okOp r.o = true) (hl : l.length ≤ 40) (ht : tot (OpR.os l) ≤ 200) :
    Calls Tryz.prog 99 #[.slice a l.length cap] w (HangPost (allT (OpR.os l)) w) := by
  obtain ⟨i0, hi0, hz0, hz1, hz2⟩ := info_parts Tryz.infoNode
  have HH := Lib.hid h
  have HOK := Lib.hid hok
  have HT := Lib.hid ht
  have HTK := Lib.hid (fun k => Nat.le_trans (Nat.le_of_eq (allT_len ((OpR.os l).take k))) (Nat.le_trans (tot_take (OpR.os l) k) ht))
  have HST := Lib.hid (show HSt l w.heap.size w (w.alloc (.map #[] 0)) 0 from ⟨GrpB.made w w.heap.size (Nat.le_refl _), (Below.refl _ _).alloc (Nat.le_refl _) _, by simp⟩)
  clear h hok ht
  obtain ⟨n, hn⟩ : ∃ n, l.length = n := ⟨_, rfl⟩
  have HN := Lib.hid hn
  rw [hn] at hl ⊢
  clear hn
  have hmk : (Instr.makeMap 138 none).run Tryz.prog w = .ok (.map (some w.heap.size)) (w.alloc (.map #[] 0)) := run_makeMap _ w
  generalize hbase : w.heap.size = base at *
  have HBS := Lib.hid hbase
  go_enter Tryz.func99, Tryz.ntmps99
  go_wp2_with fail
  clear hbase hmk
  go_loopw [14] (fun s14 wr => ∃ k : Nat, s14 = .int .i64 k ∧ k ≤ n ∧ HSt l base w wr k) (fun s14 _ => n - (RowKit.intOf s14).toNat)
  case atStart => exact ⟨0, rfl, Nat.zero_le _, HST.out⟩
  case round =>
    clear HST
    obtain ⟨k, rfl, hk, hst⟩ := hrel
    have HS := Lib.hid hst
    by_cases hlt : k < n
    · have hkl : k < l.length := by rw [HN.out]; exact hlt
      have hbw : Below w.heap.size w wr := by rw [HBS.out]; exact hst.below
      obtain ⟨b, off, rfl, hbb, c0, c1, c2, c3, c4, c5, c6, c7, c8, c9, ca⟩ := (HH.out.below hbw).cells k hkl
      have hoa := (HH.out.below hbw).op k hkl
      have hokk := HOK.out l[k] (List.getElem_mem hkl)
      have HE := Lib.hid (fun wx (hx : Below wr.heap.size wr wx) => xElems_ok l[k].o l[k].a l[k].cap wx ⟨hoa.gone.below hx, hoa.len, hoa.size⟩ hokk)
      have HLV := Lib.hid (fun (o : OpD) (ho : l[k].o = o) pb wb v wi => HSt.leave (base := base) (w := w) (pb := pb) (wb := wb) (wi := wi) (v := v) hkl ho)
      clear hst hoa hbw
      generalize l[k] = r at *
      clear hkl
      obtain ⟨⟨site, seq, kind, ⟨es, eq, ei⟩, text, gone, of, num, gen⟩, ra, rc⟩ := r
      unfold OpD.v at HE
      simp only at c0 c1 c2 c3 c4 c5 c6 c7 c8 c9 ca hokk HE HLV
      have HOKK := Lib.hid hokk
      have HBX := Lib.hid (BoxO.new wr ⟨site, seq, kind, ⟨es, eq, ei⟩, text, gone, of, num, gen⟩ ra rc)
      unfold OpD.obj at HBX
      simp only at HBX
      clear hokk
      generalize hnn : nR text = nn at *
      have HNN := Lib.hid hnn
      have hn12 : nn ≤ 12 := by rw [← hnn]; exact (okOp_text HOKK.out).2.1
      clear hnn
      go_wp2_with (first
        | (go_at_call 119; refine (HE.out _ ((Below.refl _ _).alloc (Nat.le_refl _) _)).mono ?_; rintro x5 w5 ⟨a5, cap5, rfl, hown5, hb5⟩; obtain ⟨pl, _, _, _, p3, p4, p5, _, _, _, _, _⟩ := HBX.out.step hb5; simp only [mine_length] at hown5 ⊢; have hent := HSt.enter (o := ⟨site, seq, kind, ⟨es, eq, ei⟩, text, gone, of, num, gen⟩) (n := nn) HS.out HNN.out.symm (by rw [HNN.out]; exact hown5) hb5 k; have HENT := Lib.hid hent.1; clear hown5 hb5 hent)
        | fail)
      clear pl p3 p4 p5 c0 c1 c2 c3 c4 c5 c6 c7 c8 c9 ca
      go_loopw [28] (fun s28 wi => ∃ j : Nat, s28 = .int .i64 j ∧ j ≤ nn ∧ InSt (allT ((OpR.os l).take k)) ⟨site, seq, kind, ⟨es, eq, ei⟩, text, gone, of, num, gen⟩ k base base w5.heap.size (wr.heap.size + 1) (.slice a5 nn cap5) w wi j) (fun s28 _ => nn - (RowKit.intOf s28).toNat)
      case atStart => exact ⟨0, rfl, Nat.zero_le _, HENT.out⟩
      case round =>
        clear HENT HE HBX
        obtain ⟨j, rfl, hj, hin⟩ := hrel
        by_cases hlt2 : j < nn
        · obtain ⟨g, rfl, hgl, x0, x1, x2⟩ := hin.elem rfl HNN.out.symm hlt2
          obtain ⟨y0, y1, y2, hfz, hpl⟩ := block3 hin.box
          have hbwi : base ≤ wr.heap.size := by have := hin.grp.ge; have := hin.grp.lt; omega
          obtain ⟨st, v0, w1, hrun, hs1, hb1, hnb, ho1, hk1, hback⟩ := hin.round HOKK.out (by rw [HNN.out]; exact hlt2) (by have := HTK.out k; omega) (.cells #[.int .i64 site, .int .i64 seq, .int .i64 j, .int .i64 k] 166) hbwi
          have HO1 := Lib.hid ho1
          have HNB := Lib.hid (World.news_of_block hnb)
          have HRUN := Lib.hid hrun
          have HBK := Lib.hid hback
          have HM1 := Lib.hid (show (kids (allT ((OpR.os l).take k) ++ (blk ⟨site, seq, kind, ⟨es, eq, ei⟩, text, gone, of, num, gen⟩ k).take j) (par ⟨site, seq, kind, ⟨es, eq, ei⟩, text, gone, of, num, gen⟩ j)).length + 1 ≤ maxLen from by simp only [maxLen]; omega)
          have HM2 := Lib.hid (show ((kids (allT ((OpR.os l).take k) ++ (blk ⟨site, seq, kind, ⟨es, eq, ei⟩, text, gone, of, num, gen⟩ k).take j) (par ⟨site, seq, kind, ⟨es, eq, ei⟩, text, gone, of, num, gen⟩ j)).length + 1) * 32 ≤ 140737488355328 from by omega)
          have HB1 := Lib.hid hb1
          clear ho1 hnb hrun hback hk1 hb1 hin hfz hs1
          generalize (par ⟨site, seq, kind, ⟨es, eq, ei⟩, text, gone, of, num, gen⟩ j).s = ps at *
          generalize (par ⟨site, seq, kind, ⟨es, eq, ei⟩, text, gone, of, num, gen⟩ j).q = pq at *
          generalize (par ⟨site, seq, kind, ⟨es, eq, ei⟩, text, gone, of, num, gen⟩ j).i = pi at *
          generalize (kids (allT ((OpR.os l).take k) ++ (blk ⟨site, seq, kind, ⟨es, eq, ei⟩, text, gone, of, num, gen⟩ k).take j) (par ⟨site, seq, kind, ⟨es, eq, ei⟩, text, gone, of, num, gen⟩ j)) = ks at *
          go_wp2_with (first
            | (refine wpList_mapEntry rfl _ _ _ rfl _ _ rfl rfl HRUN.out ?_)
            | (at_builtin; refine wpList_append_own_at _ rfl _ _ 159 rfl base 166 i0 (.agg #[.int .i64 0, .int .i64 0, .int .i64 0, .int .i64 0]) 4 32 Tryz.underlying159 hi0 hz0 hz1 hz2 rfl (by decide) _ ks.length _ rfl HO1.out ⟨wr.heap.size + 1, 0, none⟩ 1 1 (Nd.cs ⟨⟨site, seq, j⟩, k⟩) rfl rfl HNB.out (cs_oneN ⟨⟨site, seq, j⟩, k⟩) HM1.out HM2.out HB1.out ?_; intro v2 w2 hown2 hgrow2 hnil2 hat2; obtain ⟨w3, hr3, hb3, he3, hin3⟩ := HBK.out w2 v2 hown2 hgrow2 hat2; have HR3 := Lib.hid hr3; obtain ⟨q0, q1, q2, hqf, hql⟩ := block3 hb3; obtain ⟨z0, z1, z2, _, hzl⟩ := block3 he3; have f0 := hqf 0; have f1 := hqf 1; have f2 := hqf 2; have HIN3 := Lib.hid hin3; clear hqf hown2 hgrow2 hnil2 hat2 hr3 hb3 he3 hin3 HBK)
            | (refine wpList_entryStore rfl _ _ _ _ rfl _ _ _ rfl rfl rfl HR3.out ?_)
            | fail)
          go_roundw
          case rel => exact ⟨j + 1, by go_num, by omega, HIN3.out⟩
          case measure => simp [RowKit.intOf]; omega
        · have h0 : j = nn := by omega
          have HNX := Lib.hid (HLV.out _ rfl _ _ _ _ (by rw [HNN.out, ← h0]; exact hin))
          clear hin
          go_wp2_with fail
          go_roundw
          case rel => exact ⟨k + 1, by go_num, by omega, HNX.out⟩
          case measure => simp [RowKit.intOf]; omega
    · have h0 : k = n := by omega
      have HFIN : RowKit.Hid (HangPost (allT (OpR.os l)) w (.returned (.map (some base))) wr) := Lib.hid (by
        refine ⟨base, rfl, ?_, by rw [HBS.out]; exact hst.below⟩
        have := hst.grp.grp
        rw [List.take_of_length_le (by simp [OpR.os, HN.out, h0])] at this
        exact this)
      clear hst HS
      go_wp2
      go_ret
      exact HFIN.out
end Go.Proofs.YthnedehihbploaaGreatDoor
