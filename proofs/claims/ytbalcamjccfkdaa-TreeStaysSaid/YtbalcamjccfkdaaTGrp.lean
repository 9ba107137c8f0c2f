/- the map that tree.hang makes, while it is made -/
import Derived.Test.YtbalcamjccfkdaaTWalk
import Derived.Test.YtbalcamjccfkdaaTRow
namespace Go.Proofs.Ytbalcamjccfkdaa
open Go.RowKit Go.Lib

theorem wpList_mapEntry {P : Program} {w : World} {ops : Array Oper} {rest : List Oper} {o : Oper} {a : Act} {Q : Exit → Act → World → Prop} (hg : o.guard = none) (m x : Operand) (t : TypeId) (hop : o.op = Op.mapEntry t m x)
    (mv kv : Value) (hm : a.eval m = mv) (hx : a.eval x = kv) {r : Value} {w1 : World} (hrun : (Instr.mapEntry t mv kv).run P w = .ok r w1) (h : wpList P ops Q rest (a.put o.dst r) w1) : wpList P ops Q (o :: rest) a w := by
  refine wpList_plain hg fun K' hK' => ?_
  unfold Oper.wp
  simp [execOp, hop, hm, hx, hrun, Result.andThen]
  exact hK' _ _ h
theorem wpList_entryStore {P : Program} {w : World} {ops : Array Oper} {rest : List Oper} {o : Oper} {a : Act} {Q : Exit → Act → World → Prop} (hg : o.guard = none) (m x v : Operand) (t : TypeId) (hop : o.op = Op.entryStore t m x v)
    (mv sv vv : Value) (hm : a.eval m = mv) (hx : a.eval x = sv) (hv : a.eval v = vv) {w1 : World} (hrun : (Instr.entryStore t mv sv vv).run P w = .ok () w1) (h : wpList P ops Q rest (a.put o.dst undef) w1) : wpList P ops Q (o :: rest) a w := by
  refine wpList_plain hg fun K' hK' => ?_
  unfold Oper.wp
  simp [execOp, hop, hm, hx, hv, hrun, Result.andThen]
  exact hK' _ _ h

/-- block bm, of the call's own, is a map of rows of nodes, each by itself; X: blocks that none of them is -/
structure GrpB (w : World) (base bm : Nat) (A : List Tn) (X : Nat → Prop) : Prop where
  has : ∃ V, MapE w bm A.length V ∧ (∀ e, V e = none → kids A e = []) ∧
    (∀ e v, V e = some v → w.ownsRow base 63 4 v (kids A e).length (ncs (kids A e)) ∧ v.ownBlock ≠ some bm ∧ ∀ g, X g → v.ownBlock ≠ some g) ∧
    ∀ e e' v v', V e = some v → V e' = some v' → e ≠ e' → v.ownBlock = none ∨ v.ownBlock ≠ v'.ownBlock
  ge : base ≤ bm
theorem GrpB.lt {w : World} {base bm : Nat} {A : List Tn} {X : Nat → Prop} (h : GrpB w base bm A X) : bm < w.heap.size := by
  obtain ⟨V, hM, _⟩ := h.has
  exact hM.lt
theorem GrpB.made (w : World) (base : Nat) (hb : base ≤ w.heap.size) : GrpB (w.alloc (.map #[] 0)) base w.heap.size [] (fun _ => False) :=
  ⟨⟨fun _ => none, MapE.made w, fun _ _ => rfl, fun _ _ h => absurd h (by simp), fun _ _ _ _ h => absurd h (by simp)⟩, hb⟩
theorem GrpB.weaken {w : World} {base bm : Nat} {A : List Tn} {X Y : Nat → Prop} (h : GrpB w base bm A X) (hY : ∀ g, Y g → X g) : GrpB w base bm A Y := by
  obtain ⟨⟨V, h1, h2, h3, h4⟩, hb⟩ := h
  exact ⟨⟨V, h1, h2, fun e v hv => ⟨(h3 e v hv).1, (h3 e v hv).2.1, fun g hg => (h3 e v hv).2.2 g (hY g hg)⟩, h4⟩, hb⟩
/-- new memory is none of the rows -/
theorem GrpB.below {w w' : World} {base bm : Nat} {A : List Tn} {X : Nat → Prop} (h : GrpB w base bm A X) (hb : Below w.heap.size w w') : GrpB w' base bm A (fun g => X g ∨ w.heap.size ≤ g) := by
  obtain ⟨⟨V, h1, h2, h3, h4⟩, hge⟩ := h
  refine ⟨⟨V, h1.kept (hb.block bm h1.lt), h2, fun e v hv => ?_, h4⟩, hge⟩
  obtain ⟨g1, g2, g3⟩ := h3 e v hv
  refine ⟨owns_belE g1 hb, g2, fun g hg => ?_⟩
  rcases hg with hg | hg
  · exact g3 g hg
  · intro e1
    have := (g1.lt g e1).2
    omega
/-- a store into a block that is none of the rows -/
theorem GrpB.set {w : World} {base bm : Nat} {A : List Tn} {X : Nat → Prop} (h : GrpB w base bm A X) {k : Nat} (hk : X k) (hne : k ≠ bm) (o : Nat) (u : Value) : GrpB (w.setCell ⟨k, o, none⟩ u) base bm A X := by
  obtain ⟨⟨V, h1, h2, h3, h4⟩, hge⟩ := h
  refine ⟨⟨V, h1.kept (set_other (Ne.symm hne)), h2, fun e v hv => ?_, h4⟩, hge⟩
  obtain ⟨g1, g2, g3⟩ := h3 e v hv
  refine ⟨⟨g1.1, ?_⟩, g2, g3⟩
  rcases g1.2 with hn | ⟨g, cap, cur, hvv, hg, hh, r⟩
  · exact .inl hn
  · refine .inr ⟨g, cap, cur, hvv, hg, ?_, r⟩
    rw [set_other (by intro e1; subst hvv; exact g3 k hk (by simp [Value.ownBlock, e1]))]
    exact hh
theorem kids_snoc (A : List Tn) (t : Tn) (e : El) : kids (A ++ [t]) e = if t.par = e then kids A e ++ [t.nd] else kids A e := by
  unfold kids
  rw [List.filter_append, List.map_append]
  by_cases h : t.par = e
  · rw [if_pos h]; simp [h]
  · rw [if_neg h]; simp [h]
/-- under[parent] = append(under[parent], n) -/
theorem GrpB.step {w : World} {base bm : Nat} {A : List Tn} {X : Nat → Prop} (h : GrpB w base bm A X) (hA : A.length ≤ 1000) (t : Tn) (hf : t.par.fit) (hX : ∀ g, X g → g < w.heap.size) :
    ∃ st v0 w1, (Instr.mapEntry 48 (.map (some bm)) t.par.v).run Try.prog w = .ok (.tuple #[v0, goInt st]) w1 ∧ w.grownBy w1 (some bm) ∧ w1.heap.size = w.heap.size ∧
      w1.ownsRow base 63 4 v0 (kids A t.par).length (ncs (kids A t.par)) ∧ v0.ownBlock ≠ some bm ∧ (∀ g, X g → v0.ownBlock ≠ some g) ∧ (kids A t.par).length ≤ 1000 ∧
      ∀ (w2 : World) (v2 : Value), w2.ownsRow base 63 4 v2 ((kids A t.par).length + 1) (ncs (kids A t.par) ++ Nd.cs t.nd) → w1.grownBy w2 v0.ownBlock → (v2.ownBlock = v0.ownBlock ∨ v2.ownBlock = some w1.heap.size) →
        ∃ w3, (Instr.entryStore 48 (.map (some bm)) (goInt st) v2).run Try.prog w2 = .ok () w3 ∧ GrpB w3 base bm (A ++ [t]) X ∧ w2.grownBy w3 (some bm) := by
  obtain ⟨⟨V, h1, h2, h3, h4⟩, hge⟩ := h
  obtain ⟨st, w1, hrun, hg1, hs1, hlt, hback⟩ := h1.entry (t := 48) (z := .slice none 0 0) Try.underlying48 (fun u => by kernel_rfl) (by simp only [maxLen]; omega) t.par hf
  have hv0 : w.ownsRow base 63 4 ((V t.par).getD (.slice none 0 0)) (kids A t.par).length (ncs (kids A t.par)) ∧ ((V t.par).getD (.slice none 0 0)).ownBlock ≠ some bm ∧ ∀ g, X g → ((V t.par).getD (.slice none 0 0)).ownBlock ≠ some g := by
    cases hv : V t.par with
    | none =>
      rw [h2 _ hv]
      exact ⟨World.ownsRow_nil _ _ _ _, by simp [Value.ownBlock], fun g _ => by simp [Value.ownBlock]⟩
    | some v => exact h3 _ _ hv
  have hkl : (kids A t.par).length ≤ 1000 := by
    have := kids_length A t.par
    omega
  refine ⟨st, _, w1, hrun, hg1, hs1, hv0.1.kept hg1 (.inr hv0.2.1), hv0.2.1, hv0.2.2, hkl, fun w2 v2 ho2 hg2 hat => ?_⟩
  have hbm2 : w2.heap[bm]? = w1.heap[bm]? := hg2.block bm (by omega) (fun e => hv0.2.1 e.symm)
  obtain ⟨w3, hr3, hM3, hg3⟩ := hback w2 v2 hbm2
  have hne2 : v2.ownBlock ≠ some bm := by
    rcases hat with e | e
    · rw [e]; exact hv0.2.1
    · rw [e, hs1]; intro e2; simp only [Option.some.injEq] at e2; omega
  have hX2 : ∀ g, X g → v2.ownBlock ≠ some g := fun g hg => by
    rcases hat with e | e
    · rw [e]; exact hv0.2.2 g hg
    · rw [e, hs1]; intro e2; have := hX g hg; simp only [Option.some.injEq] at e2; omega
  -- an old row at another key
  have old : ∀ e v, V e = some v → e ≠ t.par → w3.ownsRow base 63 4 v (kids A e).length (ncs (kids A e)) ∧ (v.ownBlock = none ∨ v.ownBlock ≠ v2.ownBlock) := fun e v hv hne => by
    obtain ⟨g1, g2, g3⟩ := h3 e v hv
    have hap : v.ownBlock = none ∨ v.ownBlock ≠ ((V t.par).getD (.slice none 0 0)).ownBlock := by
      cases hvp : V t.par with
      | none =>
        by_cases hn : v.ownBlock = none
        · exact .inl hn
        · exact .inr hn
      | some vp => exact h4 _ _ _ _ hv hvp hne
    refine ⟨((g1.kept hg1 (.inr g2)).kept hg2 hap).kept hg3 (.inr g2), ?_⟩
    rcases hat with e1 | e1
    · rw [e1]; exact hap
    · by_cases hn : v.ownBlock = none
      · exact .inl hn
      · refine .inr ?_
        rw [e1, hs1]
        intro e2
        have := (g1.lt _ e2).2
        omega
  refine ⟨w3, hr3, ⟨⟨_, by rw [List.length_append, List.length_singleton]; exact hM3, fun e he => ?_, fun e v he => ?_, fun e e' v v' he he' hne => ?_⟩, hge⟩, hg3⟩
  · rw [kids_snoc]
    by_cases hk : t.par = e
    · simp only [hk] at he; simp at he
    · rw [if_neg (Ne.symm hk)] at he
      rw [if_neg hk]
      exact h2 e he
  · by_cases hk : e = t.par
    · rw [if_pos hk] at he
      simp only [Option.some.injEq] at he
      subst he
      subst hk
      rw [kids_snoc, if_pos rfl, List.length_append, List.length_singleton, ncs_append]
      have e1 : ncs [t.nd] = Nd.cs t.nd := by simp [ncs]
      rw [e1]
      exact ⟨ho2.kept hg3 (.inr hne2), hne2, hX2⟩
    · rw [if_neg hk] at he
      rw [kids_snoc, if_neg (Ne.symm hk)]
      exact ⟨(old e v he hk).1, (h3 e v he).2.1, (h3 e v he).2.2⟩
  · by_cases hk : e = t.par
    · rw [if_pos hk] at he
      simp only [Option.some.injEq] at he
      subst he
      by_cases hk' : e' = t.par
      · exact absurd (hk.trans hk'.symm) hne
      · rw [if_neg hk'] at he'
        rcases (old e' v' he' hk').2 with e1 | e1
        · by_cases hn : v2.ownBlock = none
          · exact .inl hn
          · exact .inr (by rw [e1]; exact hn)
        · exact .inr (Ne.symm e1)
    · rw [if_neg hk] at he
      by_cases hk' : e' = t.par
      · rw [if_pos hk'] at he'
        simp only [Option.some.injEq] at he'
        subst he'
        exact (old e v he hk).2
      · rw [if_neg hk'] at he'
        exact h4 e e' v v' he he' hne
theorem GrpB.grp {w : World} {base bm : Nat} {A : List Tn} {X : Nat → Prop} (h : GrpB w base bm A X) : Grp w bm A := by
  obtain ⟨⟨V, h1, h2, h3, h4⟩, hge⟩ := h
  refine ⟨_, V, h1, h2, fun e v hv => ?_⟩
  obtain ⟨g1, _, _⟩ := h3 e v hv
  rcases g1.2 with ⟨hn, h0⟩ | ⟨g, cap, cur, hvv, hg, hh, hc, hm, hcs, ht⟩
  · exact ⟨none, 0, by rw [hn, h0], ⟨fun j hj => absurd hj (by omega)⟩⟩
  · refine ⟨_, cap, hvv, ⟨fun j hj => ?_⟩⟩
    subst hvv
    have hlt := (Array.getElem?_eq_some_iff.1 hh).1
    obtain ⟨x0, x1, x2, x3⟩ := row_nd g1 rfl j hj
    rw [getElem!_pos (kids A e) j hj] at x0 x1 x2 x3
    exact ⟨g, 0, rfl, hlt, hlt, by rw [Nat.zero_add]; exact x0, by rw [Nat.zero_add]; exact x1, by rw [Nat.zero_add]; exact x2, by rw [Nat.zero_add]; exact x3⟩
end Go.Proofs.Ytbalcamjccfkdaa
