/- slices.Index, slices.Contains at elements; tree.Place -/
import Derived.Test.YtbhfokpakljfoaaTPages
import Derived.Test.YtbhfokpakljfoaaVEq
import Derived.BigQuiet
import Derived.Deep.QuietTactic
import Derived.Deep.RegionLaw
import Derived.Deep.DeepCutAuto
import Derived.Lib.QuietBelow
namespace Go.Proofs.Ytbhfokpakljfoaa
open Go.RowKit Go.Lib

def PlacePost (n e : Int) (w : World) (x : Ending) (w' : World) : Prop := x = .returned (.tuple #[.int .i64 n, .int .i64 e]) ∧ Below w.heap.size w w'
end Go.Proofs.Ytbhfokpakljfoaa
/- tree.inOrder, tree.Under -/
namespace Go.Proofs.Ytbhfokpakljfoaa
open Go.RowKit Go.Lib

/-- the later ones first -/
def Desc (S : List Nd) : Prop := S.Pairwise (fun a b => b.op < a.op)
theorem kids_desc {D : List Tn} (h : TOrd D) (e : El) : Desc (kids D e) := by
  have h1 : D.Pairwise (fun a b => a.par = e → b.par = e → b.nd.op < a.nd.op) := by
    rw [List.pairwise_iff_getElem]
    intro i j hi hj hij hpi hpj
    have g1 : D[i]? = some D[i] := List.getElem?_eq_getElem hi
    have g2 : D[j]? = some D[j] := List.getElem?_eq_getElem hj
    have hs := h.par i _ g1
    rw [hpi, ← hpj] at hs
    exact h.ahead i _ g1 j _ hij g2 hs
  unfold Desc kids
  rw [List.pairwise_map]
  refine List.Pairwise.imp_of_mem ?_ (h1.filter (fun t => decide (t.par = e)))
  intro a b ha hb hab
  have h2 := of_decide_eq_true (List.mem_filter.1 ha).2
  have h3 := of_decide_eq_true (List.mem_filter.1 hb).2
  exact hab h2 h3
theorem desc_step {S : List Nd} (hS : Desc S) {m : Nat} {t : Nd} (ht : S[m]? = some t) {x : Nd} {L2 : List Nd} (hp : (x :: L2).Perm (S.drop m)) (hmax : ∀ y ∈ L2, y.op ≤ x.op) : x = t ∧ L2.Perm (S.drop (m + 1)) := by
  obtain ⟨hm, hte⟩ := List.getElem?_eq_some_iff.1 ht
  have hdrop : S.drop m = t :: S.drop (m + 1) := by rw [List.drop_eq_getElem_cons hm, hte]
  have hlt : ∀ y ∈ S.drop (m + 1), y.op < t.op := by
    have h2 : Desc (S.drop m) := List.Pairwise.sublist (List.drop_sublist _ _) hS
    rw [hdrop] at h2
    exact (List.pairwise_cons.1 h2).1
  rw [hdrop] at hp
  have hx : x = t := by
    rcases List.mem_cons.1 (hp.subset (List.mem_cons_self ..)) with e | hxR
    · exact e
    · have h4 := hlt x hxR
      rcases List.mem_cons.1 (hp.symm.subset (List.mem_cons_self ..)) with e | htL
      · exact e.symm
      · have := hmax _ htL
        omega
  subst hx
  exact ⟨rfl, List.Perm.cons_inv hp⟩
/-- behind m: the front, and what was told -/
def ISt (S : List Nd) (base : Nat) (w wr : World) (m : Nat) (lv : Value) : Prop :=
  ∃ v L, Fr wr base base v L ∧ HeapN L L.length ∧ L.Perm (S.drop m) ∧ wr.ownsRow base 36 3 lv m (ecs ((S.take m).map Nd.e)) ∧ Apart lv base v ∧ Below base w wr ∧ base ≤ wr.heap.size
theorem i_start {S : List Nd} {base : Nat} {w w1 w2 : World} {L2 : List Nd} (hb : Below base w w1) (hs : w.heap.size = base) (hto : FrTo base base w1 (.slice none 0 0) L2 w2) (hp : L2.Perm S) (hh : HeapN L2 L2.length) : ISt S base w w2 0 (.slice none 0 0) := by
  have hs1 : base ≤ w1.heap.size := by have := hb.size; omega
  obtain ⟨v2, h1, h2, h3, h4⟩ := front_keeps (World.ownsRow_nil w1 base 36 3) (Apart.nil base (.slice none 0 0)) hto (Nat.le_refl _) (fun g h => absurd h (by simp [Value.ownBlock])) hs1
  exact ⟨v2, L2, h1, hh, hp, h2, h3, hb.trans h4, by have := h4.size; omega⟩
theorem i_len {S : List Nd} {base : Nat} {w wr : World} {m : Nat} {lv : Value} (h : ISt S base w wr m lv) : lenOf lv = m := by
  obtain ⟨v, L, _, _, _, ho, _⟩ := h
  rcases ho.2 with ⟨hv, h0⟩ | ⟨g, cap, cur, hv, _⟩
  · rw [hv, h0]; rfl
  · rw [hv]; rfl
theorem i_first {S : List Nd} {base : Nat} {w wr w1 w2 : World} {m : Nat} {lv v : Value} {L L2 : List Nd} {x t : Nd} (hD : Desc S) (ht : S[m]? = some t) (hf : Fr wr base base v L) (ho : wr.ownsRow base 36 3 lv m (ecs ((S.take m).map Nd.e))) (hap : Apart lv base v) (hb : Below base w wr) (hbs : base ≤ wr.heap.size)
    (hs : Same wr w1) (hto : FrTo base base w1 v L2 w2) (hp : (x :: L2).Perm (S.drop m)) (hmax : ∀ y ∈ L2, y.op ≤ x.op) :
    x = t ∧ L2.Perm (S.drop (m + 1)) ∧ ∃ v2, Fr w2 base base v2 L2 ∧ w2.ownsRow base 36 3 lv m (ecs ((S.take m).map Nd.e)) ∧ Apart lv base v2 ∧ Below base w w2 ∧ base ≤ w2.heap.size := by
  obtain ⟨hx, hpp⟩ := desc_step hD ht hp hmax
  obtain ⟨v2, h1, h2, h3, h4⟩ := front_keeps (hs.owns ho) hap hto (Nat.le_refl _) (fun g hg => (hf.own.lt g hg).1) (by rw [hs.heap]; exact hbs)
  exact ⟨hx, hpp, v2, h1, h2, h3, (hb.trans (hs.below base)).trans h4, by have := h4.size; rw [hs.heap] at this; omega⟩
theorem i_take {S : List Nd} {m : Nat} {t : Nd} (ht : S[m]? = some t) : ecs ((S.take (m + 1)).map Nd.e) = ecs ((S.take m).map Nd.e) ++ El.cs t.e := by
  obtain ⟨h1, h2⟩ := List.getElem?_eq_some_iff.1 ht
  rw [List.take_succ_eq_append_getElem h1, List.map_append, ecs_append, h2]
  simp [ecs]
theorem i_next {S : List Nd} {base m : Nat} {w w2 w8 : World} {lv v8 v2 : Value} {L2 : List Nd} {o : Obj} {e : El} (hmt : ecs ((S.take (m + 1)).map Nd.e) = ecs ((S.take m).map Nd.e) ++ El.cs e) (hp : L2.Perm (S.drop (m + 1))) (hh : HeapN L2 L2.length)
    (hf : Fr w2 base base v2 L2) (ho : w2.ownsRow base 36 3 lv m (ecs ((S.take m).map Nd.e))) (hap : Apart lv base v2) (hb : Below base w w2) (hbs : base ≤ w2.heap.size)
    (ho8 : w8.ownsRow base 36 3 v8 (m + 1) (ecs ((S.take m).map Nd.e) ++ El.cs e)) (hg : (w2.alloc o).grownBy w8 lv.ownBlock) (hat : v8.ownBlock = lv.ownBlock ∨ v8.ownBlock = some (w2.alloc o).heap.size) : ISt S base w w8 (m + 1) v8 := by
  obtain ⟨h1, h2⟩ := append_keeps (hf.alloc o) hg hap hat
  have hsz := hg.size
  have hs : (w2.alloc o).heap.size = w2.heap.size + 1 := by simp
  rw [← hmt] at ho8
  exact ⟨v2, L2, h1, hh, hp, ho8, h2, hb.trans (((Below.refl base w2).alloc hbs _).grown hg (by omega) (fun j hj => (ho.lt j hj).1)), by omega⟩
end Go.Proofs.Ytbhfokpakljfoaa
/- tree.Under -/
namespace Go.Proofs.Ytbhfokpakljfoaa
open Go.RowKit Go.Lib Go.Sort

theorem NodesAt.up {w : World} {base base' : Nat} {a : Option Addr} {l : List Nd} (h : NodesAt w base a l) (hb : base ≤ base') : NodesAt w base' a l :=
  ⟨fun j hj => by
    obtain ⟨b, off, h1, h2, h3⟩ := h.cell j hj
    exact ⟨b, off, h1, by omega, h3⟩⟩
theorem grp_below {w wr : World} {bm : Nat} {A : List Tn} (h : Grp w bm A) (hb : Below w.heap.size w wr) : Grp wr bm A := by
  obtain ⟨n, V, hM, h1, h2⟩ := h
  refine ⟨n, V, hM.kept (hb.block bm hM.lt), h1, fun e v hv => ?_⟩
  obtain ⟨a, cap, rfl, hn⟩ := h2 e v hv
  exact ⟨a, cap, rfl, (hn.below hb).up hb.size⟩
theorem drew_below {w w' : World} (h : Below w.drew.heap.size w.drew w') : Below w.heap.size w w' := ⟨h.os, h.tape, h.output, h.size, fun k hk => h.block k hk⟩
/-- what hangs under e, in new memory; or none does, as e is not there -/
def UndPost (bb : Bool) (X : List El) (w : World) (x : Ending) (w' : World) : Prop :=
  (bb = false ∧ (∃ v, x = .returned (.tuple #[v, .int .i64 0]) ∧ w'.ownsRow w.heap.size 36 3 v X.length (ecs X)) ∧ Below w.heap.size w w') ∨ (bb = true ∧ x = .returned (.tuple #[.slice none 0 0, .int .i64 3]) ∧ Below w.heap.size w w')
theorem e_fit {l : List OpD} (hr : rowP l) {e : El} (he : e = B0 ∨ e ∈ ordE l) : e.fit := by
  rcases he with rfl | he
  · exact b0_fit
  · have hinv := row_inv hr.2 l.length (Nat.le_refl _)
    rw [List.take_length] at hinv
    unfold ordE at he
    obtain ⟨u, hu, rfl⟩ := List.mem_map.1 he
    exact ord_fit hinv (fun s => Nat.le_trans (cnt_le _ _) hr.1) u hu
end Go.Proofs.Ytbhfokpakljfoaa
