/- the front: hold, first -/
import Derived.Test.YtbalcamjccfkdaaFHeap
namespace Go.Proofs.Ytbalcamjccfkdaa
open Go.RowKit Go.Lib

/-- a slice of nodes that may be read, from blocks below base on -/
structure NodesAt (w : World) (base : Nat) (a : Option Addr) (l : List Nd) : Prop where
  cell : ∀ j (h : j < l.length), ∃ b off, a = some ⟨b, off, none⟩ ∧ b < base ∧ b < w.heap.size ∧ w.cell? ⟨b, off + j * 4, none⟩ = some (.int .i64 l[j].e.s) ∧ w.cell? ⟨b, off + j * 4 + 1, none⟩ = some (.int .i64 l[j].e.q) ∧ w.cell? ⟨b, off + j * 4 + 2, none⟩ = some (.int .i64 l[j].e.i) ∧ w.cell? ⟨b, off + j * 4 + 3, none⟩ = some (.int .i64 l[j].op)
theorem NodesAt.below {w w' : World} {base : Nat} {a : Option Addr} {l : List Nd} (h : NodesAt w base a l) (hb : Below base w w') : NodesAt w' base a l :=
  ⟨fun j hj => by
    obtain ⟨b, off, h1, h2, h2', h3, h4, h5, h6⟩ := h.cell j hj
    exact ⟨b, off, h1, h2, Nat.lt_of_lt_of_le h2' hb.size, (hb.cell (p := ⟨b, off + j * 4, none⟩) h2).trans h3, (hb.cell (p := ⟨b, off + j * 4 + 1, none⟩) h2).trans h4, (hb.cell (p := ⟨b, off + j * 4 + 2, none⟩) h2).trans h5, (hb.cell (p := ⟨b, off + j * 4 + 3, none⟩) h2).trans h6⟩⟩
theorem Kept.below {F base : Nat} {r : Option Nat} {w w' : World} (h : Kept F r w w') (hF : base ≤ F) (hr : ∀ g, r = some g → base ≤ g) (hs : base ≤ w.heap.size) : Below base w w' :=
  ⟨h.os, h.tape, h.output, h.size, fun k hk => h.block k (by omega) (by omega) (fun e => by have := hr k e.symm; omega)⟩
theorem Fr.base {w : World} {base F : Nat} {v : Value} {L : List Nd} (h : Fr w base F v L) : ∀ g, v.ownBlock = some g → base ≤ g := fun g hg => (h.own.lt g hg).1

def HoldPost (base F : Nat) (v : Value) (L : List Nd) (w : World) (e : Ending) (w' : World) : Prop :=
  e = .returned (.tuple #[]) ∧ ∃ L', FrTo base F w v L' w' ∧ L'.Perm L ∧ HeapN L' L'.length
set_option maxRecDepth 100000 in
set_option maxHeartbeats 1000000 in
theorem fHold_any (base F : Nat) (v : Value) (L ns : List Nd) (a : Option Addr) (cap : Nat) (w : World) (h : Fr w base F v L) (hh : HeapN L L.length) (hn : NodesAt w base a ns) (hl : L.length + ns.length ≤ 1000) :
    Calls Try.prog 21 #[.pointer (some ⟨F, 0, none⟩), .slice a ns.length cap] w (HoldPost base F v (L ++ ns) w) := by
  have HF := Lib.hid h
  have HH := Lib.hid hh
  have HN := Lib.hid hn
  have HNL := Lib.hid (show L.length + ns.length ≤ 1000 from hl)
  have hm : ns.length ≤ 1000 := by omega
  obtain ⟨m, hmm⟩ : ∃ m, ns.length = m := ⟨_, rfl⟩
  rw [hmm] at hm ⊢
  have HM := Lib.hid hmm
  clear h hh hn hl hmm
  go_enter Try.func21, Try.ntmps21
  go_wp2_with fail
  go_loopw [8] (fun s8 wr => ∃ (k : Nat) (L' : List Nd), s8 = .int .i64 k ∧ k ≤ m ∧ FrTo base F w v L' wr ∧ L'.Perm (L ++ ns.take k) ∧ HeapN L' L'.length) (fun s8 _ => m - (RowKit.intOf s8).toNat)
  case atStart => exact ⟨0, L, rfl, Nat.zero_le _, FrTo.refl HF.out, by simp, HH.out⟩
  case round =>
    obtain ⟨k, L', rfl, hk, hfr, hp, hh⟩ := hrel
    by_cases hlt : k < m
    · obtain ⟨v1, hf1, hk1, hn1⟩ := hfr
      have hns := HN.out.below (hk1.below HF.out.ge HF.out.base (by have := HF.out.ge; have := HF.out.lt; omega))
      obtain ⟨b, off, rfl, hbb, hbs, x0, x1, x2, x3⟩ := hns.cell k (by rw [HM.out]; exact hlt)
      have hLen := hp.length_eq
      rw [List.length_append, List.length_take] at hLen
      have HC := Lib.hid (fun wx (hx : Fr wx base F v1 L') => hPush_any base F v1 L' (ns[k]'(by rw [HM.out]; exact hlt)) wx hx hh (by have := HNL.out; omega))
      have HT := Lib.hid (show (L' ++ [ns[k]'(by rw [HM.out]; exact hlt)]).Perm (L ++ ns.take (k + 1)) from by
        rw [List.take_succ_eq_append_getElem (by rw [HM.out]; exact hlt), ← List.append_assoc]
        exact hp.append_right _)
      have HF1 := Lib.hid hf1
      have HK1 := Lib.hid hk1
      have HN1 := Lib.hid hn1
      clear hf1 hk1 hn1 hp hh hns hLen
      generalize ns[k]'(by rw [HM.out]; exact hlt) = nd at *
      obtain ⟨⟨es, eq, ei⟩, op⟩ := nd
      unfold Nd.v at HC
      simp only at x0 x1 x2 x3 HC
      go_wp2_with (first | (go_at_call 31; refine (HC.out _ (HF1.out.alloc _)).mono ?_; rintro x5 w5 ⟨rfl, L5, hto5, hp5, hh5⟩; have HTO5 := Lib.hid hto5; have HP5 := Lib.hid hp5; have HH5 := Lib.hid hh5; clear hto5 hp5 hh5))
      go_roundw
      case rel => exact ⟨k + 1, L5, by go_num, by omega, FrTo.trans (kept_alloc HK1.out _) HN1.out HTO5.out, HP5.out.trans HT.out, HH5.out⟩
      case measure => simp [RowKit.intOf]; omega
    · have h0 : k = m := by omega
      have HFIN : RowKit.Hid (HoldPost base F v (L ++ ns) w (.returned (.tuple #[])) wr) := Lib.hid ⟨rfl, L', hfr, by rw [h0, ← HM.out, List.take_length] at hp; exact hp, hh⟩
      clear hfr hp hh
      go_wp2
      go_end0
      exact HFIN.out

/-- the first node's element; the front without it -/
def FirstPost (base F : Nat) (v : Value) (L : List Nd) (w : World) (e : Ending) (w' : World) : Prop :=
  ∃ x L', e = .returned (El.v (Nd.e x)) ∧ FrTo base F w v L' w' ∧ (x :: L').Perm L ∧ (∀ y ∈ L', y.op ≤ x.op) ∧ HeapN L' L'.length
theorem FrTo.alloc {base F : Nat} {w w' : World} {v : Value} {L : List Nd} (h : FrTo base F w v L w') (o : Obj) : FrTo base F w v L (w'.alloc o) := by
  obtain ⟨v', h1, h2, h3⟩ := h
  exact ⟨v', h1.alloc o, kept_alloc h2 o, h3⟩
theorem fr_set_other {w : World} {base F : Nat} {v : Value} {L : List Nd} (h : Fr w base F v L) {k : Nat} (hF : k ≠ F) (hk : v.ownBlock ≠ some k) (o : Nat) (u : Value) : Fr (w.setCell ⟨k, o, none⟩ u) base F v L := by
  refine ⟨by rw [set_other (Ne.symm hF)]; exact h.box, ?_, h.ge, h.ne⟩
  refine ⟨h.own.1, ?_⟩
  rcases h.own.2 with h2 | ⟨g, cap, cur, hv, hg, hh, r⟩
  · exact .inl h2
  · refine .inr ⟨g, cap, cur, hv, hg, ?_, r⟩
    rw [set_other (by intro e; subst hv; exact hk (by simp [Value.ownBlock, e]))]
    exact hh
theorem kept_setNew {F : Nat} {r : Option Nat} {w w1 : World} (h : Kept F r w w1) {k : Nat} (hk : w.heap.size ≤ k) (o : Nat) (u : Value) : Kept F r w (w1.setCell ⟨k, o, none⟩ u) :=
  ⟨h.os, h.tape, h.output, by rw [World.size_setCell]; exact h.size, fun j hj h1 h2 => by
    rw [set_other (by omega)]
    exact h.block j hj h1 h2⟩
theorem first_fin {w w5 : World} {base F : Nat} {v : Value} {L L5 : List Nd} {o : Obj} (h : Fr w base F v L) (hto : FrTo base F (w.alloc o) v L5 w5) (a b c : Value) (o2 : Obj) :
    FrTo base F w v L5 ((((w5.setCell ⟨w.heap.size, 0, none⟩ a).setCell ⟨w.heap.size, 1, none⟩ b).setCell ⟨w.heap.size, 2, none⟩ c).alloc o2) := by
  obtain ⟨v5, h5, hk5, hn5⟩ := hto
  have hF : w.heap.size ≠ F := by have := h.lt; omega
  have hs1 : (w.alloc o).heap.size = w.heap.size + 1 := by simp
  have hr : v5.ownBlock ≠ some w.heap.size := by
    intro e
    rcases hn5 with e2 | ⟨g, e2, hg⟩
    · have := (h.own.lt w.heap.size (by rw [← e2, e])).2
      omega
    · rw [e] at e2
      cases e2
      omega
  have hk : Kept F v.ownBlock w w5 := (kept_alloc (Kept.refl F v.ownBlock w) o).then hk5
  refine FrTo.alloc ⟨v5, fr_set_other (fr_set_other (fr_set_other h5 hF hr _ _) hF hr _ _) hF hr _ _, kept_setNew (kept_setNew (kept_setNew hk (Nat.le_refl _) _ _) (Nat.le_refl _) _ _) (Nat.le_refl _) _ _, ?_⟩ o2
  rcases hn5 with e | ⟨g, e, hg⟩
  · exact .inl e
  · exact .inr ⟨g, e, by omega⟩
theorem first_cells {w w5 : World} {base F : Nat} {v : Value} {L L5 : List Nd} {c0 c1 c2 : Value} {t : TypeId} (h : Fr w base F v L) (hto : FrTo base F (w.alloc (.cells #[c0, c1, c2] t)) v L5 w5) :
    (w5.cell? ⟨w.heap.size, 0, none⟩ = some c0 ∧ w5.cell? ⟨w.heap.size, 1, none⟩ = some c1 ∧ w5.cell? ⟨w.heap.size, 2, none⟩ = some c2) ∧ (∀ o, w5.frozen? ⟨w.heap.size, o, none⟩ = false) ∧ w.heap.size < w5.heap.size := by
  obtain ⟨v5, h5, hk5, hn5⟩ := hto
  have hF : w.heap.size ≠ F := by have := h.lt; omega
  have hs1 : (w.alloc (.cells #[c0, c1, c2] t)).heap.size = w.heap.size + 1 := by simp
  have hb : w5.heap[w.heap.size]? = some (.cells #[c0, c1, c2] t (0, 0)) := by
    rw [hk5.block w.heap.size (by omega) hF (fun e => by have := (h.own.lt w.heap.size e.symm).2; omega)]
    exact heap_alloc_new w _
  refine ⟨⟨?_, ?_, ?_⟩, fun o => ?_, by have := hk5.size; omega⟩
  all_goals first | (simp [World.cell?, hb]; done) | (simp [World.frozen?, hb])
set_option maxRecDepth 100000 in
set_option maxHeartbeats 1000000 in
theorem fFirst_any (base F : Nat) (v : Value) (L : List Nd) (w : World) (h : Fr w base F v L) (hh : HeapN L L.length) (h0 : 0 < L.length) (hl : L.length ≤ 1000) :
    Calls Try.prog 23 #[.pointer (some ⟨F, 0, none⟩)] w (FirstPost base F v L w) := by
  have HC := Lib.hid (fun wx (hx : Fr wx base F v L) => hPop_any base F v L wx hx hh h0 hl)
  have HF := Lib.hid h
  clear h hh h0 hl
  go_enter Try.func23, Try.ntmps23
  go_wp2_with (first | (go_at_call 32; refine (HC.out _ (HF.out.alloc _)).mono ?_; rintro x5 w5 ⟨⟨⟨es, eq, ei⟩, op⟩, L5, rfl, hto5, hp5⟩; have HTO5 := Lib.hid (first_fin HF.out hto5); have HP5 := Lib.hid hp5; obtain ⟨⟨p0, p1, p2⟩, hfz, hlt5⟩ := first_cells HF.out hto5; have f0 := hfz 0; have f1 := hfz 1; have f2 := hfz 2; clear hto5 hp5 hfz; unfold Nd.v; simp only))
  refine bodyPost_ret (v := .agg #[.int .i64 es, .int .i64 eq, .int .i64 ei]) (by simp [results, Try.results23, go_sem, p0, p1, p2, hlt5]) rfl ?_
  exact ⟨⟨⟨es, eq, ei⟩, op⟩, L5, rfl, HTO5.out _ _ _ _, HP5.out⟩
end Go.Proofs.Ytbalcamjccfkdaa
