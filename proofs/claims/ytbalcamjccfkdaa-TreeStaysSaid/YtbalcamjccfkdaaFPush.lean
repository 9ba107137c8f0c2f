/- the front: Push, Pop -/
import Derived.Test.YtbalcamjccfkdaaFLess
import Derived.Deep.AppendLies
import Derived.Deep.RegionLaw
import Derived.StillTailTactics
namespace Go.Proofs.Ytbalcamjccfkdaa
open Go.RowKit Go.Lib

theorem Try.infoNode : (Try.prog.info? 63).map (fun i => (i.zero, i.size, i.bytes)) = some (some (.agg #[.int .i64 0, .int .i64 0, .int .i64 0, .int .i64 0]), 4, 32) := by kernel_rfl
theorem cs_oneN (n : Nd) : ∀ u ∈ Nd.cs n, u.oneCell' = true := ints_oneCell .i64 [n.e.s, n.e.q, n.e.i, n.op]
theorem cell_four_new (w : World) (n : Nd) (t : TypeId) : ∀ j u, (Nd.cs n)[j]? = some u → (w.alloc (.cells #[.int .i64 n.e.s, .int .i64 n.e.q, .int .i64 n.e.i, .int .i64 n.op] t)).cell? ((⟨w.heap.size, 0, none⟩ : Addr).add j) = some u := by
  intro j u hu
  rw [Addr.add_lit, Nat.zero_add, World.cell?_alloc_new]
  rw [← hu]
  show (#[Value.int .i64 n.e.s, .int .i64 n.e.q, .int .i64 n.e.i, .int .i64 n.op] : Array Value)[j]? = [Value.int .i64 n.e.s, .int .i64 n.e.q, .int .i64 n.e.i, .int .i64 n.op][j]?
  simp

def PushPost (base F : Nat) (v : Value) (L : List Nd) (w : World) (e : Ending) (w' : World) : Prop := e = .returned (.tuple #[]) ∧ FrTo base F w v L w'

theorem kept_alloc {F : Nat} {r : Option Nat} {w w1 : World} (h : Kept F r w w1) (o : Obj) : Kept F r w (w1.alloc o) :=
  ⟨h.os, h.tape, h.output, by rw [World.size_alloc]; have := h.size; omega, fun k hk h1 h2 => by
    rw [← h.block k hk h1 h2]
    exact heap_alloc_old w1 o (Nat.lt_of_lt_of_le hk h.size)⟩
theorem kept_grown {F : Nat} {r r1 : Option Nat} {w w1 w2 : World} (h : Kept F r w w1) (hr : NewRow w r r1) (hg : w1.grownBy w2 r1) : Kept F r w w2 :=
  h.trans hr ⟨hg.os, hg.tape, hg.output, hg.size, fun k hk _ h2 => hg.block k hk h2⟩
theorem box_set {w : World} {F : Nat} {v u : Value} {t : TypeId} (h : w.heap[F]? = some (.cells #[v] t (0, 0))) : (w.setCell ⟨F, 0, none⟩ u).heap[F]? = some (.cells #[u] t (0, 0)) := by
  unfold World.setCell
  simp [Array.getElem?_modify, h]
theorem set_other {w : World} {F k : Nat} {o : Nat} {u : Value} (h : k ≠ F) : (w.setCell ⟨F, o, none⟩ u).heap[k]? = w.heap[k]? := by
  unfold World.setCell
  simp [Array.getElem?_modify, Ne.symm h]
theorem kept_set {F : Nat} {r : Option Nat} {w w1 : World} (h : Kept F r w w1) (u : Value) : Kept F r w (w1.setCell ⟨F, 0, none⟩ u) :=
  ⟨h.os, h.tape, h.output, by rw [World.size_setCell]; exact h.size, fun k hk h1 h2 => by
    rw [set_other h1]
    exact h.block k hk h1 h2⟩
theorem owns_set {w : World} {base F : Nat} {e : TypeId} {size : Nat} {v : Value} {n : Nat} {xs : List Value} (h : w.ownsRow base e size v n xs) (hne : v.ownBlock ≠ some F) (u : Value) : (w.setCell ⟨F, 0, none⟩ u).ownsRow base e size v n xs := by
  refine ⟨h.1, ?_⟩
  rcases h.2 with h2 | ⟨g, cap, cur, hv, hg, hh, r⟩
  · exact .inl h2
  · refine .inr ⟨g, cap, cur, hv, hg, ?_, r⟩
    rw [set_other (by intro e; subst hv; exact hne (by simp [Value.ownBlock, e]))]
    exact hh
theorem push_fin {w w2 w3 : World} {base F : Nat} {v : Value} {L : List Nd} {n : Nd} {g cap : Nat} (h : Fr w base F v L) (hk : Kept F v.ownBlock w w2) (ho : w3.ownsRow base 63 4 (.slice (some ⟨g, 0, none⟩) (L.length + 1) cap) (L.length + 1) (ncs L ++ Nd.cs n))
    (hg : w2.grownBy w3 v.ownBlock) (hat : v.ownBlock = some g ∨ g = w2.heap.size) (hF : w2.heap[F]? = w.heap[F]?) : FrTo base F w v (L ++ [n]) (w3.setCell ⟨F, 0, none⟩ (.slice (some ⟨g, 0, none⟩) (L.length + 1) cap)) := by
  have hlt := h.lt
  have hsz := hk.size
  have hgF : g ≠ F := by
    rcases hat with e | e
    · intro e2; exact h.ne (by rw [e, e2])
    · omega
  refine ⟨.slice (some ⟨g, 0, none⟩) (L.length + 1) cap, ⟨box_set (v := v) ?_, ?_, h.ge, by simp [Value.ownBlock, hgF]⟩, kept_set (kept_grown hk (.inl rfl) hg) _, ?_⟩
  · rw [hg.block F (by omega) (fun e => h.ne e.symm), hF]
    exact h.box
  · have := owns_set (F := F) ho (by simp [Value.ownBlock, hgF]) (.slice (some ⟨g, 0, none⟩) (L.length + 1) cap)
    rw [List.length_append, List.length_singleton, ncs_append]
    have e : ncs [n] = Nd.cs n := by simp [ncs]
    rw [e]
    exact this
  · rcases hat with e | e
    · exact .inl (by rw [e]; rfl)
    · exact .inr ⟨g, rfl, by omega⟩
theorem push_fin2 {w wu w3 : World} {base F : Nat} {a : Option Addr} {cap : Nat} {L : List Nd} {es eq ei op : Int} {g cap8 : Nat} {o : Obj} (h : Fr w base F (.slice a L.length cap) L) (hk : Kept F (Value.slice a L.length cap).ownBlock w wu) (hu : Fr wu base F (.slice a L.length cap) L) (hb : wu.heap[F]? = w.heap[F]?) (ho : w3.ownsRow base 63 4 (.slice (some ⟨g, 0, none⟩) (L.length + 1) cap8) (L.length + 1) (ncs L ++ Nd.cs ⟨⟨es, eq, ei⟩, op⟩))
    (hg : (wu.alloc o).drew.grownBy w3 (Value.slice a L.length cap).ownBlock) (hat : (Value.slice a L.length cap).ownBlock = some g ∨ g = (wu.alloc o).drew.heap.size) : FrTo base F w (.slice a L.length cap) (L ++ [⟨⟨es, eq, ei⟩, op⟩]) (w3.setCell ⟨F, 0, none⟩ (.slice (some ⟨g, 0, none⟩) (L.length + 1) cap8)) := by
  have hk2 := kept_alloc hk o
  have hd : (wu.alloc o).grownBy w3 (Value.slice a L.length cap).ownBlock := ⟨hg.os, hg.tape, hg.output, hg.size, hg.block⟩
  exact push_fin h hk2 ho hd hat ((heap_alloc_old wu o hu.lt).trans hb)
theorem push_box {wu w3 : World} {base F : Nat} {v : Value} {L : List Nd} {o : Obj} (hu : Fr wu base F v L) (hg : (wu.alloc o).drew.grownBy w3 v.ownBlock) : w3.cell? ⟨F, 0, none⟩ = some v ∧ w3.frozen? ⟨F, 0, none⟩ = false := by
  have h := hg.block F (by have := hu.lt; show F < (wu.alloc o).heap.size; simp; omega) (fun e => hu.ne e.symm)
  have h2 : w3.heap[F]? = some (.cells #[v] 58 (0, 0)) := h.trans ((heap_alloc_old wu o hu.lt).trans hu.box)
  constructor
  · simp [World.cell?, h2]
  · simp [World.frozen?, h2]
@[go_sem] theorem asNode (v : Value) (w : World) : (Instr.typeAssert (.iface 63 v) 20 63 true).run Try.prog w = .ok (.tuple #[v, .bool true]) w := by kernel_rfl
theorem front_frozen {w : World} {base F : Nat} {v : Value} {L : List Nd} (h : Fr w base F v L) : w.frozen? ⟨F, 0, none⟩ = false := by
  simp [World.frozen?, h.box]
theorem owns_drew {w : World} {base : Nat} {e : TypeId} {size : Nat} {v : Value} {n : Nat} {xs : List Value} (h : w.ownsRow base e size v n xs) : w.drew.ownsRow base e size v n xs := h
theorem cell_four_drew (w : World) (n : Nd) (t : TypeId) : ∀ j u, (Nd.cs n)[j]? = some u → (w.alloc (.cells #[.int .i64 n.e.s, .int .i64 n.e.q, .int .i64 n.e.i, .int .i64 n.op] t)).drew.cell? ((⟨w.heap.size, 0, none⟩ : Addr).add j) = some u := cell_four_new w n t
theorem Fr.alloc {w : World} {base F : Nat} {v : Value} {L : List Nd} (h : Fr w base F v L) (o : Obj) : Fr (w.alloc o) base F v L :=
  ⟨by rw [heap_alloc_old w o h.lt]; exact h.box, h.own.alloc o, h.ge, h.ne⟩
set_option maxRecDepth 100000 in
set_option maxHeartbeats 1000000 in
theorem fPush_any (base F : Nat) (v : Value) (L : List Nd) (n : Nd) (w : World) (h : Fr w base F v L) (hl : L.length ≤ 1000) :
    Calls Try.prog 89 #[.pointer (some ⟨F, 0, none⟩), .iface 63 n.v] w (PushPost base F v (L ++ [n]) w) := by
  obtain ⟨i0, hi0, hz0, hz1, hz2⟩ := info_parts Try.infoNode
  obtain ⟨a, cap, hv, hcap, hm, hsome⟩ := h.form
  have c0 := h.cell
  have hlt := h.lt
  have hge := h.ge
  have z0 := front_frozen h
  have HM1 := Lib.hid (show L.length + 1 ≤ maxLen from by simp only [maxLen]; omega)
  have HM2 := Lib.hid (show (L.length + 1) * 32 ≤ 140737488355328 from by omega)
  have HF := Lib.hid h
  have HO := Lib.hid h.own
  have HNE := Lib.hid h.ne
  clear h hsome hl hm
  subst hv
  obtain ⟨⟨es, eq, ei⟩, op⟩ := n
  unfold Nd.v
  simp only
  go_enter Try.func89, Try.ntmps89
  go_wp2_with fail
  have hK := kept_alloc (Kept.refl F (Value.slice a L.length cap).ownBlock w) (.cells #[.int .i64 es, .int .i64 eq, .int .i64 ei, .int .i64 op] 63)
  obtain ⟨d0, d1, d2, d3⟩ : (w.alloc (.cells #[.int .i64 es, .int .i64 eq, .int .i64 ei, .int .i64 op] 63)).cell? ⟨w.heap.size, 0, none⟩ = some (.int .i64 es) ∧ (w.alloc (.cells #[.int .i64 es, .int .i64 eq, .int .i64 ei, .int .i64 op] 63)).cell? ⟨w.heap.size, 1, none⟩ = some (.int .i64 eq) ∧ (w.alloc (.cells #[.int .i64 es, .int .i64 eq, .int .i64 ei, .int .i64 op] 63)).cell? ⟨w.heap.size, 2, none⟩ = some (.int .i64 ei) ∧ (w.alloc (.cells #[.int .i64 es, .int .i64 eq, .int .i64 ei, .int .i64 op] 63)).cell? ⟨w.heap.size, 3, none⟩ = some (.int .i64 op) := by
    refine ⟨?_, ?_, ?_, ?_⟩ <;> (rw [World.cell?_alloc_new]; rfl)
  have HFu : RowKit.Hid (Fr (w.alloc (.cells #[.int .i64 es, .int .i64 eq, .int .i64 ei, .int .i64 op] 63)) base F (.slice a L.length cap) L) := Lib.hid (HF.out.alloc _)
  have HBX : RowKit.Hid ((w.alloc (.cells #[.int .i64 es, .int .i64 eq, .int .i64 ei, .int .i64 op] 63)).heap[F]? = w.heap[F]?) := Lib.hid (heap_alloc_old w _ hlt)
  have hsz : w.heap.size < (w.alloc (.cells #[.int .i64 es, .int .i64 eq, .int .i64 ei, .int .i64 op] 63)).heap.size := by simp
  have HK := Lib.hid hK
  clear hK c0 z0 HO
  generalize (w.alloc (.cells #[.int .i64 es, .int .i64 eq, .int .i64 ei, .int .i64 op] 63)) = wu at *
  have HNS := Lib.hid (show base ≤ w.heap.size from by omega)
  generalize hnb : w.heap.size = nb at *
  have c0 := HFu.out.cell
  have z0 := front_frozen HFu.out
  have HO := Lib.hid HFu.out.own
  have hlt2 : F < wu.heap.size := HFu.out.lt
  clear hlt hnb
  go_region_law (first
    | (refine step_append_lies _ (by rfl) _ _ _ (by rfl) base 63 i0 (.agg #[.int .i64 0, .int .i64 0, .int .i64 0, .int .i64 0]) 4 32 Try.underlying58 hi0 hz0 hz1 hz2 (by rfl) (by decide) (.slice a L.length cap) L.length (ncs L) (by rfl) (owns_drew (HO.out.alloc _)) ⟨wu.heap.size, 0, none⟩ 1 1 (Nd.cs ⟨⟨es, eq, ei⟩, op⟩) (by rfl) (by rfl) (cell_four_drew _ ⟨⟨es, eq, ei⟩, op⟩ _) (cs_oneN ⟨⟨es, eq, ei⟩, op⟩) (by omega) HM1.out HM2.out (by have := HNS.out; simp; omega) _ rfl ?_; intro g8 cap8 w8 hown8 hgrow8 hat8 hlt8; have HFIN := push_fin2 HF.out HK.out HFu.out HBX.out hown8 hgrow8 hat8; obtain ⟨c8, z8⟩ := push_box HFu.out hgrow8))
  all_goals
    go_end0
    exact ⟨rfl, HFIN⟩

theorem owns_cutN {w : World} {base g n cap k : Nat} {t : TypeId} {xs : List Value} (h : w.ownsRow base t 4 (.slice (some ⟨g, 0, none⟩) n cap) n xs) (hk : k ≤ n) : w.ownsRow base t 4 (.slice (some ⟨g, 0, none⟩) k cap) k (xs.take (k * 4)) := by
  have hl := h.1
  rcases h.2 with ⟨h', _⟩ | ⟨g', cap', cur, h', hb, hg, hnc, hcm, hcs, ht⟩
  · simp at h'
  · simp only [Value.slice.injEq, Option.some.injEq, Addr.mk.injEq, and_true, true_and] at h'
    obtain ⟨rfl, rfl⟩ := h'
    refine ⟨by rw [List.length_take]; omega, .inr ⟨g, cap, cur, rfl, hb, hg, by omega, hcm, hcs, ?_⟩⟩
    rw [← ht, List.take_take, Nat.min_eq_left (by omega)]
/-- what is handed back, boxed -/
def PopPost (base F : Nat) (v : Value) (x : Nd) (L : List Nd) (w : World) (e : Ending) (w' : World) : Prop := e = .returned (.iface 63 x.v) ∧ FrTo base F w v L w'
theorem pop_fin {w : World} {base F g cap m : Nat} {L : List Nd} (h : Fr w base F (.slice (some ⟨g, 0, none⟩) (m + 1) cap) L) (hl : L.length = m + 1) (o : Obj) : FrTo base F w (.slice (some ⟨g, 0, none⟩) (m + 1) cap) (L.take m) ((w.setCell ⟨F, 0, none⟩ (.slice (some ⟨g, 0, none⟩) m cap)).alloc o) := by
  have hne : g ≠ F := fun e => h.ne (by rw [e]; rfl)
  have ho := h.own
  rw [hl] at ho
  have hc := owns_cutN ho (k := m) (by omega)
  rw [ncs_take] at hc
  have hlm : (L.take m).length = m := by rw [List.length_take]; omega
  have hfr : Fr (w.setCell ⟨F, 0, none⟩ (.slice (some ⟨g, 0, none⟩) m cap)) base F (.slice (some ⟨g, 0, none⟩) m cap) (L.take m) := by
    refine ⟨box_set h.box, ?_, h.ge, by simp [Value.ownBlock, hne]⟩
    rw [hlm]
    exact owns_set hc (by simp [Value.ownBlock, hne]) _
  exact ⟨_, hfr.alloc o, kept_alloc (kept_set (Kept.refl _ _ _) _) o, .inl rfl⟩
set_option maxRecDepth 100000 in
set_option maxHeartbeats 1000000 in
theorem fPop_any (base F : Nat) (v : Value) (L : List Nd) (m : Nat) (w : World) (h : Fr w base F v L) (hl : L.length = m + 1) :
    Calls Try.prog 88 #[.pointer (some ⟨F, 0, none⟩)] w (PopPost base F v L[m]! (L.take m) w) := by
  obtain ⟨a, cap, hv, hcap, hm, hsome⟩ := h.form
  obtain ⟨g, rfl⟩ := hsome (by omega)
  subst hv
  have hl2 := hl
  rw [hl] at h hcap ⊢
  have c0 := h.cell
  have hlt := h.lt
  have z0 := front_frozen h
  have ho := h.own
  rw [hl] at ho
  obtain ⟨x0, x1, x2, x3⟩ := row_nd ho hl m (by omega)
  have hgl := (ho.lt g rfl).2
  have HF := Lib.hid (pop_fin h hl)
  have hm63 : (m : Int) + 1 ≤ 9223372036854775807 := by simp only [maxLen] at hm; omega
  have hw1 : wrap64 ((m : Int) + 1 - 1) = (m : Int) := by rw [IntWalk.wrap64_in _ ⟨by omega, by omega⟩]; omega
  clear h ho hm hl hl2 hsome
  generalize L[m]! = x at *
  obtain ⟨⟨es, eq, ei⟩, op⟩ := x
  simp only at x0 x1 x2 x3
  unfold PopPost Nd.v
  simp only
  go_enter Try.func88, Try.ntmps88
  go_wp2
  go_ret
  exact ⟨rfl, HF.out _⟩
end Go.Proofs.Ytbalcamjccfkdaa
