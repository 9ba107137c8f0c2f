/- the law's own ops: lectionarylaw12.some -/
import Derived.Test.YtnkinbobnhdpaaaDoorKBts
import Derived.Test.YtnkinbobnhdpaaaDoorKRow
namespace Go.Proofs.YtnkinbobnhdpaaaDoor
open Go.RowKit Go.Lib Go.Sort

def smE : El := ⟨2, 300, 3⟩
def sm0 : OpD := ⟨1, 1, 1, ⟨0, 0, 0⟩, ⟨#[97, 98, 230, 151, 165]⟩, [], 0, 0, 0⟩
def sm1 : OpD := ⟨3, 200, 1, smE, ⟨#[97]⟩, [⟨1, 1, 0⟩, smE], 0, 0, 0⟩
def sm2 : OpD := ⟨8, 268435456, 1, ⟨0, 0, 0⟩, ⟨#[]⟩, [smE], 0, 0, 0⟩
def sm3 : OpD := ⟨1, 3, 2, ⟨0, 0, 0⟩, ⟨#[]⟩, [], 2, 1, 268435456⟩
def smL : List OpD := [sm0, sm1, sm2, sm3]
theorem sm_ok : ∀ o ∈ smL, okOp o = true := by
  intro o ho
  simp only [smL, List.mem_cons, List.not_mem_nil, or_false] at ho
  rcases ho with rfl | rfl | rfl | rfl <;> kernel_rfl
def smR (b : Nat) : List OpR := [⟨sm0, none, 0⟩, ⟨sm1, some ⟨b + 1, 0, none⟩, 2⟩, ⟨sm2, some ⟨b + 2, 0, none⟩, 1⟩, ⟨sm3, none, 0⟩]
/-- elements in a block of their own -/
theorem elems_hp {t : TypeId} {w : World} {b : Nat} {l : List El} (h : Hp t w b (ecs l).toArray) : ElemsAt w (some ⟨b, 0, none⟩) l :=
  ⟨fun j hj => by
    have hg : ∀ c, c < 3 → w.cell? ⟨b, 0 + j * 3 + c, none⟩ = ((l[j].cs)[c]?) := fun c hc => by
      have h1 : (ecs l).toArray[0 + j * 3 + c]? = (l[j].cs)[c]? := by
        rw [Nat.zero_add, List.getElem?_toArray]
        exact ecs_get l j c hj hc
      rw [← h1]
      rw [cell_of_row w b (0 + j * 3 + c) _ _ _ h.heap]
    refine ⟨b, 0, rfl, h.lt, ?_, ?_, ?_⟩
    · exact hg 0 (by omega)
    · exact hg 1 (by omega)
    · exact hg 2 (by omega)⟩
theorem ops_hp {t : TypeId} {w : World} {b : Nat} {L : List OpR} (h : Hp t w b (ocs L).toArray) (ha : ∀ r ∈ L, OpAt w r.o r.a r.cap) (hl : L.length ≤ BIG) : OpsAt w (some ⟨b, 0, none⟩) L :=
  ⟨fun j hj => ⟨b, 0, rfl, h.lt, fun c u hu => by
    have hc : c < 11 := (List.getElem?_eq_some_iff.1 hu).1
    have h1 : (ocs L).toArray[0 + j * 11 + c]? = (L[j].cs)[c]? := by
      rw [Nat.zero_add, List.getElem?_toArray]
      exact ocs_get L j c hj hc
    rw [cell_of_row w b (0 + j * 11 + c) _ _ _ h.heap, h1]
    exact hu⟩, fun j hj => ha _ (List.getElem_mem hj), hl⟩
theorem hp_at {t : TypeId} (W : World) (cs : Array Value) {n : Nat} (h : W.heap.size = n) : Hp t (W.alloc (.cells cs t)) n cs := h ▸ Hp.new W cs t
def smC (b : Nat) : Array Value := (ocs (smR b)).toArray
theorem sm_world (w : World) : OpsAt ((((w.alloc (.cells #[.int .i64 2, .int .i64 300, .int .i64 3] 34)).alloc (.cells (ecs sm1.gone).toArray 34)).alloc (.cells (ecs sm2.gone).toArray 34)).alloc (.cells (smC w.heap.size) 36)) (some ⟨w.heap.size + 1 + 1 + 1, 0, none⟩) (smR w.heap.size) := by
  have z1 : (w.alloc (.cells #[.int .i64 2, .int .i64 300, .int .i64 3] 34)).heap.size = w.heap.size + 1 := World.size_alloc _ _
  generalize w.alloc (.cells #[.int .i64 2, .int .i64 300, .int .i64 3] 34) = W1 at *
  have h2 := hp_at (t := 34) W1 (ecs sm1.gone).toArray z1
  have z2 : (W1.alloc (.cells (ecs sm1.gone).toArray 34)).heap.size = w.heap.size + 1 + 1 := by rw [World.size_alloc, z1]
  generalize W1.alloc (.cells (ecs sm1.gone).toArray 34) = W2 at *
  have h3 := hp_at (t := 34) W2 (ecs sm2.gone).toArray z2
  have h2' := h2.step (below_al W2 (.cells (ecs sm2.gone).toArray 34))
  have z3 : (W2.alloc (.cells (ecs sm2.gone).toArray 34)).heap.size = w.heap.size + 1 + 1 + 1 := by rw [World.size_alloc, z2]
  generalize W2.alloc (.cells (ecs sm2.gone).toArray 34) = W3 at *
  have h4 := hp_at (t := 36) W3 (smC w.heap.size) z3
  have h2'' := h2'.step (below_al W3 (.cells (smC w.heap.size) 36))
  have h3' := h3.step (below_al W3 (.cells (smC w.heap.size) 36))
  refine ops_hp h4 (fun r hr => ?_) (by show 4 ≤ BIG; unfold BIG; decide)
  simp only [smR, List.mem_cons, List.not_mem_nil, or_false] at hr
  rcases hr with rfl | rfl | rfl | rfl
  · exact mk_at (o := sm0) rfl (by unfold BIG; decide) _
  · exact ⟨elems_hp h2'', (by unfold BIG; decide : sm1.gone.length ≤ BIG), (by unfold BIG; decide : sm1.text.size ≤ BIG), fun h => by cases h⟩
  · exact ⟨elems_hp h3', (by unfold BIG; decide : sm2.gone.length ≤ BIG), (by unfold BIG; decide : sm2.text.size ≤ BIG), fun h => by cases h⟩
  · exact mk_at (o := sm3) rfl (by unfold BIG; decide) _
def SomeP (w : World) (e : Ending) (w' : World) : Prop := ∃ b, e = .returned (.slice (some ⟨b, 0, none⟩) 4 4) ∧ (∃ g, OpsAt w' (some ⟨b, 0, none⟩) (smR g)) ∧ Below w.heap.size w w'
set_option maxRecDepth 100000 in
set_option maxHeartbeats 2000000 in
theorem some_any (w : World) : Calls Tryd.prog 36 #[] w (SomeP w) := by
  have HX := Hp.new w #[.int .i64 2, .int .i64 300, .int .i64 3] 34
  have k0 : (w.alloc (.cells #[.int .i64 2, .int .i64 300, .int .i64 3] 34)).cell? ⟨w.heap.size, 0, none⟩ = some (.int .i64 2) := HX.cell 0 rfl
  have k1 : (w.alloc (.cells #[.int .i64 2, .int .i64 300, .int .i64 3] 34)).cell? ⟨w.heap.size, 1, none⟩ = some (.int .i64 300) := HX.cell 1 rfl
  have k2 : (w.alloc (.cells #[.int .i64 2, .int .i64 300, .int .i64 3] 34)).cell? ⟨w.heap.size, 2, none⟩ = some (.int .i64 3) := HX.cell 2 rfl
  have HB := Lib.hid (below_al w (.cells #[.int .i64 2, .int .i64 300, .int .i64 3] 34))
  have hz : (w.alloc (.cells #[.int .i64 2, .int .i64 300, .int .i64 3] 34)).heap.size = w.heap.size + 1 := World.size_alloc _ _
  clear HX
  go_enter Tryd.func36, Tryd.ntmps36
  go_wp2_with fail
  have HE := sm_world w
  go_ret
  exact ⟨_, rfl, ⟨w.heap.size, HE⟩, ((HB.out.alloc HB.out.size _).alloc (by rw [World.size_alloc]; have := HB.out.size; omega) _).alloc (by rw [World.size_alloc, World.size_alloc]; have := HB.out.size; omega) _⟩
end Go.Proofs.YtnkinbobnhdpaaaDoor
