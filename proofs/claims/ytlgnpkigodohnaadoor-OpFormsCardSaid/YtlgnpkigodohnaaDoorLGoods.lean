/- the ops that the law OpForms begins with -/
import Derived.Test.YtlgnpkigodohnaaDoorLWakes
namespace Go.Proofs.YtlgnpkigodohnaaDoor
open Go.RowKit Go.Lib

def goods (b : Nat) : List OpR := [⟨⟨1, 1, 1, ⟨0, 0, 0⟩, ⟨#[97, 98]⟩, [], 0, 0, 0⟩, none, 0⟩, ⟨⟨1, 2, 1, ⟨2, 1, 0⟩, ⟨#[97]⟩, [⟨2, 1, 0⟩, ⟨2, 1, 1⟩], 0, 0, 0⟩, some ⟨b + 1, 0, none⟩, 2⟩,
  ⟨⟨1, 2, 1, ⟨0, 0, 0⟩, ⟨#[]⟩, [⟨2, 1, 0⟩], 0, 0, 0⟩, some ⟨b + 1 + 1, 0, none⟩, 1⟩, ⟨⟨1, 3, 2, ⟨0, 0, 0⟩, ⟨#[]⟩, [], 2, 1, 4⟩, none, 0⟩]
theorem goods_small (b : Nat) : ∀ r ∈ goods b, r.o.gone.length ≤ 2 ∧ r.o.text.size ≤ 2 ∧ 1 ≤ r.o.kind ∧ r.o.kind ≤ 2 := by
  intro r hr
  unfold goods at hr
  simp only [List.mem_cons, List.not_mem_nil, or_false] at hr
  rcases hr with rfl | rfl | rfl | rfl
  all_goals
    refine ⟨?_, ?_, ?_, ?_⟩
    all_goals
      first
        | exact Nat.le_of_ble_eq_true rfl
        | (simp only; decide)
def WG1 (W : World) : World := W.alloc (.cells #[.int .i64 2, .int .i64 1, .int .i64 0] 29)
def WG2 (W : World) : World := (WG1 W).alloc (.cells #[.int .i64 2, .int .i64 1, .int .i64 0, .int .i64 2, .int .i64 1, .int .i64 1] 29)
def WG3 (W : World) : World := (WG2 W).alloc (.cells #[.int .i64 2, .int .i64 1, .int .i64 0] 29)
def WG (W : World) : World := (WG3 W).alloc (.cells #[.int .i64 1, .int .i64 1, .int .i64 1, .int .i64 0, .int .i64 0, .int .i64 0, .string ⟨#[97, 98]⟩, .slice none 0 0, .int .i64 0, .int .i64 0, .int .i64 0,
  .int .i64 1, .int .i64 2, .int .i64 1, .int .i64 2, .int .i64 1, .int .i64 0, .string ⟨#[97]⟩, .slice (some ⟨W.heap.size + 1, 0, none⟩) 2 2, .int .i64 0, .int .i64 0, .int .i64 0,
  .int .i64 1, .int .i64 2, .int .i64 1, .int .i64 0, .int .i64 0, .int .i64 0, .string ⟨#[]⟩, .slice (some ⟨W.heap.size + 1 + 1, 0, none⟩) 1 1, .int .i64 0, .int .i64 0, .int .i64 0,
  .int .i64 1, .int .i64 3, .int .i64 2, .int .i64 0, .int .i64 0, .int .i64 0, .string ⟨#[]⟩, .slice none 0 0, .int .i64 2, .int .i64 1, .int .i64 4] 31)
theorem wg1_size (W : World) : (WG1 W).heap.size = W.heap.size + 1 := by simp [WG1]
theorem wg2_size (W : World) : (WG2 W).heap.size = W.heap.size + 1 + 1 := by simp [WG2, wg1_size]
theorem wg3_size (W : World) : (WG3 W).heap.size = W.heap.size + 1 + 1 + 1 := by simp [WG3, wg2_size]
theorem wg_size (W : World) : (WG W).heap.size = W.heap.size + 1 + 1 + 1 + 1 := by simp [WG, wg3_size]
theorem below_alloc (W : World) (o : Obj) : Below W.heap.size W (W.alloc o) := (Below.refl _ _).alloc (Nat.le_refl _) _
theorem wg_below3 (W : World) : Below (WG3 W).heap.size (WG3 W) (WG W) := below_alloc _ _
theorem wg_below2 (W : World) : Below (WG2 W).heap.size (WG2 W) (WG W) := (below_alloc (WG2 W) _).trans ((wg_below3 W).mono (by rw [wg3_size, wg2_size]; omega))
theorem wg_below1 (W : World) : Below (WG1 W).heap.size (WG1 W) (WG W) := (below_alloc (WG1 W) _).trans ((wg_below2 W).mono (by rw [wg2_size, wg1_size]; omega))
theorem wg_below (W : World) : Below W.heap.size W (WG W) := (below_alloc W _).trans ((wg_below1 W).mono (by rw [wg1_size]; omega))
theorem wg_e (W : World) : BoxE (WG W) W.heap.size ⟨2, 1, 0⟩ := BoxE.step (BoxE.new W ⟨2, 1, 0⟩) (wg_below1 W)
theorem wg_g1 (W : World) : ElemsAt (WG W) (some ⟨W.heap.size + 1, 0, none⟩) [⟨2, 1, 0⟩, ⟨2, 1, 1⟩] := by
  have h : ElemsAt (WG2 W) (some ⟨W.heap.size + 1, 0, none⟩) [⟨2, 1, 0⟩, ⟨2, 1, 1⟩] := ⟨fun j hj => by
    refine ⟨W.heap.size + 1, 0, rfl, by rw [wg2_size]; omega, ?_⟩
    rw [← wg1_size W]
    unfold WG2
    have hj2 : j = 0 ∨ j = 1 := by simp at hj; omega
    rcases hj2 with rfl | rfl
    · exact ⟨by rw [World.cell?_alloc_new]; rfl, by rw [World.cell?_alloc_new]; rfl, by rw [World.cell?_alloc_new]; rfl⟩
    · exact ⟨by rw [World.cell?_alloc_new]; rfl, by rw [World.cell?_alloc_new]; rfl, by rw [World.cell?_alloc_new]; rfl⟩⟩
  exact h.below (wg_below2 W)
theorem wg_g2 (W : World) : ElemsAt (WG W) (some ⟨W.heap.size + 1 + 1, 0, none⟩) [⟨2, 1, 0⟩] := by
  have h : ElemsAt (WG3 W) (some ⟨W.heap.size + 1 + 1, 0, none⟩) [⟨2, 1, 0⟩] := ⟨fun j hj => by
    refine ⟨W.heap.size + 1 + 1, 0, rfl, by rw [wg3_size]; omega, ?_⟩
    rw [← wg2_size W]
    unfold WG3
    have hj2 : j = 0 := by simp at hj; omega
    subst hj2
    exact ⟨by rw [World.cell?_alloc_new]; rfl, by rw [World.cell?_alloc_new]; rfl, by rw [World.cell?_alloc_new]; rfl⟩⟩
  exact h.below (wg_below3 W)
theorem wg_ops (W : World) : OpsAt (WG W) (some ⟨W.heap.size + 1 + 1 + 1, 0, none⟩) (goods W.heap.size) := by
  refine ⟨fun j hj => ⟨W.heap.size + 1 + 1 + 1, 0, rfl, by rw [wg_size]; omega, fun c u hu => ?_⟩, fun j hj => ?_, by show (4 : Nat) ≤ BIG; unfold BIG; omega⟩
  · rw [← wg3_size W]
    have hj2 : j = 0 ∨ j = 1 ∨ j = 2 ∨ j = 3 := by unfold goods at hj; simp at hj; omega
    have hc : c < 11 := (List.getElem?_eq_some_iff.1 hu).1
    have hc2 : c = 0 ∨ c = 1 ∨ c = 2 ∨ c = 3 ∨ c = 4 ∨ c = 5 ∨ c = 6 ∨ c = 7 ∨ c = 8 ∨ c = 9 ∨ c = 10 := by omega
    unfold WG
    rw [World.cell?_alloc_new]
    rcases hj2 with rfl | rfl | rfl | rfl <;> rcases hc2 with rfl | rfl | rfl | rfl | rfl | rfl | rfl | rfl | rfl | rfl | rfl <;> exact hu
  · have hj2 : j = 0 ∨ j = 1 ∨ j = 2 ∨ j = 3 := by unfold goods at hj; simp at hj; omega
    rcases hj2 with rfl | rfl | rfl | rfl
    · exact ⟨ElemsAt.nil _, by show (0 : Nat) ≤ BIG; unfold BIG; omega, by show (2 : Nat) ≤ BIG; unfold BIG; omega, fun _ => ⟨rfl, rfl⟩⟩
    · exact ⟨wg_g1 W, by show (2 : Nat) ≤ BIG; unfold BIG; omega, by show (1 : Nat) ≤ BIG; unfold BIG; omega, fun h => by cases h⟩
    · exact ⟨wg_g2 W, by show (1 : Nat) ≤ BIG; unfold BIG; omega, by show (0 : Nat) ≤ BIG; unfold BIG; omega, fun h => by cases h⟩
    · exact ⟨ElemsAt.nil _, by show (0 : Nat) ≤ BIG; unfold BIG; omega, by show (0 : Nat) ≤ BIG; unfold BIG; omega, fun _ => ⟨rfl, rfl⟩⟩
end Go.Proofs.YtlgnpkigodohnaaDoor
