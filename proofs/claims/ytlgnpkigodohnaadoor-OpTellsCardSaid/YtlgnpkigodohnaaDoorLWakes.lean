/- the laws of layer 4: wakes -/
import Derived.Test.YtlgnpkigodohnaaDoorLHeavy
import Derived.Test.YtlgnpkigodohnaaDoorPElems
import Derived.KernelRfl
namespace Go.Proofs.YtlgnpkigodohnaaDoor
open Go.RowKit Go.Lib

def wakeO : OpD := ⟨1, 1, 1, ⟨0, 0, 0⟩, ⟨#[97, 98]⟩, [], 0, 0, 0⟩
theorem wake_ok : okOp wakeO = true := by kernel_rfl
theorem wake_n : nR wakeO.text = 2 := by kernel_rfl
theorem wake_own : ownR wakeO 1 = (⟨1, 1, 1⟩, 0) := by
  unfold ownR; rw [wake_ok, wake_n]; rfl
theorem wake_in (w : World) : OpIn w wakeO none := ⟨ElemsAt.nil _, by decide, by decide⟩
theorem wake_elems (w : World) : Calls Tryd.prog 7 #[wakeO.v none 0] w fun e w' => ∃ a cap, e = .returned (.tuple #[.slice a 2 cap, .int .i64 0]) ∧ Below w.heap.size w w' :=
  (xElems_ok wakeO none 0 w (wake_in w) wake_ok).mono fun e w' h => by
    obtain ⟨a, cap, he, _, hb⟩ := h
    rw [mine_length, wake_n] at he
    exact ⟨a, cap, he, hb⟩
theorem wake_owns (w : World) : Calls Tryd.prog 15 #[wakeO.v none 0, .int .i64 1] w fun e w' => e = .returned (.tuple #[.agg #[.int .i64 1, .int .i64 1, .int .i64 1], .int .i64 0]) ∧ Below w.heap.size w w' :=
  (xOwn_any wakeO none 0 1 w (wake_in w)).mono fun e w' h => by
    obtain ⟨he, hb⟩ := h
    rw [wake_own] at he
    exact ⟨he, hb⟩
theorem wake_check (w : World) : Calls Tryd.prog 13 #[wakeO.v none 0] w fun e w' => e = .returned (.int .i64 0) ∧ Below w.heap.size w w' :=
  (xCheck_any wakeO none 0 w (wake_in w)).mono fun e w' h => by
    obtain ⟨he, hb⟩ := h
    rw [wake_ok] at he
    exact ⟨he, hb⟩

set_option maxRecDepth 100000 in
set_option maxHeartbeats 1000000 in
theorem wakes_any (w : World) : Calls Tryd.prog 23 #[] w (BoB true w) := by
  have HE := Lib.hid wake_elems
  have HO := Lib.hid wake_owns
  have HC := Lib.hid wake_check
  unfold OpD.v wakeO at HE HO HC
  simp only [List.length_nil] at HE HO HC
  go_enter Tryd.func23, Tryd.ntmps23
  go_wp2_with fail
  generalize hW : World.alloc w _ = W0
  have hbw : Below w.heap.size w W0 := hW ▸ (Below.refl _ _).alloc (Nat.le_refl _) _
  have HXw := Lib.hid (show BoxO W0 w.heap.size wakeO none 0 from hW ▸ BoxO.new w wakeO none 0)
  refine (HE.out _).mono ?_
  rintro x w1 ⟨a1, cap1, rfl, hb1⟩
  have HX1 := Lib.hid (HXw.out.step hb1)
  have hbw1 := hbw.trans (hb1.mono hbw.size)
  have g0 := HX1.out.c0
  have g1 := HX1.out.c1
  have g2 := HX1.out.c2
  have g3 := HX1.out.c3
  have g4 := HX1.out.c4
  have g5 := HX1.out.c5
  have g6 := HX1.out.c6
  have g7 := HX1.out.c7
  have g8 := HX1.out.c8
  have g9 := HX1.out.c9
  have ga := HX1.out.ca
  simp only [wakeO, List.length_nil] at g0 g1 g2 g3 g4 g5 g6 g7 g8 g9 ga
  go_wp2_with fail
  clear g0 g1 g2 g3 g4 g5 g6 g7 g8 g9 ga
  refine (HO.out _).mono ?_
  rintro x w2 ⟨rfl, hb2⟩
  have HX2 := Lib.hid (HX1.out.step hb2)
  have hbw2 := hbw1.trans (hb2.mono hbw1.size)
  have hbw3 := hbw2.alloc hbw2.size (.cells #[.int .i64 1, .int .i64 1, .int .i64 1] 29)
  have HX3 := Lib.hid (HX2.out.alloc (.cells #[.int .i64 1, .int .i64 1, .int .i64 1] 29))
  have HE3 := Lib.hid (BoxE.new w2 ⟨1, 1, 1⟩)
  simp only at HE3
  have g0 := HX2.out.c0
  have g1 := HX2.out.c1
  have g2 := HX2.out.c2
  have g3 := HX2.out.c3
  have g4 := HX2.out.c4
  have g5 := HX2.out.c5
  have g6 := HX2.out.c6
  have g7 := HX2.out.c7
  have g8 := HX2.out.c8
  have g9 := HX2.out.c9
  have ga := HX2.out.ca
  simp only [wakeO, List.length_nil] at g0 g1 g2 g3 g4 g5 g6 g7 g8 g9 ga
  have hz := HX2.out.lt
  go_wp2_with fail
  clear g0 g1 g2 g3 g4 g5 g6 g7 g8 g9 ga hz
  refine (HC.out _).mono ?_
  rintro x w4 ⟨rfl, hb4⟩
  have e0 := (HE3.out.step hb4).c0
  have e1 := (HE3.out.step hb4).c1
  have e2 := (HE3.out.step hb4).c2
  have HB4 := Lib.hid (hbw3.trans (hb4.mono hbw3.size))
  simp only at e0 e1 e2
  clear hb4
  go_wp2_with (go_at_call 12; refine (num_any _ _).mono ?_; rintro e w' ⟨rfl, rfl⟩)
  go_ret
  exact ⟨rfl, HB4.out⟩
end Go.Proofs.YtlgnpkigodohnaaDoor
