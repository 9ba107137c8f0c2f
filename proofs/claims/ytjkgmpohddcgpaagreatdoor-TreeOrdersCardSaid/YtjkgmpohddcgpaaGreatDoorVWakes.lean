/- wakes of layer 5 -/
import Derived.Test.YtjkgmpohddcgpaaGreatDoorVEq
namespace Go.Proofs.YtjkgmpohddcgpaaGreatDoor
open Go.RowKit Go.Lib

theorem wk_ops (w : World) : OpsAt (w.alloc (.cells #[.int .i64 1, .int .i64 1, .int .i64 1, .int .i64 0, .int .i64 0, .int .i64 0, .string ⟨#[97]⟩, .slice none 0 0, .int .i64 0, .int .i64 0, .int .i64 0, .int .i64 2, .int .i64 1, .int .i64 1, .int .i64 0, .int .i64 0, .int .i64 0, .string ⟨#[98]⟩, .slice none 0 0, .int .i64 0, .int .i64 0, .int .i64 0] 63)) (some ⟨w.heap.size, 0, none⟩) [⟨wk1, none, 0⟩, ⟨wk2, none, 0⟩] := by
  refine ⟨fun j hj => ⟨w.heap.size, 0, rfl, by simp, fun c u hu => ?_⟩, fun j hj => ?_, by decide⟩
  · have hj2 : j = 0 ∨ j = 1 := by simp at hj; omega
    have hc : c < 11 := by
      have := (List.getElem?_eq_some_iff.1 hu).1
      rcases hj2 with rfl | rfl <;> exact this
    rw [World.cell?_alloc_new, ← hu]
    have hcc : c = 0 ∨ c = 1 ∨ c = 2 ∨ c = 3 ∨ c = 4 ∨ c = 5 ∨ c = 6 ∨ c = 7 ∨ c = 8 ∨ c = 9 ∨ c = 10 := by omega
    rcases hj2 with rfl | rfl <;> rcases hcc with rfl | rfl | rfl | rfl | rfl | rfl | rfl | rfl | rfl | rfl | rfl <;> rfl
  · have hj2 : j = 0 ∨ j = 1 := by simp at hj; omega
    rcases hj2 with rfl | rfl <;> exact ⟨ElemsAt.nil _, Nat.zero_le _, (show (1 : Nat) ≤ BIG from by decide), fun _ => ⟨rfl, rfl⟩⟩
set_option maxRecDepth 100000 in
set_option maxHeartbeats 2000000 in
theorem wakes_any (w : World) : Calls Tryz.prog 26 #[] w (BoB true w) := by
  have hops := wk_ops w
  have HB0 : RowKit.Hid (Below w.heap.size w (w.alloc (.cells #[.int .i64 1, .int .i64 1, .int .i64 1, .int .i64 0, .int .i64 0, .int .i64 0, .string ⟨#[97]⟩, .slice none 0 0, .int .i64 0, .int .i64 0, .int .i64 0, .int .i64 2, .int .i64 1, .int .i64 1, .int .i64 0, .int .i64 0, .int .i64 0, .string ⟨#[98]⟩, .slice none 0 0, .int .i64 0, .int .i64 0, .int .i64 0] 63))) := Lib.hid ((Below.refl _ _).alloc (Nat.le_refl _) _)
  have hord := tOrder_ok (some ⟨w.heap.size, 0, none⟩) 2 _ _ hops wk_row
  have HCK := Lib.hid (fun wx (hx : Below (w.alloc (.cells #[.int .i64 1, .int .i64 1, .int .i64 1, .int .i64 0, .int .i64 0, .int .i64 0, .string ⟨#[97]⟩, .slice none 0 0, .int .i64 0, .int .i64 0, .int .i64 0, .int .i64 2, .int .i64 1, .int .i64 1, .int .i64 0, .int .i64 0, .int .i64 0, .string ⟨#[98]⟩, .slice none 0 0, .int .i64 0, .int .i64 0, .int .i64 0] 63)).heap.size _ wx) => (by have h := tCheck_any (some ⟨w.heap.size, 0, none⟩) 2 _ wx (hops.below hx); rw [show rowB (OpR.os [⟨wk1, none, 0⟩, ⟨wk2, none, 0⟩]) = true from (rowB_iff _).2 wk_row] at h; exact h : Calls Tryz.prog 16 #[.slice (some ⟨w.heap.size, 0, none⟩) 2 2] wx (IntB 0 wx)))
  have HORD := Lib.hid hord
  clear hops hord
  go_enter Tryz.func26, Tryz.ntmps26
  go_wp2_with (first
    | (go_at_call 13; refine HORD.out.mono ?_; rintro x1 w1 ⟨v1, rfl, hown1, hb1⟩; have hov : ordE (OpR.os [⟨wk1, none, 0⟩, ⟨wk2, none, 0⟩]) = [⟨2, 1, 0⟩, ⟨1, 1, 0⟩] := wk_ord; rw [hov] at hown1; obtain ⟨a1, c1, rfl, hel1, _⟩ := elems_own hown1; have HB1 := Lib.hid hb1; obtain ⟨b1, off1, rfl, hbb1, x0, _, _⟩ := hel1.cell 0 (by decide); have HEL := Lib.hid hel1; clear hb1 hown1 hel1 hov; simp only [List.length_cons, List.length_nil, List.getElem_cons_zero] at x0 ⊢; simp only [Nat.zero_mul, Nat.add_zero] at x0)
    | (go_at_call 16; refine (HCK.out w1 HB1.out).mono ?_; rintro x2 w2 ⟨rfl, hb2⟩; have HB2 := Lib.hid (HB1.out.trans (hb2.mono HB1.out.size)); have y0 := (hb2.cell (p := ⟨b1, off1, none⟩) hbb1).trans x0; have hbb2 := Nat.lt_of_lt_of_le hbb1 hb2.size; clear hb2)
    | (go_at_call 15; refine (num_same _ _).mono ?_; rintro x3 w3 ⟨rfl, rfl⟩)
    | fail)
  go_ret
  exact ⟨rfl, HB0.out.trans (HB2.out.mono HB0.out.size)⟩
end Go.Proofs.YtjkgmpohddcgpaaGreatDoor
