/- the front: Less, Swap -/
import Derived.Test.YtbalcamjccfkdaaFBase
import Derived.BigQuiet
import Derived.Deep.QuietTactic
import Derived.WalkLawsBesides
namespace Go.Proofs.Ytbalcamjccfkdaa
open Go.RowKit Go.Lib

theorem fLess_any (base g cap n : Nat) (L : List Nd) (i j : Nat) (w : World) (hown : w.ownsRow base 63 4 (.slice (some ⟨g, 0, none⟩) n cap) n (ncs L)) (hl : L.length = n) (hi : i < n) (hj : j < n) :
    Calls Try.prog 86 #[.slice (some ⟨g, 0, none⟩) n cap, .int .i64 i, .int .i64 j] w (BoolS (decide (L[j]!.op < L[i]!.op)) w) := by
  have x0 := (row_nd hown hl i hi).2.2.2
  have y0 := (row_nd hown hl j hj).2.2.2
  generalize L[i]!.op = x at *
  generalize L[j]!.op = y at *
  clear hown hl
  go_enter Try.func86, Try.ntmps86
  go_wp2_with fail
  go_quiet (fail)
  go_wp2
  go_ret
  exact ⟨rfl, Same.drewN _ _⟩

def SwapPost (base g n cap : Nat) (L : List Nd) (w : World) (e : Ending) (w' : World) : Prop :=
  e = .returned (.tuple #[]) ∧ w'.ownsRow base 63 4 (.slice (some ⟨g, 0, none⟩) n cap) n (ncs L) ∧ w.grownBy w' (some g)
theorem four {w W : World} {base g n cap : Nat} {xs : List Value} (h : w.ownsRow base 63 4 (.slice (some ⟨g, 0, none⟩) n cap) n xs) (hg : W.grownBy w (some g)) (o : Nat) (a b c d : Value) :
    ((((w.setCell ⟨g, o, none⟩ a).setCell ⟨g, o + 1, none⟩ b).setCell ⟨g, o + 2, none⟩ c).setCell ⟨g, o + 3, none⟩ d).ownsRow base 63 4 (.slice (some ⟨g, 0, none⟩) n cap) n ((((xs.set o a).set (o + 1) b).set (o + 2) c).set (o + 3) d) ∧
    W.grownBy ((((w.setCell ⟨g, o, none⟩ a).setCell ⟨g, o + 1, none⟩ b).setCell ⟨g, o + 2, none⟩ c).setCell ⟨g, o + 3, none⟩ d) (some g) := by
  obtain ⟨h1, g1⟩ := h.stored o a
  obtain ⟨h2, g2⟩ := h1.stored (o + 1) b
  obtain ⟨h3, g3⟩ := h2.stored (o + 2) c
  obtain ⟨h4, g4⟩ := h3.stored (o + 3) d
  exact ⟨h4, (((hg.trans g1).trans g2).trans g3).trans g4⟩
theorem World.grownBy_refl (w : World) (r : Option Nat) : w.grownBy w r := ⟨rfl, rfl, rfl, Nat.le_refl _, fun _ _ _ => rfl⟩
theorem swap_end {w W : World} {base g n cap : Nat} {L : List Nd} (h : W.ownsRow base 63 4 (.slice (some ⟨g, 0, none⟩) n cap) n (ncs L)) (hq : w.grownBy W (some g)) : SwapPost base g n cap L w (.returned (.tuple #[])) W.drew :=
  ⟨rfl, h, ⟨hq.os, hq.tape, hq.output, hq.size, hq.block⟩⟩
set_option maxHeartbeats 1000000 in
theorem fSwap_any (base g cap n : Nat) (L : List Nd) (i k : Nat) (w : World) (hown : w.ownsRow base 63 4 (.slice (some ⟨g, 0, none⟩) n cap) n (ncs L)) (hl : L.length = n) (hi : i < n) (hk : k < n) :
    Calls Try.prog 87 #[.slice (some ⟨g, 0, none⟩) n cap, .int .i64 i, .int .i64 k] w (SwapPost base g n cap (swp L i k) w) := by
  obtain ⟨x0, x1, x2, x3⟩ := row_nd hown hl i hi
  obtain ⟨y0, y1, y2, y3⟩ := row_nd hown hl k hk
  have f0 := hown.frozenAt (i * 4)
  have f1 := hown.frozenAt (i * 4 + 1)
  have f2 := hown.frozenAt (i * 4 + 2)
  have f3 := hown.frozenAt (i * 4 + 3)
  have g0 := hown.frozenAt (k * 4)
  have g1 := hown.frozenAt (k * 4 + 1)
  have g2 := hown.frozenAt (k * 4 + 2)
  have g3 := hown.frozenAt (k * 4 + 3)
  have HE : RowKit.Hid (((((ncs L).set (i * 4) (.int .i64 L[k]!.e.s)).set (i * 4 + 1) (.int .i64 L[k]!.e.q)).set (i * 4 + 2) (.int .i64 L[k]!.e.i)).set (i * 4 + 3) (.int .i64 L[k]!.op) = ncs (L.set i L[k]!)) := Lib.hid (ncs_set L i L[k]! (by omega))
  have HE2 : RowKit.Hid (((((ncs (L.set i L[k]!)).set (k * 4) (.int .i64 L[i]!.e.s)).set (k * 4 + 1) (.int .i64 L[i]!.e.q)).set (k * 4 + 2) (.int .i64 L[i]!.e.i)).set (k * 4 + 3) (.int .i64 L[i]!.op) = ncs (swp L i k)) := Lib.hid (ncs_set _ k L[i]! (by rw [List.length_set]; omega))
  have HO := Lib.hid hown
  clear hown hl
  generalize swp L i k = E2 at *
  generalize (L.set i L[k]!) = E1 at *
  rcases Nat.lt_trichotomy i k with h | rfl | h
  · generalize L[i]! = x at *
    generalize L[k]! = y at *
    obtain ⟨⟨xs, xq, xi⟩, xp⟩ := x
    obtain ⟨⟨ys, yq, yi⟩, yp⟩ := y
    simp only at x0 x1 x2 x3 y0 y1 y2 y3 HE HE2
    go_enter Try.func87, Try.ntmps87
    go_wp2_with fail
    go_region
    go_wp2
    obtain ⟨o1, q1⟩ := four HO.out (World.grownBy_refl w (some g)) (i * 4) (.int .i64 ys) (.int .i64 yq) (.int .i64 yi) (.int .i64 yp)
    rw [HE.out] at o1
    obtain ⟨o2, q2⟩ := four o1 q1 (k * 4) (.int .i64 xs) (.int .i64 xq) (.int .i64 xi) (.int .i64 xp)
    rw [HE2.out] at o2
    go_end0
    exact swap_end o2 q2
  · clear y0 y1 y2 y3 g0 g1 g2 g3 hk
    generalize L[i]! = x at *
    obtain ⟨⟨xs, xq, xi⟩, xp⟩ := x
    simp only at x0 x1 x2 x3 HE HE2
    go_enter Try.func87, Try.ntmps87
    go_wp2_with fail
    go_region
    go_wp2
    obtain ⟨o1, q1⟩ := four HO.out (World.grownBy_refl w (some g)) (i * 4) (.int .i64 xs) (.int .i64 xq) (.int .i64 xi) (.int .i64 xp)
    rw [HE.out] at o1
    obtain ⟨o2, q2⟩ := four o1 q1 (i * 4) (.int .i64 xs) (.int .i64 xq) (.int .i64 xi) (.int .i64 xp)
    rw [HE2.out] at o2
    go_end0
    exact swap_end o2 q2
  · generalize L[i]! = x at *
    generalize L[k]! = y at *
    obtain ⟨⟨xs, xq, xi⟩, xp⟩ := x
    obtain ⟨⟨ys, yq, yi⟩, yp⟩ := y
    simp only at x0 x1 x2 x3 y0 y1 y2 y3 HE HE2
    go_enter Try.func87, Try.ntmps87
    go_wp2_with fail
    go_region
    go_wp2
    obtain ⟨o1, q1⟩ := four HO.out (World.grownBy_refl w (some g)) (i * 4) (.int .i64 ys) (.int .i64 yq) (.int .i64 yi) (.int .i64 yp)
    rw [HE.out] at o1
    obtain ⟨o2, q2⟩ := four o1 q1 (k * 4) (.int .i64 xs) (.int .i64 xq) (.int .i64 xi) (.int .i64 xp)
    rw [HE2.out] at o2
    go_end0
    exact swap_end o2 q2
end Go.Proofs.Ytbalcamjccfkdaa
