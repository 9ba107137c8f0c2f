/- lectionaryref4.own, Runes -/
import Derived.Test.YtjkgmpohddcgpaaGreatDoorOElem
import Derived.Test.YtjkgmpohddcgpaaGreatDoorRPage
import Derived.Deep.QuietTactic
import Derived.Maps.AppendAt
import Derived.WalkLawsBesides
import Derived.Handy
namespace Go.Proofs.YtjkgmpohddcgpaaGreatDoor
open Go.RowKit Go.Lib
theorem own4_any (o : OpD) (a : Option Addr) (cap : Nat) (e : El) (w : World) : Calls Tryz.prog 94 #[o.v a cap, e.v] w (BoB (e.own o.site o.seq) w) := by
  obtain ⟨site, seq, kind, ⟨es, eq, ei⟩, text, gone, of, num, gen⟩ := o
  obtain ⟨s, q, i⟩ := e
  have hb0 : Below w.heap.size w ((w.alloc (OpD.obj ⟨site, seq, kind, ⟨es, eq, ei⟩, text, gone, of, num, gen⟩ a cap)).alloc (.cells #[.int .i64 s, .int .i64 q, .int .i64 i] 43)) := ((Below.refl _ _).alloc (Nat.le_refl _) _).alloc (by simp) _
  unfold OpD.v El.v
  unfold OpD.obj at hb0
  simp only at hb0 ⊢
  by_cases h1 : s = site
  · subst h1
    by_cases h2 : q = seq
    · subst h2
      rw [show El.own s q ⟨s, q, i⟩ = true from decide_eq_true ⟨rfl, rfl⟩]
      go_enter Tryz.func94, Tryz.ntmps94
      go_wp2
      go_ret
      exact ⟨rfl, hb0⟩
    · have e2 : (q == seq) = false := by simp; exact h2
      rw [show El.own s seq ⟨s, q, i⟩ = false from decide_eq_false (fun h => h2 h.2)]
      clear h2
      go_enter Tryz.func94, Tryz.ntmps94
      go_wp2
      go_ret
      exact ⟨rfl, hb0⟩
  · have e1 : (s == site) = false := by simp; exact h1
    rw [show El.own site seq ⟨s, q, i⟩ = false from decide_eq_false (fun h => h1 h.1)]
    clear h1
    go_enter Tryz.func94, Tryz.ntmps94
    go_wp2
    go_ret
    exact ⟨rfl, hb0⟩

set_option maxHeartbeats 400000 in
theorem Runes4_any (o : OpD) (a : Option Addr) (cap : Nat) (w : World) (hT : Tabs w) (hs : o.text.size ≤ 60000) : Calls Tryz.prog 77 #[o.v a cap] w (IntB (nR o.text) w) := by
  obtain ⟨site, seq, kind, ⟨es, eq, ei⟩, text, gone, of, num, gen⟩ := o
  have hb0 : Below w.heap.size w (w.alloc (OpD.obj ⟨site, seq, kind, ⟨es, eq, ei⟩, text, gone, of, num, gen⟩ a cap)) := (Below.refl _ _).alloc (Nat.le_refl _) _
  have c := rRunes_any text _ (hT.next hb0) hs
  have HC := Lib.hid c
  unfold OpD.v
  unfold OpD.obj at hb0 HC
  clear c
  simp only at hb0 HC ⊢
  go_enter Tryz.func77, Tryz.ntmps77
  go_wp2_with fail
  refine HC.out.mono ?_
  rintro e w1 (⟨hk, ar, cr, rfl, _, _, _, hb1⟩ | ⟨hk, rfl, hb1⟩)
  · have HN := Lib.hid (show nR text = (rns text).length by unfold nR; rw [hk]; rfl)
    clear hk
    go_wp2
    go_ret
    exact ⟨by rw [HN.out]; rfl, hb0.trans (hb1.mono hb0.size)⟩
  · have HN := Lib.hid (show nR text = 0 by unfold nR; rw [hk]; rfl)
    clear hk
    go_wp2
    go_ret
    exact ⟨by rw [HN.out]; rfl, hb0.trans (hb1.mono hb0.size)⟩

end Go.Proofs.YtjkgmpohddcgpaaGreatDoor
