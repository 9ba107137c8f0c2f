/- contracts of the page's own functions on ops: own, Runes, Elems; of the laws: OpWeight, CopyOp, EqOp -/
import Derived.Test.YtlgnpkigodohnaaDoorOElems
import Derived.Test.YtlgnpkigodohnaaDoorRPage
namespace Go.Proofs.YtlgnpkigodohnaaDoor
open Go.RowKit Go.Lib
theorem own4_any (o : OpD) (a : Option Addr) (cap : Nat) (e : El) (w : World) : Calls Tryd.prog 35 #[o.v a cap, e.v] w (BoB (e.own o.site o.seq) w) := by
  obtain ⟨site, seq, kind, ⟨es, eq, ei⟩, text, gone, of, num, gen⟩ := o
  obtain ⟨s, q, i⟩ := e
  have hb0 : Below w.heap.size w ((w.alloc (OpD.obj ⟨site, seq, kind, ⟨es, eq, ei⟩, text, gone, of, num, gen⟩ a cap)).alloc (.cells #[.int .i64 s, .int .i64 q, .int .i64 i] 29)) := ((Below.refl _ _).alloc (Nat.le_refl _) _).alloc (by simp) _
  unfold OpD.v El.v
  unfold OpD.obj at hb0
  simp only at hb0 ⊢
  by_cases h1 : s = site
  · subst h1
    by_cases h2 : q = seq
    · subst h2
      rw [show El.own s q ⟨s, q, i⟩ = true from decide_eq_true ⟨rfl, rfl⟩]
      go_enter Tryd.func35, Tryd.ntmps35
      go_wp2
      go_ret
      exact ⟨rfl, hb0⟩
    · have e2 : (q == seq) = false := by simp; exact h2
      rw [show El.own s seq ⟨s, q, i⟩ = false from decide_eq_false (fun h => h2 h.2)]
      clear h2
      go_enter Tryd.func35, Tryd.ntmps35
      go_wp2
      go_ret
      exact ⟨rfl, hb0⟩
  · have e1 : (s == site) = false := by simp; exact h1
    rw [show El.own site seq ⟨s, q, i⟩ = false from decide_eq_false (fun h => h1 h.1)]
    clear h1
    go_enter Tryd.func35, Tryd.ntmps35
    go_wp2
    go_ret
    exact ⟨rfl, hb0⟩

set_option maxHeartbeats 400000 in
theorem Runes4_any (o : OpD) (a : Option Addr) (cap : Nat) (w : World) (hT : Tabs w) (hs : o.text.size ≤ 60000) : Calls Tryd.prog 36 #[o.v a cap] w (IntB (nR o.text) w) := by
  obtain ⟨site, seq, kind, ⟨es, eq, ei⟩, text, gone, of, num, gen⟩ := o
  have hb0 : Below w.heap.size w (w.alloc (OpD.obj ⟨site, seq, kind, ⟨es, eq, ei⟩, text, gone, of, num, gen⟩ a cap)) := (Below.refl _ _).alloc (Nat.le_refl _) _
  have c := rRunes_any text _ (hT.next hb0) hs
  have HC := Lib.hid c
  unfold OpD.v
  unfold OpD.obj at hb0 HC
  clear c
  simp only at hb0 HC ⊢
  go_enter Tryd.func36, Tryd.ntmps36
  go_wp2_with fail
  refine HC.out.mono ?_
  rintro e w1 (⟨hk, ar, cr, rfl, _, _, _, hb1⟩ | ⟨hk, rfl, hb1⟩)
  · have HN := Lib.hid (show nR text = (rns text).length by unfold nR; rw [hk]; rfl)
    clear hk
    go_wp2
    go_ret
    exact ⟨by rw [HN.out]; rfl, hb0.trans (hb1.mono hb0.size)⟩
  · have HN := Lib.hid (show nR text = 0 by unfold nR; rw [hk]; rfl)
    clear hk
    go_wp2
    go_ret
    exact ⟨by rw [HN.out]; rfl, hb0.trans (hb1.mono hb0.size)⟩

set_option maxRecDepth 100000 in
set_option maxHeartbeats 1000000 in
theorem Elems4_any (o : OpD) (a : Option Addr) (cap : Nat) (w : World) (hT : Tabs w) (hs : o.text.size ≤ 60000) : Calls Tryd.prog 10 #[o.v a cap] w (OwnPost (mine o.site o.seq (nR o.text)) w) := by
  obtain ⟨site, seq, kind, ⟨es, eq, ei⟩, text, gone, of, num, gen⟩ := o
  obtain ⟨i0, hi, hz0, hz1, hz2⟩ := info_parts Tryd.infoElem
  have hb0 : Below w.heap.size w (w.alloc (OpD.obj ⟨site, seq, kind, ⟨es, eq, ei⟩, text, gone, of, num, gen⟩ a cap)) := (Below.refl _ _).alloc (Nat.le_refl _) _
  have hz : (w.alloc (OpD.obj ⟨site, seq, kind, ⟨es, eq, ei⟩, text, gone, of, num, gen⟩ a cap)).heap.size = w.heap.size + 1 := by simp
  have HT := Lib.hid (hT.next hb0)
  have HR := Lib.hid (fun W h => Runes4_any ⟨site, seq, kind, ⟨es, eq, ei⟩, text, gone, of, num, gen⟩ a cap W h hs)
  have hc0 : (w.alloc (OpD.obj ⟨site, seq, kind, ⟨es, eq, ei⟩, text, gone, of, num, gen⟩ a cap)).cell? ⟨w.heap.size, 0, none⟩ = some (.int .i64 site) := by simp [OpD.obj]
  have hc1 : (w.alloc (OpD.obj ⟨site, seq, kind, ⟨es, eq, ei⟩, text, gone, of, num, gen⟩ a cap)).cell? ⟨w.heap.size, 1, none⟩ = some (.int .i64 seq) := by simp [OpD.obj]
  have hc2 : (w.alloc (OpD.obj ⟨site, seq, kind, ⟨es, eq, ei⟩, text, gone, of, num, gen⟩ a cap)).cell? ⟨w.heap.size, 2, none⟩ = some (.int .i64 kind) := by simp [OpD.obj]
  have hc3 : (w.alloc (OpD.obj ⟨site, seq, kind, ⟨es, eq, ei⟩, text, gone, of, num, gen⟩ a cap)).cell? ⟨w.heap.size, 3, none⟩ = some (.int .i64 es) := by simp [OpD.obj]
  have hc4 : (w.alloc (OpD.obj ⟨site, seq, kind, ⟨es, eq, ei⟩, text, gone, of, num, gen⟩ a cap)).cell? ⟨w.heap.size, 4, none⟩ = some (.int .i64 eq) := by simp [OpD.obj]
  have hc5 : (w.alloc (OpD.obj ⟨site, seq, kind, ⟨es, eq, ei⟩, text, gone, of, num, gen⟩ a cap)).cell? ⟨w.heap.size, 5, none⟩ = some (.int .i64 ei) := by simp [OpD.obj]
  have hc6 : (w.alloc (OpD.obj ⟨site, seq, kind, ⟨es, eq, ei⟩, text, gone, of, num, gen⟩ a cap)).cell? ⟨w.heap.size, 6, none⟩ = some (.string text) := by simp [OpD.obj]
  have hc7 : (w.alloc (OpD.obj ⟨site, seq, kind, ⟨es, eq, ei⟩, text, gone, of, num, gen⟩ a cap)).cell? ⟨w.heap.size, 7, none⟩ = some (.slice a gone.length cap) := by simp [OpD.obj]
  have hc8 : (w.alloc (OpD.obj ⟨site, seq, kind, ⟨es, eq, ei⟩, text, gone, of, num, gen⟩ a cap)).cell? ⟨w.heap.size, 8, none⟩ = some (.int .i64 of) := by simp [OpD.obj]
  have hc9 : (w.alloc (OpD.obj ⟨site, seq, kind, ⟨es, eq, ei⟩, text, gone, of, num, gen⟩ a cap)).cell? ⟨w.heap.size, 9, none⟩ = some (.int .i64 num) := by simp [OpD.obj]
  have hca : (w.alloc (OpD.obj ⟨site, seq, kind, ⟨es, eq, ei⟩, text, gone, of, num, gen⟩ a cap)).cell? ⟨w.heap.size, 10, none⟩ = some (.int .i64 gen) := by simp [OpD.obj]
  have hn := nR_le text
  unfold OpD.v at HR ⊢
  unfold OpD.obj at hb0 hz HT hc0 hc1 hc2 hc3 hc4 hc5 hc6 hc7 hc8 hc9 hca
  simp only at HR hb0 hz HT hs hc0 hc1 hc2 hc3 hc4 hc5 hc6 hc7 hc8 hc9 hca ⊢
  generalize nR text = n at *
  clear hT
  go_enter Tryd.func10, Tryd.ntmps10
  go_wp2_with fail
  generalize hW : w.alloc (.cells #[.int .i64 site, .int .i64 seq, .int .i64 kind, .int .i64 es, .int .i64 eq, .int .i64 ei, .string text, .slice a gone.length cap, .int .i64 of, .int .i64 num, .int .i64 gen] 31) = W0 at *
  have HZ := Lib.hid hz
  clear hz hW
  go_loopw [3, 4] (fun v i wr => ∃ k : Nat, k ≤ n ∧ i = .int .i64 k ∧ wr.ownsRow (w.heap.size + 1) 29 3 v k (ecs (mine site seq k)) ∧ Below W0.heap.size W0 wr) (fun _ i _ => n - (RowKit.intOf i).toNat)
  case atStart => exact ⟨0, by omega, rfl, World.ownsRow_nil _ _ _ _, Below.refl _ _⟩
  case round =>
    obtain ⟨k, hk, rfl, hown, hbel⟩ := hrel
    have hzr : w.heap.size + 1 ≤ wr.heap.size := by rw [← HZ.out]; exact hbel.size
    have hlt0 : w.heap.size < W0.heap.size := by rw [HZ.out]; omega
    have d0 := (hbel.cell (p := ⟨w.heap.size, 0, none⟩) hlt0).trans hc0
    have d1 := (hbel.cell (p := ⟨w.heap.size, 1, none⟩) hlt0).trans hc1
    have d2 := (hbel.cell (p := ⟨w.heap.size, 2, none⟩) hlt0).trans hc2
    have d3 := (hbel.cell (p := ⟨w.heap.size, 3, none⟩) hlt0).trans hc3
    have d4 := (hbel.cell (p := ⟨w.heap.size, 4, none⟩) hlt0).trans hc4
    have d5 := (hbel.cell (p := ⟨w.heap.size, 5, none⟩) hlt0).trans hc5
    have d6 := (hbel.cell (p := ⟨w.heap.size, 6, none⟩) hlt0).trans hc6
    have d7 := (hbel.cell (p := ⟨w.heap.size, 7, none⟩) hlt0).trans hc7
    have d8 := (hbel.cell (p := ⟨w.heap.size, 8, none⟩) hlt0).trans hc8
    have d9 := (hbel.cell (p := ⟨w.heap.size, 9, none⟩) hlt0).trans hc9
    have da := (hbel.cell (p := ⟨w.heap.size, 10, none⟩) hlt0).trans hca
    go_wp2_with fail
    refine (HR.out _ (HT.out.next hbel)).mono ?_
    rintro e w1 ⟨rfl, hb1⟩
    have hbw1 := hbel.trans (hb1.mono hbel.size)
    have hown1 := owns_belE hown hb1
    have e0 := (hbw1.cell (p := ⟨w.heap.size, 0, none⟩) hlt0).trans hc0
    have e1 := (hbw1.cell (p := ⟨w.heap.size, 1, none⟩) hlt0).trans hc1
    have hz1 : w.heap.size + 1 ≤ w1.heap.size := by rw [← HZ.out]; exact hbw1.size
    clear d0 d1 d2 d3 d4 d5 d6 d7 d8 d9 da hown hb1 hbel
    by_cases hlt : k < n
    · have hlti : (k : Int) < (n : Int) := by omega
      have c2 : k + 1 ≤ maxLen := by unfold maxLen; omega
      have c3 : (k + 1) * 24 ≤ 140737488355328 := by omega
      go_wp2_with (first | (at_builtin; refine wpList_append_own _ rfl _ _ 23 rfl (w.heap.size + 1) 29 i0 (.agg #[.int .i64 0, .int .i64 0, .int .i64 0]) 3 24 Tryd.underlying23 hi hz0 ‹_› hz2 rfl (by decide) _ _ _ rfl (hown1.alloc _) ⟨w1.heap.size, 0, none⟩ 1 1 (El.cs ⟨site, seq, k⟩) rfl rfl (cell_three_new _ ⟨site, seq, k⟩ _) (cs_one ⟨site, seq, k⟩) c2 c3 (by simp; omega) ?_) | fail)
      intro v2 w2 hown2 hgrow2 _
      have hb2 : Below W0.heap.size W0 w2 := (hbw1.alloc hbw1.size _).grown hgrow2 (by have := hbw1.size; simp; omega) (fun q hq => by rw [HZ.out]; exact own_ge hown1 q hq)
      have hown3 : w2.ownsRow (w.heap.size + 1) 29 3 v2 (k + 1) (ecs (mine site seq (k + 1))) := by
        rw [mine_succ, ecs_append]
        have e1 : ecs [(⟨site, seq, k⟩ : El)] = El.cs ⟨site, seq, k⟩ := by simp [ecs]
        rw [e1]
        exact hown2
      clear hown1 hown2 hgrow2
      go_wp2
      go_roundw
      case rel => exact ⟨k + 1, by omega, by go_num, hown3, hb2⟩
      case measure => simp [RowKit.intOf]; omega
    · have hlti : ¬ (k : Int) < (n : Int) := by omega
      have h0 : k = n := by omega
      have HO := Lib.hid (show w1.ownsRow w.heap.size 29 3 u3 (mine site seq n).length (ecs (mine site seq n)) by rw [mine_length, ← h0]; exact owns_base hown1 (by omega))
      clear hown1 h0
      go_wp2
      go_ret
      exact ⟨_, rfl, HO.out, hb0.trans (hbw1.mono hb0.size)⟩
end Go.Proofs.YtlgnpkigodohnaaDoor

