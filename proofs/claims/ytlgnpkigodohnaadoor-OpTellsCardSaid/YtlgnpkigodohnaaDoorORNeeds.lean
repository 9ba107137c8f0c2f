/- the page's own Needs -/
import Derived.Test.YtlgnpkigodohnaaDoorOPut
import Derived.Test.YtlgnpkigodohnaaDoorOBox
import Derived.StillTail
import Derived.StillTactics
namespace Go.Proofs.YtlgnpkigodohnaaDoor
open Go.RowKit Go.Lib

def RowPost (l : List El) (w : World) (e : Ending) (w' : World) : Prop :=
  ∃ a cap, e = .returned (.slice a l.length cap) ∧ w'.ownsRow w.heap.size 29 3 (.slice a l.length cap) l.length (ecs l) ∧ Below w.heap.size w w'
theorem putAll_len (r : List El) : ∀ (l : List El), (putAll l r).length ≤ l.length + r.length := by
  induction r with
  | nil => intro l; simp [putAll]
  | cons y r ih =>
    intro l
    have := ih (putL l y)
    have h2 := putL_len l y
    show (putAll (putL l y) r).length ≤ _
    rw [List.length_cons]
    omega
theorem putAll_append (l a b : List El) : putAll l (a ++ b) = putAll (putAll l a) b := by unfold putAll; rw [List.foldl_append]

set_option maxRecDepth 100000 in
set_option maxHeartbeats 1000000 in
theorem rNeeds_toggle (o : OpD) (a : Option Addr) (cap : Nat) (w : World) (hk : o.kind = 2) : Calls Tryd.prog 11 #[o.v a cap] w (RowPost (needs o) w) := by
  rw [show needs o = [⟨o.of, o.num, 0⟩] from if_pos hk]
  obtain ⟨site, seq, kind, ⟨es, eq, ei⟩, text, gone, of, num, gen⟩ := o
  have hb0 : Below w.heap.size w (w.alloc (OpD.obj ⟨site, seq, kind, ⟨es, eq, ei⟩, text, gone, of, num, gen⟩ a cap)) := (Below.refl _ _).alloc (Nat.le_refl _) _
  have HX := Lib.hid (BoxO.new w ⟨site, seq, kind, ⟨es, eq, ei⟩, text, gone, of, num, gen⟩ a cap)
  unfold OpD.obj at hb0 HX
  have HB := Lib.hid hb0
  clear hb0
  unfold OpD.v at *
  simp only at hk ⊢
  subst hk
  go_enter Tryd.func11, Tryd.ntmps11
  go_wp2_with fail
  go_ret
  have hz : (w.alloc (.cells #[.int .i64 site, .int .i64 seq, .int .i64 2, .int .i64 es, .int .i64 eq, .int .i64 ei, .string text, .slice a gone.length cap, .int .i64 of, .int .i64 num, .int .i64 gen] 31)).heap.size = w.heap.size + 1 := by simp
  have h1 := one_own (w.alloc (.cells #[.int .i64 site, .int .i64 seq, .int .i64 2, .int .i64 es, .int .i64 eq, .int .i64 ei, .string text, .slice a gone.length cap, .int .i64 of, .int .i64 num, .int .i64 gen] 31)) w.heap.size HB.out.size ⟨of, num, 0⟩
  rw [hz] at h1
  exact ⟨_, _, rfl, h1, HB.out.alloc HB.out.size _⟩

set_option maxRecDepth 100000 in
set_option maxHeartbeats 4000000 in
theorem rNeeds_edit (o : OpD) (a : Option Addr) (cap : Nat) (w : World) (hg : ElemsAt w a o.gone) (hl : o.gone.length ≤ 900) (hk : ¬ o.kind = 2) : Calls Tryd.prog 11 #[o.v a cap] w (RowPost (needs o) w) := by
  have HND := Lib.hid (needs_put hk)
  have HNL := Lib.hid (show needL o = (if o.after.begin then [] else [o.after.w]) ++ o.gone.map El.w from rfl)
  generalize needs o = ns at *
  generalize needL o = nl at *
  obtain ⟨site, seq, kind, ⟨es, eq, ei⟩, text, gone, of, num, gen⟩ := o
  have hb0 : Below w.heap.size w (w.alloc (OpD.obj ⟨site, seq, kind, ⟨es, eq, ei⟩, text, gone, of, num, gen⟩ a cap)) := (Below.refl _ _).alloc (Nat.le_refl _) _
  have HX := Lib.hid (BoxO.new w ⟨site, seq, kind, ⟨es, eq, ei⟩, text, gone, of, num, gen⟩ a cap)
  unfold OpD.obj at hb0 HX
  have HB := Lib.hid hb0
  clear hb0
  have HBG := Lib.hid (fun w => Begin_any ⟨es, eq, ei⟩ w)
  unfold OpD.v El.v at *
  simp only at hg hl hk HND HNL HBG ⊢
  have hkb : (kind == 2) = false := by simp; exact hk
  have HG := Lib.hid (hg.below HB.out)
  have hl9 : (gone.length : Int) ≤ 900 := by omega
  have HLL := Lib.hid hl
  clear hg hk hl
  go_enter Tryd.func11, Tryd.ntmps11
  go_wp2_with fail
  generalize hW : w.alloc (.cells #[.int .i64 site, .int .i64 seq, .int .i64 kind, .int .i64 es, .int .i64 eq, .int .i64 ei, .string text, .slice a gone.length cap, .int .i64 of, .int .i64 num, .int .i64 gen] 31) = W0 at *
  have HZ := Lib.hid (show w.heap.size ≤ W0.heap.size from HB.out.size)
  clear hW
  refine (HBG.out _).mono ?_
  rintro x w1 ⟨rfl, hb1⟩
  have HX1 := Lib.hid (HX.out.step hb1)
  have HB1 := Lib.hid hb1
  clear hb1 HBG
  have g0 := HX1.out.c0
  have g1 := HX1.out.c1
  have g2 := HX1.out.c2
  have g3 := HX1.out.c3
  have g4 := HX1.out.c4
  have g5 := HX1.out.c5
  have g6 := HX1.out.c6
  have g7 := HX1.out.c7
  have g8 := HX1.out.c8
  have g9 := HX1.out.c9
  have ga := HX1.out.ca
  simp only at g0 g1 g2 g3 g4 g5 g6 g7 g8 g9 ga
  cases hbg : El.begin ⟨es, eq, ei⟩
  · have HPR := Lib.hid (show ns = putAll (putL [] ⟨es, eq, 0⟩) (gone.map El.w) from by rw [HND.out, HNL.out, hbg, putAll_append]; rfl)
    clear hbg
    go_wp2_with fail
    clear g0 g1 g2 g3 g4 g5 g6 g7 g8 g9 ga
    refine (put_any none 0 0 W0.heap.size W0.heap.size [] ⟨es, eq, 0⟩ W0 _ (World.ownsRow_nil _ _ _ _) rfl (Nat.le_refl _) HB1.out.size HB1.out (by decide)).mono ?_
    rintro x w2 ⟨a2, cap2, rfl, hown2, hb2⟩
    have HB2 := Lib.hid hb2
    have HO2 := Lib.hid hown2
    have HXc := Lib.hid (HX.out.step hb2)
    have HLP := Lib.hid (show (putL [] ⟨es, eq, 0⟩).length ≤ 1 from by simp [putL])
    generalize putL [] ⟨es, eq, 0⟩ = pre at *
    clear hb2 hown2
    go_wp2_with fail
    go_loopw [3, 4] (fun v i wr => ∃ (k m : Nat) (ll : List El) (a9 : Option Addr) (c9 : Nat), k ≤ gone.length ∧ i = .int .i64 k ∧ v = .slice a9 m c9 ∧ ll = putAll pre ((gone.take k).map El.w) ∧ ll.length = m ∧ wr.ownsRow W0.heap.size 29 3 (.slice a9 m c9) m (ecs ll) ∧ Below W0.heap.size W0 wr) (fun _ i _ => gone.length - (RowKit.intOf i).toNat)
    case atStart => exact ⟨0, pre.length, pre, a2, cap2, by omega, rfl, rfl, rfl, rfl, HO2.out, HB2.out⟩
    case round =>
      obtain ⟨k, m, ll, a9, c9, hk, rfl, rfl, hll, hlm, hown, hbel⟩ := hrel
      have HLE := Lib.hid hll
      have HLM := Lib.hid hlm
      have HM9 := Lib.hid (show m ≤ 901 from by
        have h1 := putAll_len ((gone.take k).map El.w) pre
        have h2 := HLP.out
        have h3 := HLL.out
        rw [← hlm, hll]
        rw [List.length_map, List.length_take] at h1
        omega)
      have HXr := Lib.hid (HX.out.step hbel)
      have g7 := HXr.out.c7
      simp only at g7
      clear hll hlm
      by_cases hlt : k < gone.length
      · obtain ⟨b1, o1, h1, hb1, hc1, hc2, hc3⟩ := (HG.out.below hbel).cell k hlt
        have HST := Lib.hid (show putL ll (gone[k].w) = putAll pre ((gone.take (k + 1)).map El.w) from by
          rw [HLE.out, take_snocE hlt, List.map_append, putAll_append]; rfl)
        have HTK := Lib.hid (take_snocE hlt)
        generalize gone[k] = e at *
        have HG7 := Lib.hid g7
        subst h1
        have HO9 := Lib.hid hown
        have HB9 := Lib.hid hbel
        have q0 : wr.drew.cell? ⟨b1, o1 + k * 3, none⟩ = some (.int .i64 e.s) := hc1
        have q1 : wr.drew.cell? ⟨b1, o1 + k * 3 + 1, none⟩ = some (.int .i64 e.q) := hc2
        clear hc1 hc2 hc3 hown hbel
        go_wp2_with fail
        have g8 : wr.drew.cell? ⟨w.heap.size, 7, none⟩ = some (.slice (some ⟨b1, o1, none⟩) gone.length cap) := HG7.out
        clear g7
        refine wp_region_still_tail 14 (by kernel_rfl) (by kernel_rfl) ?_
        change wpStill _ _ wr.drew (fun a' => wpList _ _ _ _ a' wr.drew) _ _
        have HOd := Lib.hid (owns_belE HO9.out (Below.refl wr.heap.size wr).drew)
        have HBd := Lib.hid (HB9.out.drew)
        generalize wr.drew = we at *
        simp only [List.take_succ_cons, List.take_zero, List.drop_succ_cons, List.drop_zero]
        repeat still_step
        refine wpStill_nil ?_
        clear q0 q1 g8
        go_wp2_with fail
        refine (put_any a9 c9 m W0.heap.size W0.heap.size ll e.w W0 we HOd.out HLM.out (Nat.le_refl _) HBd.out.size HBd.out (by have := HM9.out; omega)).mono ?_
        rintro x w5 ⟨a5, cap5, rfl, hown5, hb5⟩
        have HO5 := Lib.hid hown5
        have HB5 := Lib.hid hb5
        clear hown5 hb5
        have hk9 : (k : Int) < 1000 := by omega
        go_wp2_with fail
        go_roundw
        case rel => exact ⟨k + 1, _, _, a5, cap5, by omega, by go_num, rfl, HST.out, rfl, HO5.out, HB5.out⟩
        case measure => simp [RowKit.intOf]; omega
      · have h0 : k = gone.length := by omega
        have HF := Lib.hid (show ns = ll from by rw [HPR.out, HLE.out, h0, List.take_length])
        have HO5 := Lib.hid hown
        have HB5 := Lib.hid (HB.out.trans (hbel.mono HB.out.size))
        clear hown hbel h0
        go_wp2_with fail
        go_ret
        refine ⟨_, _, by rw [HF.out, HLM.out]; rfl, ?_, HB5.out⟩
        rw [HF.out, HLM.out]
        exact owns_base HO5.out HZ.out
  · have HPR := Lib.hid (show ns = putAll [] (gone.map El.w) from by rw [HND.out, HNL.out, hbg]; rfl)
    clear hbg
    clear g0 g1 g2 g3 g4 g5 g6 g7 g8 g9 ga
    have HB2 := HB1
    have HXc := HX1
    have HO2 := Lib.hid (World.ownsRow_nil w1 W0.heap.size 29 3)
    have HLP := Lib.hid (show ([] : List El).length ≤ 1 from by simp)
    obtain ⟨pre, hpre⟩ : ∃ pre : List El, pre = [] := ⟨_, rfl⟩
    have HO2 := Lib.hid (show w1.ownsRow W0.heap.size 29 3 (.slice none pre.length 0) pre.length (ecs pre) from by rw [hpre]; exact HO2.out)
    rw [← hpre] at HPR HLP
    have HPE := Lib.hid (show Value.slice none 0 0 = Value.slice none pre.length 0 from by rw [hpre]; rfl)
    clear hpre
    go_wp2_with fail
    go_loopw [3, 4] (fun v i wr => ∃ (k m : Nat) (ll : List El) (a9 : Option Addr) (c9 : Nat), k ≤ gone.length ∧ i = .int .i64 k ∧ v = .slice a9 m c9 ∧ ll = putAll pre ((gone.take k).map El.w) ∧ ll.length = m ∧ wr.ownsRow W0.heap.size 29 3 (.slice a9 m c9) m (ecs ll) ∧ Below W0.heap.size W0 wr) (fun _ i _ => gone.length - (RowKit.intOf i).toNat)
    case atStart => exact ⟨0, pre.length, pre, none, 0, by omega, rfl, HPE.out, rfl, rfl, HO2.out, HB2.out⟩
    case round =>
      obtain ⟨k, m, ll, a9, c9, hk, rfl, rfl, hll, hlm, hown, hbel⟩ := hrel
      have HLE := Lib.hid hll
      have HLM := Lib.hid hlm
      have HM9 := Lib.hid (show m ≤ 901 from by
        have h1 := putAll_len ((gone.take k).map El.w) pre
        have h2 := HLP.out
        have h3 := HLL.out
        rw [← hlm, hll]
        rw [List.length_map, List.length_take] at h1
        omega)
      have HXr := Lib.hid (HX.out.step hbel)
      have g7 := HXr.out.c7
      simp only at g7
      clear hll hlm
      by_cases hlt : k < gone.length
      · obtain ⟨b1, o1, h1, hb1, hc1, hc2, hc3⟩ := (HG.out.below hbel).cell k hlt
        have HST := Lib.hid (show putL ll (gone[k].w) = putAll pre ((gone.take (k + 1)).map El.w) from by
          rw [HLE.out, take_snocE hlt, List.map_append, putAll_append]; rfl)
        have HTK := Lib.hid (take_snocE hlt)
        generalize gone[k] = e at *
        have HG7 := Lib.hid g7
        subst h1
        have HO9 := Lib.hid hown
        have HB9 := Lib.hid hbel
        have q0 : wr.drew.cell? ⟨b1, o1 + k * 3, none⟩ = some (.int .i64 e.s) := hc1
        have q1 : wr.drew.cell? ⟨b1, o1 + k * 3 + 1, none⟩ = some (.int .i64 e.q) := hc2
        clear hc1 hc2 hc3 hown hbel
        go_wp2_with fail
        have g8 : wr.drew.cell? ⟨w.heap.size, 7, none⟩ = some (.slice (some ⟨b1, o1, none⟩) gone.length cap) := HG7.out
        clear g7
        refine wp_region_still_tail 14 (by kernel_rfl) (by kernel_rfl) ?_
        change wpStill _ _ wr.drew (fun a' => wpList _ _ _ _ a' wr.drew) _ _
        have HOd := Lib.hid (owns_belE HO9.out (Below.refl wr.heap.size wr).drew)
        have HBd := Lib.hid (HB9.out.drew)
        generalize wr.drew = we at *
        simp only [List.take_succ_cons, List.take_zero, List.drop_succ_cons, List.drop_zero]
        repeat still_step
        refine wpStill_nil ?_
        clear q0 q1 g8
        go_wp2_with fail
        refine (put_any a9 c9 m W0.heap.size W0.heap.size ll e.w W0 we HOd.out HLM.out (Nat.le_refl _) HBd.out.size HBd.out (by have := HM9.out; omega)).mono ?_
        rintro x w5 ⟨a5, cap5, rfl, hown5, hb5⟩
        have HO5 := Lib.hid hown5
        have HB5 := Lib.hid hb5
        clear hown5 hb5
        have hk9 : (k : Int) < 1000 := by omega
        go_wp2_with fail
        go_roundw
        case rel => exact ⟨k + 1, _, _, a5, cap5, by omega, by go_num, rfl, HST.out, rfl, HO5.out, HB5.out⟩
        case measure => simp [RowKit.intOf]; omega
      · have h0 : k = gone.length := by omega
        have HF := Lib.hid (show ns = ll from by rw [HPR.out, HLE.out, h0, List.take_length])
        have HO5 := Lib.hid hown
        have HB5 := Lib.hid (HB.out.trans (hbel.mono HB.out.size))
        clear hown hbel h0
        go_wp2_with fail
        go_ret
        refine ⟨_, _, by rw [HF.out, HLM.out]; rfl, ?_, HB5.out⟩
        rw [HF.out, HLM.out]
        exact owns_base HO5.out HZ.out

theorem rNeeds_any (o : OpD) (a : Option Addr) (cap : Nat) (w : World) (hg : ElemsAt w a o.gone) (hl : o.gone.length ≤ 900) : Calls Tryd.prog 11 #[o.v a cap] w (RowPost (needs o) w) := by
  by_cases hk : o.kind = 2
  · exact rNeeds_toggle o a cap w hk
  · exact rNeeds_edit o a cap w hg hl hk
end Go.Proofs.YtlgnpkigodohnaaDoor
