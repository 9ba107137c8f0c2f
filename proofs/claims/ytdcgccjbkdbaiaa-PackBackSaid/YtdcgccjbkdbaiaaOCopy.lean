/- slices of elements: equal, copied -/
import Derived.Test.YtdcgccjbkdbaiaaOElem
import Derived.Test.YtdcgccjbkdbaiaaRBase
import Derived.Deep.QuietTactic
import Derived.Maps.AppendAt
import Derived.WalkLawsBesides
import Derived.Handy
import Derived.Test.YtdcgccjbkdbaiaaRPage
namespace Go.Proofs.Ytdcgccjbkdbaiaa
open Go.RowKit Go.Lib
set_option maxRecDepth 100000 in
set_option maxHeartbeats 1000000 in
theorem EqElems_yes (a b : Option Addr) (ca cb : Nat) (l : List El) (w : World) (ha : ElemsAt w a l) (hb : ElemsAt w b l) (hl : l.length ≤ 1000000) : Calls Try.prog 20 #[.slice a l.length ca, .slice b l.length cb] w (BoB true w) := by
  have HA := Lib.hid ha
  have HB := Lib.hid hb
  clear ha hb
  go_enter Try.func20, Try.ntmps20
  go_wp2
  go_loopw [5] (fun i wr => ∃ k : Nat, k ≤ l.length ∧ i = .int .i64 k ∧ Below w.heap.size w wr) (fun i _ => l.length - (RowKit.intOf i).toNat)
  case atStart => exact ⟨0, by omega, rfl, Below.refl _ _⟩
  case round =>
    obtain ⟨k, hk, rfl, hbel⟩ := hrel
    by_cases hlt : k < l.length
    · obtain ⟨b1, o1, h1, hb1, hc1, hc2, hc3⟩ := HA.out.cell k hlt
      obtain ⟨b2, o2, h2, hb2, hd1, hd2, hd3⟩ := HB.out.cell k hlt
      have hr1 := (hbel.cell (p := ⟨b1, o1 + k * 3, none⟩) hb1).trans hc1
      have hr2 := (hbel.cell (p := ⟨b1, o1 + k * 3 + 1, none⟩) hb1).trans hc2
      have hr3 := (hbel.cell (p := ⟨b1, o1 + k * 3 + 2, none⟩) hb1).trans hc3
      have hs1 := (hbel.cell (p := ⟨b2, o2 + k * 3, none⟩) hb2).trans hd1
      have hs2 := (hbel.cell (p := ⟨b2, o2 + k * 3 + 1, none⟩) hb2).trans hd2
      have hs3 := (hbel.cell (p := ⟨b2, o2 + k * 3 + 2, none⟩) hb2).trans hd3
      clear hc1 hc2 hc3 hd1 hd2 hd3
      generalize l[k] = e at *
      obtain ⟨s, q, i⟩ := e
      subst h1 h2
      simp only at hr1 hr2 hr3 hs1 hs2 hs3
      go_wp2
      go_quiet (fail)
      go_wp2
      go_roundw
      case rel => exact ⟨k + 1, by omega, by go_num, below_drewN' hbel _⟩
      case measure => simp [RowKit.intOf]; omega
    · go_wp2
      go_ret
      exact ⟨rfl, hbel⟩

end Go.Proofs.Ytdcgccjbkdbaiaa
/- lectionaryref4.own, Runes -/
namespace Go.Proofs.Ytdcgccjbkdbaiaa
open Go.RowKit Go.Lib
end Go.Proofs.Ytdcgccjbkdbaiaa
/- contracts of what the laws share on ops: CopyOp, EqOp; elements written over -/
namespace Go.Proofs.Ytdcgccjbkdbaiaa
open Go.RowKit Go.Lib
/-- an op in new memory -/
def CopyPost (o : OpD) (w : World) (e : Ending) (w' : World) : Prop :=
  ∃ a cap, e = .returned (o.v a cap) ∧ w'.ownsRow w.heap.size 36 3 (.slice a o.gone.length cap) o.gone.length (ecs o.gone) ∧ Below w.heap.size w w'

theorem EqElems_n (a b : Option Addr) (ca cb n : Nat) (l : List El) (w : World) (ha : ElemsAt w a l) (hb : ElemsAt w b l) (hn : l.length = n) (hl : n ≤ 1000000) : Calls Try.prog 20 #[.slice a n ca, .slice b n cb] w (BoB true w) := by
  subst hn; exact EqElems_yes a b ca cb l w ha hb hl

set_option maxRecDepth 100000 in
set_option maxHeartbeats 1000000 in
theorem EqOp_yes (o : OpD) (a b : Option Addr) (ca cb : Nat) (w : World) (ha : ElemsAt w a o.gone) (hb : ElemsAt w b o.gone) (hl : o.gone.length ≤ 1000000) : Calls Try.prog 8 #[o.v a ca, o.v b cb] w (BoB true w) := by
  obtain ⟨site, seq, kind, ⟨es, eq, ei⟩, text, gone, of, num, gen⟩ := o
  have HA := Lib.hid ha
  have HB := Lib.hid hb
  clear ha hb
  unfold OpD.v
  simp only at HA HB hl ⊢
  obtain ⟨n, hn⟩ : ∃ n, gone.length = n := ⟨_, rfl⟩
  have HN := Lib.hid hn
  rw [hn] at hl ⊢
  clear hn
  go_enter Try.func8, Try.ntmps8
  go_wp2_with fail
  have hb2 : ∀ o1 o2, Below w.heap.size w ((w.alloc o1).alloc o2) := fun o1 o2 => ((Below.refl _ _).alloc (Nat.le_refl _) _).alloc (by simp) _
  refine (EqElems_n _ _ _ _ n gone _ (HA.out.below (hb2 _ _)) (HB.out.below (hb2 _ _)) HN.out hl).mono ?_
  rintro e w4 ⟨rfl, hb4⟩
  have hz : w.heap.size + 1 < w4.heap.size := by have := hb4.size; simp at this; omega
  obtain ⟨hc, hf⟩ := bcell hb4
  have hbw : Below w.heap.size w w4 := (hb2 _ _).trans (hb4.mono (by simp; omega))
  have HW := Lib.hid hbw
  clear hb4 hbw hb2
  go_wp2
  go_ret
  exact ⟨rfl, HW.out⟩

/-- elements of the call's own, written over -/
def SpoilPost (B : Nat) (w0 : World) (e : Ending) (w' : World) : Prop := e = .returned (.tuple #[]) ∧ Below B w0 w'
end Go.Proofs.Ytdcgccjbkdbaiaa
