/- slices of elements: equal, copied -/
import Derived.Test.YtjkgmpohddcgpaaGreatDoorOElem
import Derived.Test.YtjkgmpohddcgpaaGreatDoorRBase
import Derived.Deep.QuietTactic
import Derived.Maps.AppendAt
import Derived.WalkLawsBesides
import Derived.Handy
namespace Go.Proofs.YtjkgmpohddcgpaaGreatDoor
open Go.RowKit Go.Lib
set_option maxRecDepth 100000 in
set_option maxHeartbeats 1000000 in
theorem EqElems_yes (a b : Option Addr) (ca cb : Nat) (l : List El) (w : World) (ha : ElemsAt w a l) (hb : ElemsAt w b l) (hl : l.length ≤ 1000000) : Calls Tryz.prog 17 #[.slice a l.length ca, .slice b l.length cb] w (BoB true w) := by
  have HA := Lib.hid ha
  have HB := Lib.hid hb
  clear ha hb
  go_enter Tryz.func17, Tryz.ntmps17
  go_wp2
  go_loopw [5] (fun i wr => ∃ k : Nat, k ≤ l.length ∧ i = .int .i64 k ∧ Below w.heap.size w wr) (fun i _ => l.length - (RowKit.intOf i).toNat)
  case atStart => exact ⟨0, by omega, rfl, Below.refl _ _⟩
  case round =>
    obtain ⟨k, hk, rfl, hbel⟩ := hrel
    by_cases hlt : k < l.length
    · obtain ⟨b1, o1, h1, hb1, hc1, hc2, hc3⟩ := HA.out.cell k hlt
      obtain ⟨b2, o2, h2, hb2, hd1, hd2, hd3⟩ := HB.out.cell k hlt
      have hr1 := (hbel.cell (p := ⟨b1, o1 + k * 3, none⟩) hb1).trans hc1
      have hr2 := (hbel.cell (p := ⟨b1, o1 + k * 3 + 1, none⟩) hb1).trans hc2
      have hr3 := (hbel.cell (p := ⟨b1, o1 + k * 3 + 2, none⟩) hb1).trans hc3
      have hs1 := (hbel.cell (p := ⟨b2, o2 + k * 3, none⟩) hb2).trans hd1
      have hs2 := (hbel.cell (p := ⟨b2, o2 + k * 3 + 1, none⟩) hb2).trans hd2
      have hs3 := (hbel.cell (p := ⟨b2, o2 + k * 3 + 2, none⟩) hb2).trans hd3
      clear hc1 hc2 hc3 hd1 hd2 hd3
      generalize l[k] = e at *
      obtain ⟨s, q, i⟩ := e
      subst h1 h2
      simp only at hr1 hr2 hr3 hs1 hs2 hs3
      go_wp2
      go_quiet (fail)
      go_wp2
      go_roundw
      case rel => exact ⟨k + 1, by omega, by go_num, below_drewN' hbel _⟩
      case measure => simp [RowKit.intOf]; omega
    · go_wp2
      go_ret
      exact ⟨rfl, hbel⟩

set_option maxRecDepth 100000 in
set_option maxHeartbeats 1000000 in
theorem CopyElems_any (a : Option Addr) (ca : Nat) (l : List El) (w : World) (ha : ElemsAt w a l) (hl : l.length ≤ 1000000) : Calls Tryz.prog 72 #[.slice a l.length ca] w (OwnPost l w) := by
  obtain ⟨i0, hi, hz0, hz1, hz2⟩ := info_parts Tryz.infoElem
  have HA := Lib.hid ha
  clear ha
  go_enter Tryz.func72, Tryz.ntmps72
  go_wp2
  go_loopw [3, 4] (fun v i wr => ∃ k : Nat, k ≤ l.length ∧ i = .int .i64 k ∧ wr.ownsRow w.heap.size 43 3 v k (ecs (l.take k)) ∧ Below w.heap.size w wr) (fun _ i _ => l.length - (RowKit.intOf i).toNat)
  case atStart => exact ⟨0, by omega, rfl, World.ownsRow_nil _ _ _ _, Below.refl _ _⟩
  case round =>
    obtain ⟨k, hk, rfl, hown, hbel⟩ := hrel
    by_cases hlt : k < l.length
    · obtain ⟨b1, o1, h1, hb1, hc1, hc2, hc3⟩ := HA.out.cell k hlt
      have hr1 := (hbel.cell (p := ⟨b1, o1 + k * 3, none⟩) hb1).trans hc1
      have hr2 := (hbel.cell (p := ⟨b1, o1 + k * 3 + 1, none⟩) hb1).trans hc2
      have hr3 := (hbel.cell (p := ⟨b1, o1 + k * 3 + 2, none⟩) hb1).trans hc3
      have HT := Lib.hid (take_snocE hlt)
      clear hc1 hc2 hc3
      generalize l[k] = e at *
      subst h1
      have c2 : k + 1 ≤ maxLen := by unfold maxLen; omega
      have c3 : (k + 1) * 24 ≤ 140737488355328 := by omega
      go_wp2_with (first | (at_builtin; refine wpList_append_own _ rfl _ _ 23 rfl w.heap.size 43 i0 (.agg #[.int .i64 0, .int .i64 0, .int .i64 0]) 3 24 Tryz.underlying23 hi hz0 hz1 hz2 rfl (by decide) _ _ _ rfl (hown.alloc _) ⟨wr.heap.size, 0, none⟩ 1 1 (El.cs e) rfl rfl (cell_three_new _ e _) (cs_one e) c2 c3 (by have := hbel.size; simp; omega) ?_) | fail)
      intro v2 w2 hown2 hgrow2 _
      have hb2 : Below w.heap.size w w2 := (hbel.alloc hbel.size _).grown hgrow2 (by have := hbel.size; simp; omega) (own_ge hown)
      have hown3 : w2.ownsRow w.heap.size 43 3 v2 (k + 1) (ecs (l.take (k + 1))) := by
        rw [HT.out, ecs_append]
        have e1 : ecs [e] = El.cs e := by simp [ecs]
        rw [e1]
        exact hown2
      clear hown hown2 hgrow2
      go_wp2
      go_roundw
      case rel => exact ⟨k + 1, by omega, by go_num, hown3, hb2⟩
      case measure => simp [RowKit.intOf]; omega
    · have hown3 : wr.ownsRow w.heap.size 43 3 u3 l.length (ecs l) := by
        have h0 : k = l.length := by omega
        rw [h0, List.take_length] at hown
        exact hown
      have HO := Lib.hid hown3
      clear hown hown3
      go_wp2
      go_ret
      exact ⟨_, rfl, HO.out, hbel⟩
end Go.Proofs.YtjkgmpohddcgpaaGreatDoor

