/- slices of elements: equal, copied -/
import Derived.Test.YtnkinbobnhdpaaaDoorOElem
import Derived.Test.YtnkinbobnhdpaaaDoorRBase
import Derived.Deep.QuietTactic
import Derived.Maps.AppendAt
import Derived.WalkLawsBesides
import Derived.Handy
import Derived.Test.YtnkinbobnhdpaaaDoorRPage
namespace Go.Proofs.YtnkinbobnhdpaaaDoor
open Go.RowKit Go.Lib
set_option maxRecDepth 100000 in
set_option maxHeartbeats 1000000 in
theorem EqElems_yes (a b : Option Addr) (ca cb : Nat) (l : List El) (w : World) (ha : ElemsAt w a l) (hb : ElemsAt w b l) (hl : l.length ≤ 1000000) : Calls Tryd.prog 60 #[.slice a l.length ca, .slice b l.length cb] w (BoB true w) := by
  have HA := Lib.hid ha
  have HB := Lib.hid hb
  clear ha hb
  go_enter Tryd.func60, Tryd.ntmps60
  go_wp2
  go_loopw [5] (fun i wr => ∃ k : Nat, k ≤ l.length ∧ i = .int .i64 k ∧ Below w.heap.size w wr) (fun i _ => l.length - (RowKit.intOf i).toNat)
  case atStart => exact ⟨0, by omega, rfl, Below.refl _ _⟩
  case round =>
    obtain ⟨k, hk, rfl, hbel⟩ := hrel
    by_cases hlt : k < l.length
    · obtain ⟨b1, o1, h1, hb1, hc1, hc2, hc3⟩ := HA.out.cell k hlt
      obtain ⟨b2, o2, h2, hb2, hd1, hd2, hd3⟩ := HB.out.cell k hlt
      have hr1 := (hbel.cell (p := ⟨b1, o1 + k * 3, none⟩) hb1).trans hc1
      have hr2 := (hbel.cell (p := ⟨b1, o1 + k * 3 + 1, none⟩) hb1).trans hc2
      have hr3 := (hbel.cell (p := ⟨b1, o1 + k * 3 + 2, none⟩) hb1).trans hc3
      have hs1 := (hbel.cell (p := ⟨b2, o2 + k * 3, none⟩) hb2).trans hd1
      have hs2 := (hbel.cell (p := ⟨b2, o2 + k * 3 + 1, none⟩) hb2).trans hd2
      have hs3 := (hbel.cell (p := ⟨b2, o2 + k * 3 + 2, none⟩) hb2).trans hd3
      clear hc1 hc2 hc3 hd1 hd2 hd3
      generalize l[k] = e at *
      obtain ⟨s, q, i⟩ := e
      subst h1 h2
      simp only at hr1 hr2 hr3 hs1 hs2 hs3
      go_wp2
      go_quiet (fail)
      go_wp2
      go_roundw
      case rel => exact ⟨k + 1, by omega, by go_num, below_drewN' hbel _⟩
      case measure => simp [RowKit.intOf]; omega
    · go_wp2
      go_ret
      exact ⟨rfl, hbel⟩

set_option maxRecDepth 100000 in
set_option maxHeartbeats 1000000 in
theorem CopyElems_any (a : Option Addr) (ca : Nat) (l : List El) (w : World) (ha : ElemsAt w a l) (hl : l.length ≤ 1000000) : Calls Tryd.prog 47 #[.slice a l.length ca] w (OwnPost l w) := by
  obtain ⟨i0, hi, hz0, hz1, hz2⟩ := info_parts Tryd.infoElem
  have HA := Lib.hid ha
  clear ha
  go_enter Tryd.func47, Tryd.ntmps47
  go_wp2
  go_loopw [3, 4] (fun v i wr => ∃ k : Nat, k ≤ l.length ∧ i = .int .i64 k ∧ wr.ownsRow w.heap.size 34 3 v k (ecs (l.take k)) ∧ Below w.heap.size w wr) (fun _ i _ => l.length - (RowKit.intOf i).toNat)
  case atStart => exact ⟨0, by omega, rfl, World.ownsRow_nil _ _ _ _, Below.refl _ _⟩
  case round =>
    obtain ⟨k, hk, rfl, hown, hbel⟩ := hrel
    by_cases hlt : k < l.length
    · obtain ⟨b1, o1, h1, hb1, hc1, hc2, hc3⟩ := HA.out.cell k hlt
      have hr1 := (hbel.cell (p := ⟨b1, o1 + k * 3, none⟩) hb1).trans hc1
      have hr2 := (hbel.cell (p := ⟨b1, o1 + k * 3 + 1, none⟩) hb1).trans hc2
      have hr3 := (hbel.cell (p := ⟨b1, o1 + k * 3 + 2, none⟩) hb1).trans hc3
      have HT := Lib.hid (take_snocE hlt)
      clear hc1 hc2 hc3
      generalize l[k] = e at *
      subst h1
      have c2 : k + 1 ≤ maxLen := by unfold maxLen; omega
      have c3 : (k + 1) * 24 ≤ 140737488355328 := by omega
      go_wp2_with (first | (at_builtin; refine wpList_append_own _ rfl _ _ 23 rfl w.heap.size 34 i0 (.agg #[.int .i64 0, .int .i64 0, .int .i64 0]) 3 24 Tryd.underlying23 hi hz0 hz1 hz2 rfl (by decide) _ _ _ rfl (hown.alloc _) ⟨wr.heap.size, 0, none⟩ 1 1 (El.cs e) rfl rfl (cell_three_new _ e _) (cs_one e) c2 c3 (by have := hbel.size; simp; omega) ?_) | fail)
      intro v2 w2 hown2 hgrow2 _
      have hb2 : Below w.heap.size w w2 := (hbel.alloc hbel.size _).grown hgrow2 (by have := hbel.size; simp; omega) (own_ge hown)
      have hown3 : w2.ownsRow w.heap.size 34 3 v2 (k + 1) (ecs (l.take (k + 1))) := by
        rw [HT.out, ecs_append]
        have e1 : ecs [e] = El.cs e := by simp [ecs]
        rw [e1]
        exact hown2
      clear hown hown2 hgrow2
      go_wp2
      go_roundw
      case rel => exact ⟨k + 1, by omega, by go_num, hown3, hb2⟩
      case measure => simp [RowKit.intOf]; omega
    · have hown3 : wr.ownsRow w.heap.size 34 3 u3 l.length (ecs l) := by
        have h0 : k = l.length := by omega
        rw [h0, List.take_length] at hown
        exact hown
      have HO := Lib.hid hown3
      clear hown hown3
      go_wp2
      go_ret
      exact ⟨_, rfl, HO.out, hbel⟩
end Go.Proofs.YtnkinbobnhdpaaaDoor
/- lectionaryref4.own, Runes -/
namespace Go.Proofs.YtnkinbobnhdpaaaDoor
open Go.RowKit Go.Lib
theorem own4_any (o : OpD) (a : Option Addr) (cap : Nat) (e : El) (w : World) : Calls Tryd.prog 54 #[o.v a cap, e.v] w (BoB (e.own o.site o.seq) w) := by
  obtain ⟨site, seq, kind, ⟨es, eq, ei⟩, text, gone, of, num, gen⟩ := o
  obtain ⟨s, q, i⟩ := e
  have hb0 : Below w.heap.size w ((w.alloc (OpD.obj ⟨site, seq, kind, ⟨es, eq, ei⟩, text, gone, of, num, gen⟩ a cap)).alloc (.cells #[.int .i64 s, .int .i64 q, .int .i64 i] 34)) := ((Below.refl _ _).alloc (Nat.le_refl _) _).alloc (by simp) _
  unfold OpD.v El.v
  unfold OpD.obj at hb0
  simp only at hb0 ⊢
  by_cases h1 : s = site
  · subst h1
    by_cases h2 : q = seq
    · subst h2
      rw [show El.own s q ⟨s, q, i⟩ = true from decide_eq_true ⟨rfl, rfl⟩]
      go_enter Tryd.func54, Tryd.ntmps54
      go_wp2
      go_ret
      exact ⟨rfl, hb0⟩
    · have e2 : (q == seq) = false := by simp; exact h2
      rw [show El.own s seq ⟨s, q, i⟩ = false from decide_eq_false (fun h => h2 h.2)]
      clear h2
      go_enter Tryd.func54, Tryd.ntmps54
      go_wp2
      go_ret
      exact ⟨rfl, hb0⟩
  · have e1 : (s == site) = false := by simp; exact h1
    rw [show El.own site seq ⟨s, q, i⟩ = false from decide_eq_false (fun h => h1 h.1)]
    clear h1
    go_enter Tryd.func54, Tryd.ntmps54
    go_wp2
    go_ret
    exact ⟨rfl, hb0⟩

end Go.Proofs.YtnkinbobnhdpaaaDoor
/- contracts of what the laws share on ops: CopyOp, EqOp; elements written over -/
namespace Go.Proofs.YtnkinbobnhdpaaaDoor
open Go.RowKit Go.Lib
/-- an op in new memory -/
def CopyPost (o : OpD) (w : World) (e : Ending) (w' : World) : Prop :=
  ∃ a cap, e = .returned (o.v a cap) ∧ w'.ownsRow w.heap.size 34 3 (.slice a o.gone.length cap) o.gone.length (ecs o.gone) ∧ Below w.heap.size w w'

set_option maxRecDepth 100000 in
set_option maxHeartbeats 1000000 in
theorem CopyOp_any (o : OpD) (a : Option Addr) (cap : Nat) (w : World) (hg : ElemsAt w a o.gone) (hl : o.gone.length ≤ 1000000) : Calls Tryd.prog 15 #[o.v a cap] w (CopyPost o w) := by
  obtain ⟨site, seq, kind, ⟨es, eq, ei⟩, text, gone, of, num, gen⟩ := o
  have HG := Lib.hid hg
  clear hg
  unfold CopyPost OpD.v
  simp only at HG hl ⊢
  go_enter Tryd.func15, Tryd.ntmps15
  go_wp2_with fail
  refine (CopyElems_any a cap gone _ (HG.out.below (((((Below.refl _ _).alloc (Nat.le_refl _) _).alloc (by simp) _).alloc (by simp; omega) _))) hl).mono ?_
  rintro e w4 ⟨v, rfl, hown, hb4⟩
  obtain ⟨a4, cap4, rfl, _, _, _, _⟩ := elems_own hown
  have hz : w.heap.size + 2 < w4.heap.size := by have := hb4.size; simp at this; omega
  obtain ⟨hc, hf⟩ := bcell hb4
  have HO := Lib.hid hown
  have HB := Lib.hid hb4
  clear hown hb4
  go_wp2
  have hbw : Below w.heap.size w w4 := ((((Below.refl _ _).alloc (Nat.le_refl _) _).alloc (by simp) _).alloc (by simp; omega) _).trans (HB.out.mono (by simp; omega))
  have ho3 : w4.ownsRow (w.heap.size + 3) 34 3 (.slice a4 gone.length cap4) gone.length (ecs gone) := owns_base HO.out (by simp)
  refine bodyPost_ret (v := .agg #[.int .i64 site, .int .i64 seq, .int .i64 kind, .int .i64 es, .int .i64 eq, .int .i64 ei, .string text, .slice a4 gone.length cap4, .int .i64 of, .int .i64 num, .int .i64 gen]) (by simp [results, Tryd.results15, go_sem, hc]) rfl ⟨a4, cap4, rfl, ?_, ?_⟩
  · refine owns_base (b := w.heap.size + 3) ?_ (by omega)
    iterate 12 refine ownsRow_setCell_below ?_ (by show _ < _; simp only; omega) _
    exact ho3
  · iterate 12 refine Below.setCell ?_ (by show _ ≤ _; simp only; omega) _
    exact hbw

theorem EqElems_n (a b : Option Addr) (ca cb n : Nat) (l : List El) (w : World) (ha : ElemsAt w a l) (hb : ElemsAt w b l) (hn : l.length = n) (hl : n ≤ 1000000) : Calls Tryd.prog 60 #[.slice a n ca, .slice b n cb] w (BoB true w) := by
  subst hn; exact EqElems_yes a b ca cb l w ha hb hl

set_option maxRecDepth 100000 in
set_option maxHeartbeats 1000000 in
theorem EqOp_yes (o : OpD) (a b : Option Addr) (ca cb : Nat) (w : World) (ha : ElemsAt w a o.gone) (hb : ElemsAt w b o.gone) (hl : o.gone.length ≤ 1000000) : Calls Tryd.prog 21 #[o.v a ca, o.v b cb] w (BoB true w) := by
  obtain ⟨site, seq, kind, ⟨es, eq, ei⟩, text, gone, of, num, gen⟩ := o
  have HA := Lib.hid ha
  have HB := Lib.hid hb
  clear ha hb
  unfold OpD.v
  simp only at HA HB hl ⊢
  obtain ⟨n, hn⟩ : ∃ n, gone.length = n := ⟨_, rfl⟩
  have HN := Lib.hid hn
  rw [hn] at hl ⊢
  clear hn
  go_enter Tryd.func21, Tryd.ntmps21
  go_wp2_with fail
  have hb2 : ∀ o1 o2, Below w.heap.size w ((w.alloc o1).alloc o2) := fun o1 o2 => ((Below.refl _ _).alloc (Nat.le_refl _) _).alloc (by simp) _
  refine (EqElems_n _ _ _ _ n gone _ (HA.out.below (hb2 _ _)) (HB.out.below (hb2 _ _)) HN.out hl).mono ?_
  rintro e w4 ⟨rfl, hb4⟩
  have hz : w.heap.size + 1 < w4.heap.size := by have := hb4.size; simp at this; omega
  obtain ⟨hc, hf⟩ := bcell hb4
  have hbw : Below w.heap.size w w4 := (hb2 _ _).trans (hb4.mono (by simp; omega))
  have HW := Lib.hid hbw
  clear hb4 hbw hb2
  go_wp2
  go_ret
  exact ⟨rfl, HW.out⟩

/-- elements of the call's own, written over -/
def SpoilPost (B : Nat) (w0 : World) (e : Ending) (w' : World) : Prop := e = .returned (.tuple #[]) ∧ Below B w0 w'
set_option maxRecDepth 100000 in
set_option maxHeartbeats 1000000 in
theorem Spoil_own (a : Option Addr) (cap n base B : Nat) (xs : List Value) (w0 w : World) (hown : w.ownsRow base 34 3 (.slice a n cap) n xs) (hB : B ≤ base) (hb : Below B w0 w) (hl : n ≤ 1000000) : Calls Tryd.prog 24 #[.slice a n cap] w (SpoilPost B w0) := by
  go_enter Tryd.func24, Tryd.ntmps24
  go_wp2
  go_loopw [2] (fun i wr => ∃ (k : Nat) (ys : List Value), k ≤ n ∧ i = .int .i64 k ∧ wr.ownsRow base 34 3 (.slice a n cap) n ys ∧ Below B w0 wr) (fun i _ => n - (RowKit.intOf i).toNat)
  case atStart => exact ⟨0, xs, by omega, rfl, hown, hb⟩
  case round =>
    clear hown hb
    obtain ⟨k, ys, hk, rfl, ho, hbr⟩ := hrel
    by_cases hlt : k < n
    · obtain ⟨g, cap2, hv, hg0, hg1⟩ := ho.form (by omega)
      obtain ⟨rfl, rfl⟩ : a = some ⟨g, 0, none⟩ ∧ cap = cap2 := by
        simp only [Value.slice.injEq] at hv
        exact ⟨hv.1, hv.2.2⟩
      clear hv
      have hyl := ho.1
      have hc0 : wr.cell? ⟨g, k * 3, none⟩ = some ys[k * 3] := by rw [ho.cellAt (k * 3) (by omega), List.getElem?_eq_getElem (by omega)]
      have hc1 : wr.cell? ⟨g, k * 3 + 1, none⟩ = some ys[k * 3 + 1] := by rw [ho.cellAt (k * 3 + 1) (by omega), List.getElem?_eq_getElem (by omega)]
      have hc2 : wr.cell? ⟨g, k * 3 + 2, none⟩ = some ys[k * 3 + 2] := by rw [ho.cellAt (k * 3 + 2) (by omega), List.getElem?_eq_getElem (by omega)]
      have hf0 := ho.frozenAt (k * 3)
      have hf1 := ho.frozenAt (k * 3 + 1)
      have hf2 := ho.frozenAt (k * 3 + 2)
      have HO := Lib.hid ho
      clear ho
      generalize ys[k * 3] = y0 at *
      generalize ys[k * 3 + 1] = y1 at *
      generalize ys[k * 3 + 2] = y2 at *
      clear hyl
      have hg2 : B ≤ g := Nat.le_trans hB hg0
      go_wp2
      go_roundw
      case rel => exact ⟨k + 1, _, by omega, by go_num, (((HO.out.stored (k * 3) _).1.stored (k * 3 + 1) _).1.stored (k * 3 + 2) _).1, ((hbr.setCell hg2 _).setCell hg2 _).setCell hg2 _⟩
      case measure => simp [RowKit.intOf]; omega
    · go_wp2
      exact bodyPost_ret (v := .tuple #[]) (by simp [results, Tryd.results24, go_sem]) rfl ⟨rfl, hbr⟩
end Go.Proofs.YtnkinbobnhdpaaaDoor
