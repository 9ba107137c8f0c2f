/- contracts of what the laws share on ops: CopyOp, EqOp; elements written over -/
import Derived.Test.YtjkgmpohddcgpaaGreatDoorOElems
import Derived.Test.YtjkgmpohddcgpaaGreatDoorOOwn
namespace Go.Proofs.YtjkgmpohddcgpaaGreatDoor
open Go.RowKit Go.Lib
/-- an op in new memory -/
def CopyPost (o : OpD) (w : World) (e : Ending) (w' : World) : Prop :=
  ∃ a cap, e = .returned (o.v a cap) ∧ w'.ownsRow w.heap.size 43 3 (.slice a o.gone.length cap) o.gone.length (ecs o.gone) ∧ Below w.heap.size w w'

set_option maxRecDepth 100000 in
set_option maxHeartbeats 1000000 in
theorem CopyOp_any (o : OpD) (a : Option Addr) (cap : Nat) (w : World) (hg : ElemsAt w a o.gone) (hl : o.gone.length ≤ 1000000) : Calls Tryz.prog 39 #[o.v a cap] w (CopyPost o w) := by
  obtain ⟨site, seq, kind, ⟨es, eq, ei⟩, text, gone, of, num, gen⟩ := o
  have HG := Lib.hid hg
  clear hg
  unfold CopyPost OpD.v
  simp only at HG hl ⊢
  go_enter Tryz.func39, Tryz.ntmps39
  go_wp2_with fail
  refine (CopyElems_any a cap gone _ (HG.out.below (((((Below.refl _ _).alloc (Nat.le_refl _) _).alloc (by simp) _).alloc (by simp; omega) _))) hl).mono ?_
  rintro e w4 ⟨v, rfl, hown, hb4⟩
  obtain ⟨a4, cap4, rfl, _, _, _, _⟩ := elems_own hown
  have hz : w.heap.size + 2 < w4.heap.size := by have := hb4.size; simp at this; omega
  obtain ⟨hc, hf⟩ := bcell hb4
  have HO := Lib.hid hown
  have HB := Lib.hid hb4
  clear hown hb4
  go_wp2
  have hbw : Below w.heap.size w w4 := ((((Below.refl _ _).alloc (Nat.le_refl _) _).alloc (by simp) _).alloc (by simp; omega) _).trans (HB.out.mono (by simp; omega))
  have ho3 : w4.ownsRow (w.heap.size + 3) 43 3 (.slice a4 gone.length cap4) gone.length (ecs gone) := owns_base HO.out (by simp)
  refine bodyPost_ret (v := .agg #[.int .i64 site, .int .i64 seq, .int .i64 kind, .int .i64 es, .int .i64 eq, .int .i64 ei, .string text, .slice a4 gone.length cap4, .int .i64 of, .int .i64 num, .int .i64 gen]) (by simp [results, Tryz.results39, go_sem, hc]) rfl ⟨a4, cap4, rfl, ?_, ?_⟩
  · refine owns_base (b := w.heap.size + 3) ?_ (by omega)
    iterate 12 refine ownsRow_setCell_below ?_ (by show _ < _; simp only; omega) _
    exact ho3
  · iterate 12 refine Below.setCell ?_ (by show _ ≤ _; simp only; omega) _
    exact hbw

theorem EqElems_n (a b : Option Addr) (ca cb n : Nat) (l : List El) (w : World) (ha : ElemsAt w a l) (hb : ElemsAt w b l) (hn : l.length = n) (hl : n ≤ 1000000) : Calls Tryz.prog 17 #[.slice a n ca, .slice b n cb] w (BoB true w) := by
  subst hn; exact EqElems_yes a b ca cb l w ha hb hl

set_option maxRecDepth 100000 in
set_option maxHeartbeats 1000000 in
theorem EqOp_yes (o : OpD) (a b : Option Addr) (ca cb : Nat) (w : World) (ha : ElemsAt w a o.gone) (hb : ElemsAt w b o.gone) (hl : o.gone.length ≤ 1000000) : Calls Tryz.prog 59 #[o.v a ca, o.v b cb] w (BoB true w) := by
  obtain ⟨site, seq, kind, ⟨es, eq, ei⟩, text, gone, of, num, gen⟩ := o
  have HA := Lib.hid ha
  have HB := Lib.hid hb
  clear ha hb
  unfold OpD.v
  simp only at HA HB hl ⊢
  obtain ⟨n, hn⟩ : ∃ n, gone.length = n := ⟨_, rfl⟩
  have HN := Lib.hid hn
  rw [hn] at hl ⊢
  clear hn
  go_enter Tryz.func59, Tryz.ntmps59
  go_wp2_with fail
  have hb2 : ∀ o1 o2, Below w.heap.size w ((w.alloc o1).alloc o2) := fun o1 o2 => ((Below.refl _ _).alloc (Nat.le_refl _) _).alloc (by simp) _
  refine (EqElems_n _ _ _ _ n gone _ (HA.out.below (hb2 _ _)) (HB.out.below (hb2 _ _)) HN.out hl).mono ?_
  rintro e w4 ⟨rfl, hb4⟩
  have hz : w.heap.size + 1 < w4.heap.size := by have := hb4.size; simp at this; omega
  obtain ⟨hc, hf⟩ := bcell hb4
  have hbw : Below w.heap.size w w4 := (hb2 _ _).trans (hb4.mono (by simp; omega))
  have HW := Lib.hid hbw
  clear hb4 hbw hb2
  go_wp2
  go_ret
  exact ⟨rfl, HW.out⟩

/-- elements of the call's own, written over -/
def SpoilPost (B : Nat) (w0 : World) (e : Ending) (w' : World) : Prop := e = .returned (.tuple #[]) ∧ Below B w0 w'
set_option maxRecDepth 100000 in
set_option maxHeartbeats 1000000 in
theorem Spoil_own (a : Option Addr) (cap n base B : Nat) (xs : List Value) (w0 w : World) (hown : w.ownsRow base 43 3 (.slice a n cap) n xs) (hB : B ≤ base) (hb : Below B w0 w) (hl : n ≤ 1000000) : Calls Tryz.prog 24 #[.slice a n cap] w (SpoilPost B w0) := by
  go_enter Tryz.func24, Tryz.ntmps24
  go_wp2
  go_loopw [2] (fun i wr => ∃ (k : Nat) (ys : List Value), k ≤ n ∧ i = .int .i64 k ∧ wr.ownsRow base 43 3 (.slice a n cap) n ys ∧ Below B w0 wr) (fun i _ => n - (RowKit.intOf i).toNat)
  case atStart => exact ⟨0, xs, by omega, rfl, hown, hb⟩
  case round =>
    clear hown hb
    obtain ⟨k, ys, hk, rfl, ho, hbr⟩ := hrel
    by_cases hlt : k < n
    · obtain ⟨g, cap2, hv, hg0, hg1⟩ := ho.form (by omega)
      obtain ⟨rfl, rfl⟩ : a = some ⟨g, 0, none⟩ ∧ cap = cap2 := by
        simp only [Value.slice.injEq] at hv
        exact ⟨hv.1, hv.2.2⟩
      clear hv
      have hyl := ho.1
      have hc0 : wr.cell? ⟨g, k * 3, none⟩ = some ys[k * 3] := by rw [ho.cellAt (k * 3) (by omega), List.getElem?_eq_getElem (by omega)]
      have hc1 : wr.cell? ⟨g, k * 3 + 1, none⟩ = some ys[k * 3 + 1] := by rw [ho.cellAt (k * 3 + 1) (by omega), List.getElem?_eq_getElem (by omega)]
      have hc2 : wr.cell? ⟨g, k * 3 + 2, none⟩ = some ys[k * 3 + 2] := by rw [ho.cellAt (k * 3 + 2) (by omega), List.getElem?_eq_getElem (by omega)]
      have hf0 := ho.frozenAt (k * 3)
      have hf1 := ho.frozenAt (k * 3 + 1)
      have hf2 := ho.frozenAt (k * 3 + 2)
      have HO := Lib.hid ho
      clear ho
      generalize ys[k * 3] = y0 at *
      generalize ys[k * 3 + 1] = y1 at *
      generalize ys[k * 3 + 2] = y2 at *
      clear hyl
      have hg2 : B ≤ g := Nat.le_trans hB hg0
      go_wp2
      go_roundw
      case rel => exact ⟨k + 1, _, by omega, by go_num, (((HO.out.stored (k * 3) _).1.stored (k * 3 + 1) _).1.stored (k * 3 + 2) _).1, ((hbr.setCell hg2 _).setCell hg2 _).setCell hg2 _⟩
      case measure => simp [RowKit.intOf]; omega
    · go_wp2
      exact bodyPost_ret (v := .tuple #[]) (by simp [results, Tryz.results24, go_sem]) rfl ⟨rfl, hbr⟩
end Go.Proofs.YtjkgmpohddcgpaaGreatDoor

