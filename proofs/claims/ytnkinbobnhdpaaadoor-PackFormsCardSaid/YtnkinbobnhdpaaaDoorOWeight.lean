/- The laws' weight of ops. -/
import Derived.Test.YtnkinbobnhdpaaaDoorOArgs2
namespace Go.Proofs.YtnkinbobnhdpaaaDoor
open Go.RowKit Go.Lib

theorem OpWeight_any (o : OpD) (a : Option Addr) (cap : Nat) (w : World) (hs : o.text.size ≤ 140737488351232) (hg : o.gone.length ≤ 140737488351232) : Calls Tryd.prog 76 #[o.v a cap] w (IntB (2 + (o.text.size : Int) / 4 + o.gone.length) w) := by
  obtain ⟨site, seq, kind, ⟨es, eq, ei⟩, text, gone, of, num, gen⟩ := o
  have hb0 : Below w.heap.size w (w.alloc (OpD.obj ⟨site, seq, kind, ⟨es, eq, ei⟩, text, gone, of, num, gen⟩ a cap)) := (Below.refl _ _).alloc (Nat.le_refl _) _
  unfold OpD.v
  unfold OpD.obj at hb0
  simp only at hb0 hs hg ⊢
  go_enter Tryd.func76, Tryd.ntmps76
  go_wp2
  go_ret
  exact ⟨rfl, hb0⟩

/-- how much ops weigh -/
def wt (r : OpR) : Nat := 2 + r.o.text.size / 4 + r.o.gone.length
def wsum (l : List OpR) : Nat := l.length + (l.map wt).sum
def wpart (l : List OpR) (k : Nat) : Nat := l.length + ((l.take k).map wt).sum
theorem wpart_succ {l : List OpR} {k : Nat} (h : k < l.length) : wpart l (k + 1) = wpart l k + wt l[k] := by
  unfold wpart; rw [List.take_succ_eq_append_getElem h, List.map_append, List.sum_append, List.map_singleton, List.sum_singleton]; omega
theorem wpart_end {l : List OpR} {k : Nat} (h : l.length ≤ k) : wpart l k = wsum l := by
  unfold wpart wsum; rw [List.take_of_length_le h]
theorem wt_mem {l : List OpR} {r : OpR} (h : r ∈ l) : wt r + l.length ≤ wsum l := by
  have : wt r ≤ (l.map wt).sum := by
    induction l with
    | nil => cases h
    | cons x t ih =>
      simp only [List.map_cons, List.sum_cons]
      rcases List.mem_cons.1 h with rfl | h
      · omega
      · have := ih h; omega
  unfold wsum; omega

def HUGE : Nat := 1125899906842624
theorem big_lt : BIG + BIG + BIG + 1048576 ≤ HUGE := by decide
theorem huge_lt : (HUGE : Int) ≤ 1152921504606846976 := by decide
def WeightPost (l : List OpR) (w : World) (e : Ending) (w' : World) : Prop := ∃ r : Nat, r ≤ HUGE ∧ e = .returned (.int .i64 r) ∧ (r ≤ 3000 → wsum l = r) ∧ Below w.heap.size w w'

set_option maxRecDepth 100000 in
set_option maxHeartbeats 1000000 in
theorem OpsWeight_any (a : Option Addr) (cap : Nat) (l : List OpR) (w : World) (h : OpsAt w a l) : Calls Tryd.prog 45 #[.slice a l.length cap] w (WeightPost l w) := by
  have hlen := h.len
  have hbl := big_lt
  have hhl := huge_lt
  have hbi := big_is
  have H := Lib.hid h
  clear h
  go_enter Tryd.func45, Tryd.ntmps45
  go_wp2
  go_loopw [3, 4] (fun n i wr => ∃ k M : Nat, k ≤ l.length ∧ i = .int .i64 k ∧ n = .int .i64 M ∧ M = wpart l k ∧ M ≤ HUGE ∧ Below w.heap.size w wr) (fun _ i _ => l.length - (RowKit.intOf i).toNat)
  case atStart => exact ⟨0, l.length, by omega, rfl, rfl, by simp [wpart], by omega, Below.refl _ _⟩
  case round =>
    obtain ⟨k, M, hk, rfl, rfl, hM, hM2, hbel⟩ := hrel
    have HM := Lib.hid hM
    clear hM
    by_cases hlt : k < l.length ∧ (M : Int) < 1048576
    · obtain ⟨h1, h2⟩ := hlt
      obtain ⟨b, off, ha, hb, c0, c1, c2, c3, c4, c5, c6, c7, c8, c9, ca⟩ := (H.out.below hbel).cells k h1
      have hts := (H.out.op k h1).size
      have htg := (H.out.op k h1).len
      have HP := Lib.hid (wpart_succ h1)
      have hW := fun w => OpWeight_any l[k].o l[k].a l[k].cap w (by omega) (by omega)
      have hwt : wt l[k] = 2 + l[k].o.text.size / 4 + l[k].o.gone.length := rfl
      generalize l[k] = r at *
      obtain ⟨⟨site, seq, kind, ⟨es, eq, ei⟩, text, gone, of, num, gen⟩, ra, rc⟩ := r
      unfold OpD.v at hW
      simp only at c0 c1 c2 c3 c4 c5 c6 c7 c8 c9 ca hts htg hwt hW
      have HW := Lib.hid hW
      have HWT := Lib.hid hwt
      obtain ⟨T, hT⟩ : ∃ T : Nat, (text.size : Int) / 4 = T := ⟨text.size / 4, by omega⟩
      have hTs : T = text.size / 4 := by omega
      simp only [hT] at HW
      have HTS := Lib.hid hTs
      have hTb : T ≤ BIG := by omega
      clear hW hwt hT hTs
      subst ha
      go_wp2_with fail
      refine (HW.out _).mono ?_
      rintro e w1 ⟨rfl, hb1⟩
      have hbw := hbel.trans (hb1.mono hbel.size)
      clear c0 c1 c2 c3 c4 c5 c6 c7 c8 c9 ca hb1 hbel
      go_wp2
      go_roundw
      case rel => exact ⟨k + 1, M + (2 + T + gone.length), by omega, by go_num, by go_num, by rw [HP.out, HM.out, HWT.out, HTS.out], by omega, hbw⟩
      case measure => simp [RowKit.intOf]; omega
    · by_cases h1 : k < l.length
      · have h2 : decide ((M : Int) < 1048576) = false := decide_eq_false (fun h => hlt ⟨h1, h⟩)
        have h4 : ¬ (M : Int) < 1048576 := fun h => hlt ⟨h1, h⟩
        clear hlt
        go_wp2
        go_ret
        exact ⟨M, hM2, rfl, by omega, hbel⟩
      · have h2 : decide (k < l.length) = false := by simp; omega
        go_wp2
        go_ret
        exact ⟨M, hM2, rfl, fun _ => by rw [HM.out, wpart_end (by omega)], hbel⟩
end Go.Proofs.YtnkinbobnhdpaaaDoor
