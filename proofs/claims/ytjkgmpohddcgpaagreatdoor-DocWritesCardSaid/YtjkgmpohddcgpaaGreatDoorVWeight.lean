/- the laws' weight of ops, as a function -/
import Derived.Test.YtjkgmpohddcgpaaGreatDoorOWeight
import Derived.Test.YtjkgmpohddcgpaaGreatDoorOBox
namespace Go.Proofs.YtjkgmpohddcgpaaGreatDoor
open Go.RowKit Go.Lib

/-- how much ops weigh, as far as it is counted -/
def ww : List OpR → Nat → Nat
  | [], M => M
  | r :: t, M => if M < 1048576 then ww t (M + wt r) else M
theorem ww_stop : ∀ {M : Nat} (l : List OpR), 1048576 ≤ M → ww l M = M
  | _, [], _ => rfl
  | M, r :: t, h => by unfold ww; rw [if_neg (by omega)]
theorem ww_step {l : List OpR} {k M : Nat} (h : k < l.length) (hM : M < 1048576) : ww (l.drop k) M = ww (l.drop (k + 1)) (M + wt l[k]) := by
  rw [List.drop_eq_getElem_cons h, ww, if_pos hM]
theorem ww_sum : ∀ (l : List OpR) (M : Nat), ww l M ≤ 3000 → ww l M = M + (l.map wt).sum
  | [], M, _ => by simp [ww]
  | r :: t, M, h => by
    by_cases hM : M < 1048576
    · have e : ww (r :: t) M = ww t (M + wt r) := by rw [ww, if_pos hM]
      rw [e] at h ⊢
      rw [ww_sum t _ h, List.map_cons, List.sum_cons]; omega
    · rw [ww_stop _ (by omega)] at h; omega
theorem ww_le : ∀ (l : List OpR) (M : Nat), (∀ r ∈ l, wt r ≤ BIG + BIG + 2) → M ≤ HUGE → ww l M ≤ HUGE
  | [], M, _, h => h
  | r :: t, M, hr, h => by
    by_cases hM : M < 1048576
    · rw [ww, if_pos hM]
      refine ww_le t _ (fun x hx => hr x (List.mem_cons_of_mem _ hx)) ?_
      have := hr r (by simp)
      have hb := big_lt
      have h2 : 2 ≤ BIG := by unfold BIG; omega
      omega
    · rw [ww_stop _ (by omega)]; exact h

set_option maxRecDepth 100000 in
set_option maxHeartbeats 1000000 in
theorem OpsWeight_fn (a : Option Addr) (cap : Nat) (l : List OpR) (w : World) (h : OpsAt w a l) : Calls Tryz.prog 46 #[.slice a l.length cap] w (IntB (ww l l.length) w) := by
  have hlen := h.len
  have hbl := big_lt
  have hhl := huge_lt
  have hbi := big_is
  have H := Lib.hid h
  clear h
  go_enter Tryz.func46, Tryz.ntmps46
  go_wp2
  go_loopw [3, 4] (fun n i wr => ∃ k M : Nat, k ≤ l.length ∧ i = .int .i64 k ∧ n = .int .i64 M ∧ M = wpart l k ∧ M ≤ HUGE ∧ ww l l.length = ww (l.drop k) M ∧ Below w.heap.size w wr) (fun _ i _ => l.length - (RowKit.intOf i).toNat)
  case atStart => exact ⟨0, l.length, by omega, rfl, rfl, by simp [wpart], by omega, rfl, Below.refl _ _⟩
  case round =>
    obtain ⟨k, M, hk, rfl, rfl, hM, hM2, hww, hbel⟩ := hrel
    have HM := Lib.hid hM
    have HWW := Lib.hid hww
    clear hM hww
    by_cases hlt : k < l.length ∧ (M : Int) < 1048576
    · obtain ⟨h1, h2⟩ := hlt
      obtain ⟨b, off, ha, hb, c0, c1, c2, c3, c4, c5, c6, c7, c8, c9, ca⟩ := (H.out.below hbel).cells k h1
      have hts := (H.out.op k h1).size
      have htg := (H.out.op k h1).len
      have HP := Lib.hid (wpart_succ h1)
      have HST := Lib.hid (HWW.out.trans (ww_step h1 (by omega : M < 1048576)))
      clear HWW
      have hW := fun w => OpWeight_any l[k].o l[k].a l[k].cap w (by omega) (by omega)
      have hwt : wt l[k] = 2 + l[k].o.text.size / 4 + l[k].o.gone.length := rfl
      generalize l[k] = r at *
      obtain ⟨⟨site, seq, kind, ⟨es, eq, ei⟩, text, gone, of, num, gen⟩, ra, rc⟩ := r
      unfold OpD.v at hW
      simp only at c0 c1 c2 c3 c4 c5 c6 c7 c8 c9 ca hts htg hwt hW
      have HW := Lib.hid hW
      have HWT := Lib.hid hwt
      obtain ⟨T, hT⟩ : ∃ T : Nat, (text.size : Int) / 4 = T := ⟨text.size / 4, by omega⟩
      have hTs : T = text.size / 4 := by omega
      simp only [hT] at HW
      have HTS := Lib.hid hTs
      have hTb : T ≤ BIG := by omega
      clear hW hwt hT hTs
      subst ha
      go_wp2_with fail
      refine (HW.out _).mono ?_
      rintro e w1 ⟨rfl, hb1⟩
      have hbw := hbel.trans (hb1.mono hbel.size)
      clear c0 c1 c2 c3 c4 c5 c6 c7 c8 c9 ca hb1 hbel
      go_wp2
      go_roundw
      case rel => exact ⟨k + 1, M + (2 + T + gone.length), by omega, by go_num, by go_num, by rw [HP.out, HM.out, HWT.out, HTS.out], by omega, by rw [HST.out, HWT.out, HTS.out], hbw⟩
      case measure => simp [RowKit.intOf]; omega
    · by_cases h1 : k < l.length
      · have h2 : decide ((M : Int) < 1048576) = false := decide_eq_false (fun h => hlt ⟨h1, h⟩)
        have h4 : ¬ (M : Int) < 1048576 := fun h => hlt ⟨h1, h⟩
        clear hlt
        go_wp2
        go_ret
        exact ⟨by rw [HWW.out, ww_stop _ (by omega)]; rfl, hbel⟩
      · have h2 : decide (k < l.length) = false := by simp; omega
        go_wp2
        go_ret
        exact ⟨by rw [HWW.out, List.drop_eq_nil_of_le (by omega)]; rfl, hbel⟩
end Go.Proofs.YtjkgmpohddcgpaaGreatDoor
