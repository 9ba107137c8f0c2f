/- how much a disk is -/
import Derived.Test.YtlmfieeemkahfaaDkX
namespace Go.Proofs.Ytlmfieeemkahfaa
open Go.RowKit Go.Lib

theorem tdiv_nat (n k : Nat) : ((n : Int)).tdiv (k : Int) = ((n / k : Nat) : Int) := by
  exact (Int.tdiv_eq_ediv_of_nonneg (Int.natCast_nonneg n)).trans (Int.natCast_ediv n k).symm
/-- bounds of what is counted -/
def Wt (N0 : Nat) (M : Int) : Prop := (N0 : Int) ≤ M ∧ M ≤ 1000000000000000
theorem div_big {s : Nat} (h2 : s ≤ BIG) (k : Nat) : s / k ≤ 200000000000000 := Nat.le_trans (Nat.div_le_self _ _) (Nat.le_trans h2 (by unfold BIG; decide))
theorem wt_step {N0 s k : Nat} {M : Int} (h : Wt N0 M) (hM : M < 1048576) (h2 : s ≤ BIG) : Wt N0 (wrap64 (M + wrap64 (((s : Nat) : Int).tdiv (k : Int)))) ∧ Wt N0 (M + (s : Int) / (k : Int)) ∧ Wt N0 (wrap64 (M + (s : Int) / (k : Int))) := by
  have h3 := div_big h2 k
  have h4 : (s : Int) / (k : Int) = ((s / k : Nat) : Int) := rfl
  rw [tdiv_nat, h4]
  generalize s / k = q at *
  unfold Wt at *
  have e1 : wrap64 (q : Int) = (q : Int) := by unfold wrap64; omega
  have e2 : wrap64 (M + (q : Int)) = M + (q : Int) := by unfold wrap64; omega
  rw [e1, e2]
  exact ⟨⟨by omega, by omega⟩, ⟨by omega, by omega⟩, ⟨by omega, by omega⟩⟩
theorem wt_start {m m2 : Nat} (h1 : m ≤ BIG) (h2 : m2 ≤ BIG) : Wt (m / 4 + m2) (wrap64 (wrap64 ((m : Int).tdiv 4) + (m2 : Int))) ∧ Wt (m / 4 + m2) ((m : Int) / 4 + (m2 : Int)) ∧ Wt (m / 4 + m2) (wrap64 ((m : Int) / 4 + (m2 : Int))) := by
  have h3 := div_big h1 4
  have h4 : (m : Int) / 4 = ((m / 4 : Nat) : Int) := rfl
  have h5 : (m : Int).tdiv 4 = ((m / 4 : Nat) : Int) := tdiv_nat m 4
  rw [h5, h4]
  have h6 : m2 ≤ 200000000000000 := Nat.le_trans h2 (by unfold BIG; decide)
  generalize m / 4 = q at *
  unfold Wt
  have e1 : wrap64 (q : Int) = (q : Int) := by unfold wrap64; omega
  have e2 : wrap64 ((q : Int) + (m2 : Int)) = (q : Int) + (m2 : Int) := by unfold wrap64; omega
  rw [e1, e2]
  exact ⟨⟨by omega, by omega⟩, ⟨by omega, by omega⟩, ⟨by omega, by omega⟩⟩
def WtP (d : DkD) (w : World) (e : Ending) (w' : World) : Prop := ∃ M : Int, e = .returned (.int .i64 M) ∧ Wt (d.safe.length / 4 + d.wait.length) M ∧ Below w.heap.size w w'
set_option maxRecDepth 100000 in
set_option maxHeartbeats 4000000 in
theorem DiskWeight_any (d : DkD) (sa : Option Addr) (sc : Nat) (wa : Option Addr) (wc : Nat) (w : World) (h : DkAt w d sa wa) : Calls Try.prog 25 #[d.v sa sc wa wc] w (WtP d w) := by
  have H1 := Lib.hid h.safe
  have H2 := Lib.hid h.wait
  have hlm := h.safe.len
  have hlm2 := h.wait.len
  have HWS := Lib.hid (wt_start hlm hlm2)
  have HZ1 := Lib.hid h.safe.size
  have HZ2 := Lib.hid h.wait.size
  clear h
  unfold WtP DkD.v at *
  obtain ⟨safe, wait⟩ := d
  simp only at *
  obtain ⟨m, hm⟩ : ∃ m, safe.length = m := ⟨_, rfl⟩
  obtain ⟨m2, hm2⟩ : ∃ m, wait.length = m := ⟨_, rfl⟩
  rw [hm] at hlm HWS ⊢
  rw [hm2] at hlm2 HWS ⊢
  generalize m / 4 + m2 = N0 at *
  have HM := Lib.hid hm
  have HM2 := Lib.hid hm2
  have HX0 := Lib.hid (Hp.new w #[.slice sa m sc, .slice wa m2 wc] 25)
  have HB0 := Lib.hid (below_al w (.cells #[.slice sa m sc, .slice wa m2 wc] 25))
  have hmi : (m : Int) ≤ 140737488351232 := by unfold BIG at hlm; omega
  have hmi2 : (m2 : Int) ≤ 140737488351232 := by unfold BIG at hlm2; omega
  clear hm hm2 hlm hlm2
  go_enter Try.func25, Try.ntmps25
  go_upto_region 1 with fail
  obtain ⟨bx, hbx⟩ : ∃ b, w.heap.size = b := ⟨_, rfl⟩
  rw [hbx] at HX0 ⊢
  generalize w.alloc (.cells #[.slice sa m sc, .slice wa m2 wc] 25) = W0 at *
  have q0 := HX0.out.cell 0 rfl
  have q1 := HX0.out.cell 1 rfl
  go_wp2_with fail
  go_loopw [3, 4] (fun s3 s4 wr => ∃ (k : Nat) (M : Int), s4 = .int .i64 k ∧ s3 = .int .i64 M ∧ k ≤ m ∧ Wt N0 M ∧ W0 = wr) (fun _ s4 _ => m - (RowKit.intOf s4).toNat)
  case atStart => exact ⟨0, _, rfl, rfl, Nat.zero_le _, (by first | exact HWS.out.1 | exact HWS.out.2.1 | exact HWS.out.2.2), rfl⟩
  case round =>
    obtain ⟨k, M, rfl, rfl, hk, hwt, rfl⟩ := hrel
    have HWT := Lib.hid hwt
    clear hwt HWS
    have hx : (k < m ∧ M < 1048576) ∨ (k < m ∧ ¬ M < 1048576) ∨ ¬ k < m := by
      by_cases h1 : k < m
      · by_cases h2 : M < 1048576
        · exact .inl ⟨h1, h2⟩
        · exact .inr (.inl ⟨h1, h2⟩)
      · exact .inr (.inr h1)
    rcases hx with ⟨h1, h2⟩ | ⟨h1, h2⟩ | h1
    · have hkl : k < safe.length := by rw [HM.out]; exact h1
      obtain ⟨b, off, rfl, hbb, x0⟩ := (H1.out.below HB0.out).cell k hkl
      have HS := Lib.hid (wt_step (k := 64) HWT.out h2 (HZ1.out k hkl))
      have hsi : (safe[k].size : Int) ≤ 140737488351232 := by have h9 := HZ1.out k hkl; unfold BIG at h9; omega
      generalize safe[k] = x at *
      have h2d : decide (M < 1048576) = true := decide_eq_true h2
      go_wp2_with fail
      go_roundw
      case rel => exact ⟨k + 1, _, by go_num, rfl, by omega, (by first | exact HS.out.1 | exact HS.out.2.1 | exact HS.out.2.2), by first | rfl | trivial⟩
      case measure => simp [RowKit.intOf]; omega
    all_goals
      try (have h2d : decide (M < 1048576) = false := decide_eq_false h2)
      go_wp2_with fail
      go_loopw [3, 5] (fun s3 s5 wq => ∃ (j : Nat) (M2 : Int), s5 = .int .i64 j ∧ s3 = .int .i64 M2 ∧ j ≤ m2 ∧ Wt N0 M2 ∧ W0 = wq) (fun _ s5 _ => m2 - (RowKit.intOf s5).toNat)
      case atStart => exact ⟨0, M, rfl, rfl, Nat.zero_le _, HWT.out, rfl⟩
      case round =>
        obtain ⟨j, M2, rfl, rfl, hj, hwt, rfl⟩ := hrel
        have HW2 := Lib.hid hwt
        clear hwt h1 HWT
        have hx : (j < m2 ∧ M2 < 1048576) ∨ (j < m2 ∧ ¬ M2 < 1048576) ∨ ¬ j < m2 := by
          by_cases h3 : j < m2
          · by_cases h4 : M2 < 1048576
            · exact .inl ⟨h3, h4⟩
            · exact .inr (.inl ⟨h3, h4⟩)
          · exact .inr (.inr h3)
        rcases hx with ⟨h3, h4⟩ | ⟨h3, h4⟩ | h3
        · have hjl : j < wait.length := by rw [HM2.out]; exact h3
          obtain ⟨b, off, rfl, hbb, x0, x1⟩ := (H2.out.below HB0.out).cell j hjl
          have HS := Lib.hid (wt_step (k := 16) HW2.out h4 (HZ2.out j hjl))
          have hsi : (wait[j].text.size : Int) ≤ 140737488351232 := by have h9 := HZ2.out j hjl; unfold BIG at h9; omega
          generalize wait[j] = x at *
          obtain ⟨xp, xt⟩ := x
          simp only at x0 x1 HS hsi
          have h4d : decide (M2 < 1048576) = true := decide_eq_true h4
          go_wp2_with fail
          go_roundw
          case rel => exact ⟨j + 1, _, by go_num, rfl, by omega, (by first | exact HS.out.1 | exact HS.out.2.1 | exact HS.out.2.2), by first | rfl | trivial⟩
          case measure => simp [RowKit.intOf]; omega
        all_goals
          try (have h4d : decide (M2 < 1048576) = false := decide_eq_false h4)
          go_wp2_with fail
          go_ret
          exact ⟨M2, rfl, HW2.out, by first | exact HB0.out | exact hbx ▸ HB0.out⟩
end Go.Proofs.Ytlmfieeemkahfaa
