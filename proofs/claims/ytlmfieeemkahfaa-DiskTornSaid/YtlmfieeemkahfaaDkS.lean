/- the page's own: which disks may be; Sync, Crash, Put, New -/
import Derived.Test.YtlmfieeemkahfaaDkH
import Derived.Test.YtlmfieeemkahfaaDkI
namespace Go.Proofs.Ytlmfieeemkahfaa
open Go.RowKit Go.Lib

theorem Num_below (n hi : Int) (w : World) : Calls Try.prog 36 #[.int .i64 n, .int .i64 hi] w (BoB (btw n 0 hi) w) :=
  (Num_any n hi w).mono fun _ _ ⟨he, hw⟩ => ⟨he, hw ▸ Below.refl _ _⟩
theorem head_btw (m m2 : Nat) : (btw (m : Int) 1 400 = true ∧ ¬ ((400 : Int) < (m2 : Int)) ∧ ¬ 400 < m2 ∧ headB m m2 = true) ∨ (btw (m : Int) 1 400 = true ∧ (400 : Int) < (m2 : Int) ∧ 400 < m2 ∧ headB m m2 = false) ∨ (btw (m : Int) 1 400 = false ∧ headB m m2 = false) := by
  unfold btw headB
  by_cases h1 : 1 ≤ m ∧ m ≤ 400
  · have h2 : decide ((1 : Int) ≤ (m : Int) ∧ (m : Int) ≤ 400) = true := decide_eq_true ⟨by omega, by omega⟩
    by_cases h3 : m2 ≤ 400
    · exact .inl ⟨h2, by omega, by omega, decide_eq_true ⟨h1.1, h1.2, h3⟩⟩
    · exact .inr (.inl ⟨h2, by omega, by omega, decide_eq_false (fun h => h3 h.2.2)⟩)
  · exact .inr (.inr ⟨decide_eq_false (fun h => h1 ⟨by omega, by omega⟩), decide_eq_false (fun h => h1 ⟨h.1, h.2.1⟩)⟩)
set_option maxRecDepth 100000 in
set_option maxHeartbeats 4000000 in
theorem rDisk_any (d : DkD) (sa : Option Addr) (sc : Nat) (wa : Option Addr) (wc : Nat) (w : World) (h : DkAt w d sa wa) : Calls Try.prog 21 #[d.v sa sc wa wc] w (BoB (mayB d) w) := by
  have H1 := Lib.hid h.safe
  have H2 := Lib.hid h.wait
  have HMH := Lib.hid (mayB_head (d := d))
  have HMS := Lib.hid (mayB_safe (d := d))
  have HMW := Lib.hid (mayB_wait (d := d))
  have HMY := Lib.hid (mayB_yes (d := d))
  have hlm := h.safe.len
  have hlm2 := h.wait.len
  unfold BIG at hlm hlm2
  generalize mayB d = bm at *
  unfold DkD.v at *
  obtain ⟨safe, wait⟩ := d
  simp only at *
  obtain ⟨m, hm⟩ : ∃ m, safe.length = m := ⟨_, rfl⟩
  obtain ⟨m2, hm2⟩ : ∃ m, wait.length = m := ⟨_, rfl⟩
  rw [hm] at HMH HMW HMY hlm ⊢
  rw [hm2] at HMH HMY hlm2 ⊢
  have HM := Lib.hid hm
  have HM2 := Lib.hid hm2
  clear h hm hm2
  have HX0 := Lib.hid (Hp.new w #[.slice sa m sc, .slice wa m2 wc] 25)
  have HB0 := Lib.hid (below_al w (.cells #[.slice sa m sc, .slice wa m2 wc] 25))
  have HBT := Lib.hid (fun wx => Between_any (m : Int) 1 400 wx)
  rcases head_btw m m2 with ⟨hd1, c1, c2, hd⟩ | ⟨hd1, c1, c2, hd⟩ | ⟨hd1, hd⟩
  case inr.inl =>
    have HR := Lib.hid (HMH.out hd)
    rw [hd1] at HBT
    clear hd hd1
    go_enter Try.func21, Try.ntmps21
    go_wp2_with (first | (go_at_call 11; refine (HBT.out _).mono ?_; rintro e w3 ⟨rfl, hw3⟩; subst hw3) | fail)
    go_ret
    exact ⟨ret_bool HR.out.symm, HB0.out⟩
  case inr.inr =>
    have HR := Lib.hid (HMH.out hd)
    rw [hd1] at HBT
    clear hd hd1
    go_enter Try.func21, Try.ntmps21
    go_wp2_with (first | (go_at_call 11; refine (HBT.out _).mono ?_; rintro e w3 ⟨rfl, hw3⟩; subst hw3) | fail)
    go_ret
    exact ⟨ret_bool HR.out.symm, HB0.out⟩
  case inl =>
    have HHD := Lib.hid hd
    rw [hd1] at HBT
    have hm400 : m ≤ 400 := by have h9 := of_decide_eq_true hd1; omega
    clear hd HMH hd1
    go_enter Try.func21, Try.ntmps21
    go_upto_region 1 with fail
    obtain ⟨bx, hbx⟩ : ∃ b, w.heap.size = b := ⟨_, rfl⟩
    rw [hbx] at HX0 ⊢
    generalize w.alloc (.cells #[.slice sa m sc, .slice wa m2 wc] 25) = W0 at *
    have q0 : W0.cell? ⟨bx, 0, none⟩ = some (.slice sa m sc) := HX0.out.cell 0 rfl
    have q1 : W0.cell? ⟨bx, 1, none⟩ = some (.slice wa m2 wc) := HX0.out.cell 1 rfl
    go_wp2_with (first | (go_at_call 11; refine (HBT.out _).mono ?_; rintro e w3 ⟨rfl, hw3⟩; subst hw3) | fail)
    go_loopw [3] (fun s3 wr => ∃ k : Nat, s3 = .int .i64 k ∧ k ≤ m ∧ (safe.take k).all blkB = true ∧ W0 = wr) (fun s3 _ => m - (RowKit.intOf s3).toNat)
    case atStart => exact ⟨0, rfl, Nat.zero_le _, rfl, rfl⟩
    case round =>
      obtain ⟨k, rfl, hk, hal, rfl⟩ := hrel
      have HAL := Lib.hid hal
      clear hal
      by_cases hlt : k < m
      · have hkl : k < safe.length := by rw [HM.out]; exact hlt
        obtain ⟨b, off, rfl, hbb, x0⟩ := (H1.out.below HB0.out).cell k hkl
        have HST := Lib.hid (allp_stop (p := blkB) hkl)
        have HGO := Lib.hid (allp_step (p := blkB) hkl HAL.out)
        have hbk : ((safe[k].size : Int) != 32) = !blkB safe[k] := by
          unfold blkB
          by_cases h9 : safe[k].size = 32
          · rw [h9]; rfl
          · rw [decide_eq_false h9]
            simp only [bne_iff_ne, ne_eq, Bool.not_false]
            omega
        generalize hbv : blkB safe[k] = bv at *
        generalize safe[k] = x at *
        clear hbv
        cases bv
        · simp only [Bool.not_false] at hbk
          go_wp2_with fail
          go_ret
          exact ⟨ret_bool (HMS.out (HST.out (by first | rfl | trivial))).symm, HB0.out⟩
        · simp only [Bool.not_true] at hbk
          go_wp2_with fail
          go_roundw
          case rel => exact ⟨k + 1, by go_num, by omega, HGO.out (by first | rfl | trivial), by first | rfl | trivial⟩
          case measure => simp [RowKit.intOf]; omega
      · have HALL := Lib.hid (show safe.all blkB = true from by
          have h9 := HAL.out
          rw [List.take_of_length_le (by rw [HM.out]; omega)] at h9
          exact h9)
        have hkm : k = m := by omega
        subst hkm
        clear HAL hlt hk
        have hws : IntKind.i64.wrap ((k : Int) - 1) = (k : Int) - 1 := IntWalk.i64_in _ (by omega)
        have hws2 : wrap64 ((k : Int) - 1) = (k : Int) - 1 := by unfold wrap64; omega
        have HNU := Lib.hid (fun xp wx => Num_below xp ((k : Int) - 1) wx)
        go_wp2_with fail
        go_loopw [4] (fun s4 wr => ∃ j : Nat, s4 = .int .i64 j ∧ j ≤ m2 ∧ (wait.take j).all (secB k) = true ∧ Below W0.heap.size W0 wr) (fun s4 _ => m2 - (RowKit.intOf s4).toNat)
        case atStart => exact ⟨0, rfl, Nat.zero_le _, rfl, Below.refl _ _⟩
        case round =>
          obtain ⟨j, rfl, hj, hal, hbr⟩ := hrel
          have HAL := Lib.hid hal
          have HBR := Lib.hid hbr
          clear hal
          have HXR := Lib.hid (HX0.out.step hbr)
          have p0 : wr.cell? ⟨bx, 0, none⟩ = some (.slice sa k sc) := HXR.out.cell 0 rfl
          have p1 : wr.cell? ⟨bx, 1, none⟩ = some (.slice wa m2 wc) := HXR.out.cell 1 rfl
          clear q0 q1
          by_cases hlt : j < m2
          · have hjl : j < wait.length := by rw [HM2.out]; exact hlt
            obtain ⟨b, off, rfl, hbb, x0, x1⟩ := (H2.out.below (HB0.out.trans (hbr.mono HB0.out.size))).cell j hjl
            have HST := Lib.hid (allp_stop (p := secB k) hjl)
            have HGO := Lib.hid (allp_step (p := secB k) hjl HAL.out)
            have hsb : secB k wait[j] = (btw wait[j].pl 0 ((k : Int) - 1) && decide (wait[j].text.size = 32)) := rfl
            rw [hsb] at HST HGO
            have hbk : ((wait[j].text.size : Int) != 32) = !decide (wait[j].text.size = 32) := by
              by_cases h9 : wait[j].text.size = 32
              · rw [h9]; rfl
              · rw [decide_eq_false h9]
                simp only [bne_iff_ne, ne_eq, Bool.not_false]
                omega
            clear hsb hbr
            generalize wait[j] = x at *
            obtain ⟨xp, xt⟩ := x
            simp only at x0 x1 HST HGO hbk
            have HT := Lib.hid (fun wx => HNU.out xp wx)
            generalize btw xp 0 ((k : Int) - 1) = b1 at *
            generalize decide (xt.size = 32) = b2 at *
            have g0 := cell_regrown p0
            have g1 := cell_regrown p1
            have y0 := cell_regrown x0
            have y1 := cell_regrown x1
            have hj0 : (0 : Int) ≤ (j : Int) := by omega
            have hj1 : (j : Int) < (m2 : Int) := by omega
            go_upto_region 11 with fail
            clear p0 p1 x0 x1 HNU
            cases b1
            all_goals
              cases b2
              all_goals
                simp only [Bool.not_true, Bool.not_false] at hbk
                refine wp_region_quiet_below (by kernel_rfl) (by kernel_rfl) ?_
                repeat (first | go_big_quiet_step (exact Calls.regrown_of (HT.out _)) | quiet_step (exact Calls.regrown_of (HT.out _)))
                refine wpQuiet_nil ?_
                intro _ hw'
                obtain ⟨⟨dq, osq⟩, hw''⟩ := hw'
                subst hw''
                have HBQ := Lib.hid (HBR.out.trans ((below_regrown wr dq osq).mono HBR.out.size))
                generalize Sort.grow (redrawn wr dq) osq = w9 at *
                clear g0 g1 y0 y1
                go_wp2_with fail
                first
                  | (go_ret; exact ⟨ret_bool (HMW.out (HST.out (by first | rfl | trivial))).symm, HB0.out.trans (HBQ.out.mono HB0.out.size)⟩)
                  | (go_roundw
                     case rel => exact ⟨j + 1, by go_num, by omega, HGO.out (by first | rfl | trivial), HBQ.out⟩
                     case measure => simp [RowKit.intOf]; omega)
          · have HALW := Lib.hid (show wait.all (secB k) = true from by
              have h9 := HAL.out
              rw [List.take_of_length_le (by rw [HM2.out]; omega)] at h9
              exact h9)
            clear hbr
            go_wp2_with fail
            go_ret
            exact ⟨ret_bool (HMY.out HHD.out HALL.out HALW.out).symm, HB0.out.trans (HBR.out.mono HB0.out.size)⟩
end Go.Proofs.Ytlmfieeemkahfaa
