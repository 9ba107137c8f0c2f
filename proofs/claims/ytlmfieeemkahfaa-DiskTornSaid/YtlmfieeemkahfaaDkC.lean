/- package disk: which disks may be; what becomes of a sector -/
import Derived.Test.YtlmfieeemkahfaaDkB
namespace Go.Proofs.Ytlmfieeemkahfaa
open Go.RowKit Go.Lib

theorem allp_stop {α : Type} {p : α → Bool} {l : List α} {k : Nat} (h : k < l.length) (hk : p l[k] = false) : l.all p = false := by
  rw [List.all_eq_false]
  exact ⟨l[k], List.getElem_mem h, by rw [hk]; simp⟩
theorem allp_step {α : Type} {p : α → Bool} {l : List α} {k : Nat} (h : k < l.length) (ha : (l.take k).all p = true) (hk : p l[k] = true) : (l.take (k + 1)).all p = true := by
  rw [List.take_succ_eq_append_getElem h, List.all_append, ha]; simp [hk]
def blkB (s : ByteArray) : Bool := decide (s.size = 32)
def secB (m : Nat) (x : SeD) : Bool := btw x.pl 0 ((m : Int) - 1) && decide (x.text.size = 32)
def headB (m m2 : Nat) : Bool := decide (1 ≤ m ∧ m ≤ 400 ∧ m2 ≤ 400)
def mayB (d : DkD) : Bool := headB d.safe.length d.wait.length && (d.safe.all blkB && d.wait.all (secB d.safe.length))
theorem mayB_head {d : DkD} (h : headB d.safe.length d.wait.length = false) : mayB d = false := by unfold mayB; rw [h]; rfl
theorem mayB_safe {d : DkD} (h : d.safe.all blkB = false) : mayB d = false := by unfold mayB; rw [h]; simp
theorem mayB_wait {d : DkD} (h : d.wait.all (secB d.safe.length) = false) : mayB d = false := by unfold mayB; rw [h]; simp
theorem mayB_yes {d : DkD} (h : headB d.safe.length d.wait.length = true) (h1 : d.safe.all blkB = true) (h2 : d.wait.all (secB d.safe.length) = true) : mayB d = true := by unfold mayB; rw [h, h1, h2]; rfl
structure May (d : DkD) : Prop where
  lo : 1 ≤ d.safe.length
  hi : d.safe.length ≤ 400
  few : d.wait.length ≤ 400
  safe : ∀ s ∈ d.safe, s.size = 32
  at_ : ∀ x ∈ d.wait, 0 ≤ x.pl ∧ x.pl < (d.safe.length : Int)
  text : ∀ x ∈ d.wait, x.text.size = 32
theorem may_of {d : DkD} (h : mayB d = true) : May d := by
  unfold mayB headB at h
  simp only [Bool.and_eq_true, decide_eq_true_eq, List.all_eq_true] at h
  obtain ⟨⟨h1, h2, h3⟩, h4, h5⟩ := h
  refine ⟨h1, h2, h3, fun s hs => ?_, fun x hx => ?_, fun x hx => ?_⟩
  · have := h4 s hs; unfold blkB at this; exact of_decide_eq_true this
  · have := h5 x hx; unfold secB btw at this; simp only [Bool.and_eq_true, decide_eq_true_eq] at this; omega
  · have := h5 x hx; unfold secB at this; simp only [Bool.and_eq_true, decide_eq_true_eq] at this; exact this.2
theorem may_to {d : DkD} (h : May d) : mayB d = true := by
  unfold mayB headB
  simp only [Bool.and_eq_true, decide_eq_true_eq, List.all_eq_true]
  refine ⟨⟨h.lo, h.hi, h.few⟩, fun s hs => ?_, fun x hx => ?_⟩
  · unfold blkB; exact decide_eq_true (h.safe s hs)
  · have := h.at_ x hx
    unfold secB btw
    simp only [Bool.and_eq_true, decide_eq_true_eq]
    exact ⟨⟨this.1, by omega⟩, h.text x hx⟩
theorem head_cases (m m2 : Nat) : (headB m m2 = true ∧ ¬ ((m : Int) < 1) ∧ ¬ ((400 : Int) < (m : Int)) ∧ ¬ ((400 : Int) < (m2 : Int)) ∧ m ≠ 0 ∧ ¬ 400 < m ∧ ¬ 400 < m2) ∨ (headB m m2 = false ∧ (m : Int) < 1 ∧ m = 0) ∨ (headB m m2 = false ∧ ¬ ((m : Int) < 1) ∧ (400 : Int) < (m : Int) ∧ m ≠ 0 ∧ 400 < m) ∨ (headB m m2 = false ∧ ¬ ((m : Int) < 1) ∧ ¬ ((400 : Int) < (m : Int)) ∧ (400 : Int) < (m2 : Int) ∧ m ≠ 0 ∧ ¬ 400 < m ∧ 400 < m2) := by
  unfold headB
  by_cases h1 : 1 ≤ m
  · by_cases h2 : m ≤ 400
    · by_cases h3 : m2 ≤ 400
      · exact .inl ⟨decide_eq_true ⟨h1, h2, h3⟩, by omega, by omega, by omega, by omega, by omega, by omega⟩
      · exact .inr (.inr (.inr ⟨decide_eq_false (fun h => h3 h.2.2), by omega, by omega, by omega, by omega, by omega, by omega⟩))
    · exact .inr (.inr (.inl ⟨decide_eq_false (fun h => h2 h.2.1), by omega, by omega, by omega, by omega⟩))
  · exact .inr (.inl ⟨decide_eq_false (fun h => h1 h.1), by omega, by omega⟩)

set_option maxRecDepth 100000 in
set_option maxHeartbeats 4000000 in
theorem mayBe_any (d : DkD) (sa : Option Addr) (sc : Nat) (wa : Option Addr) (wc : Nat) (w : World) (h : DkAt w d sa wa) : Calls Try.prog 40 #[d.v sa sc wa wc] w (BoB (mayB d) w) := by
  have H1 := Lib.hid h.safe
  have H2 := Lib.hid h.wait
  have HTH := Lib.hid (fun n wx => isThere_any d sa sc wa wc n wx)
  have HMH := Lib.hid (mayB_head (d := d))
  have HMS := Lib.hid (mayB_safe (d := d))
  have HMW := Lib.hid (mayB_wait (d := d))
  have HMY := Lib.hid (mayB_yes (d := d))
  have hlm := h.safe.len
  have hlm2 := h.wait.len
  unfold BIG at hlm hlm2
  generalize mayB d = bm at *
  unfold DkD.v at *
  obtain ⟨safe, wait⟩ := d
  simp only at *
  obtain ⟨m, hm⟩ : ∃ m, safe.length = m := ⟨_, rfl⟩
  obtain ⟨m2, hm2⟩ : ∃ m, wait.length = m := ⟨_, rfl⟩
  rw [hm] at HMH HTH HMW HMY hlm ⊢
  rw [hm2] at HMH HTH HMY hlm2 ⊢
  have HM := Lib.hid hm
  have HM2 := Lib.hid hm2
  clear h hm hm2
  have HX0 := Lib.hid (Hp.new w #[.slice sa m sc, .slice wa m2 wc] 25)
  have HB0 := Lib.hid (below_al w (.cells #[.slice sa m sc, .slice wa m2 wc] 25))
  have hcs := head_cases m m2
  rcases hcs with ⟨hd, c1, c2, c3, c4, c5, c6⟩ | ⟨hd, c1, c2⟩ | ⟨hd, c1, c2, c3, c4⟩ | ⟨hd, c1, c2, c3, c4, c5, c6⟩
  case inr.inl =>
    have HR := Lib.hid (HMH.out hd)
    subst c2
    clear hd
    go_enter Try.func40, Try.ntmps40
    go_wp2_with fail
    go_ret
    exact ⟨ret_bool HR.out.symm, HB0.out⟩
  case inr.inr.inl =>
    have HR := Lib.hid (HMH.out hd)
    clear hd
    go_enter Try.func40, Try.ntmps40
    go_wp2_with fail
    go_ret
    exact ⟨ret_bool HR.out.symm, HB0.out⟩
  case inr.inr.inr =>
    have HR := Lib.hid (HMH.out hd)
    clear hd
    go_enter Try.func40, Try.ntmps40
    go_wp2_with fail
    go_ret
    exact ⟨ret_bool HR.out.symm, HB0.out⟩
  case inl =>
    have HHD := Lib.hid hd
    clear hd HMH
    go_enter Try.func40, Try.ntmps40
    go_upto_region 1 with fail
    obtain ⟨bx, hbx⟩ : ∃ b, w.heap.size = b := ⟨_, rfl⟩
    rw [hbx] at HX0 ⊢
    generalize w.alloc (.cells #[.slice sa m sc, .slice wa m2 wc] 25) = W0 at *
    have q0 : W0.cell? ⟨bx, 0, none⟩ = some (.slice sa m sc) := HX0.out.cell 0 rfl
    have q1 : W0.cell? ⟨bx, 1, none⟩ = some (.slice wa m2 wc) := HX0.out.cell 1 rfl
    go_wp2_with fail
    go_loopw [26] (fun s26 wr => ∃ k : Nat, s26 = .int .i64 k ∧ k ≤ m ∧ (safe.take k).all blkB = true ∧ W0 = wr) (fun s26 _ => m - (RowKit.intOf s26).toNat)
    case atStart => exact ⟨0, rfl, Nat.zero_le _, rfl, rfl⟩
    case round =>
      obtain ⟨k, rfl, hk, hal, rfl⟩ := hrel
      have HAL := Lib.hid hal
      clear hal
      by_cases hlt : k < m
      · have hkl : k < safe.length := by rw [HM.out]; exact hlt
        obtain ⟨b, off, rfl, hbb, x0⟩ := (H1.out.below HB0.out).cell k hkl
        have HST := Lib.hid (allp_stop (p := blkB) hkl)
        have HGO := Lib.hid (allp_step (p := blkB) hkl HAL.out)
        have HBK := Lib.hid (fun wx => isBlock_any safe[k] wx)
        have hbk : blkB safe[k] = decide (safe[k].size = 32) := rfl
        rw [← hbk] at HBK
        clear hbk
        generalize hbv : blkB safe[k] = bv at *
        generalize safe[k] = x at *
        clear hbv
        cases bv
        · go_wp2_with (first | (go_at_call 41; refine (HBK.out _).mono ?_; rintro e w3 ⟨rfl, hw3⟩; subst hw3) | fail)
          go_ret
          exact ⟨ret_bool (HMS.out (HST.out (by first | rfl | trivial))).symm, HB0.out⟩
        · go_wp2_with (first | (go_at_call 41; refine (HBK.out _).mono ?_; rintro e w3 ⟨rfl, hw3⟩; subst hw3) | fail)
          go_roundw
          case rel => exact ⟨k + 1, by go_num, by omega, HGO.out (by first | rfl | trivial), by first | rfl | trivial⟩
          case measure => simp [RowKit.intOf]; omega
      · have HALL := Lib.hid (show safe.all blkB = true from by
          have h9 := HAL.out
          rw [List.take_of_length_le (by rw [HM.out]; omega)] at h9
          exact h9)
        have hkm : k = m := by omega
        subst hkm
        clear HAL hlt hk
        go_wp2_with fail
        go_loopw [37] (fun s37 wr => ∃ j : Nat, s37 = .int .i64 j ∧ j ≤ m2 ∧ (wait.take j).all (secB k) = true ∧ Below W0.heap.size W0 wr) (fun s37 _ => m2 - (RowKit.intOf s37).toNat)
        case atStart => exact ⟨0, rfl, Nat.zero_le _, rfl, Below.refl _ _⟩
        case round =>
          obtain ⟨j, rfl, hj, hal, hbr⟩ := hrel
          have HAL := Lib.hid hal
          have HBR := Lib.hid hbr
          clear hal
          have HXR := Lib.hid (HX0.out.step hbr)
          have p0 : wr.cell? ⟨bx, 0, none⟩ = some (.slice sa k sc) := HXR.out.cell 0 rfl
          have p1 : wr.cell? ⟨bx, 1, none⟩ = some (.slice wa m2 wc) := HXR.out.cell 1 rfl
          have hbs : bx < wr.heap.size := HXR.out.lt
          clear q0 q1
          by_cases hlt : j < m2
          · have hjl : j < wait.length := by rw [HM2.out]; exact hlt
            obtain ⟨b, off, rfl, hbb, x0, x1⟩ := (H2.out.below (HB0.out.trans (hbr.mono HB0.out.size))).cell j hjl
            have HST := Lib.hid (allp_stop (p := secB k) hjl)
            have HGO := Lib.hid (allp_step (p := secB k) hjl HAL.out)
            have HBK := Lib.hid (fun wx => isBlock_any wait[j].text wx)
            have hsb : secB k wait[j] = (btw wait[j].pl 0 ((k : Int) - 1) && decide (wait[j].text.size = 32)) := rfl
            rw [hsb] at HST HGO
            clear hsb hbr
            generalize wait[j] = x at *
            obtain ⟨xp, xt⟩ := x
            simp only at x0 x1 HBK HST HGO
            have HT := Lib.hid (fun wx => HTH.out xp wx)
            generalize btw xp 0 ((k : Int) - 1) = b1 at *
            generalize decide (xt.size = 32) = b2 at *
            have HB9 := Lib.hid (below_al wr (.cells #[.int .i64 xp, .string xt] 73))
            cases b1
            · go_wp2_with (first
                | (go_at_call 42; refine (HT.out _).mono ?_; rintro e w3 ⟨rfl, hb3⟩; have HB3 := Lib.hid (HB9.out.trans (hb3.mono HB9.out.size)); clear hb3)
                | (go_at_call 41; refine (HBK.out _).mono ?_; rintro e w4 ⟨rfl, hw4⟩; subst hw4)
                | fail)
              go_ret
              exact ⟨ret_bool (HMW.out (HST.out (by first | rfl | trivial))).symm, HB0.out.trans ((HBR.out.trans (HB3.out.mono HBR.out.size)).mono HB0.out.size)⟩
            · cases b2
              · go_wp2_with (first
                  | (go_at_call 42; refine (HT.out _).mono ?_; rintro e w3 ⟨rfl, hb3⟩; have HB3 := Lib.hid (HB9.out.trans (hb3.mono HB9.out.size)); have HBC := bcell9 hb3; clear hb3)
                  | (go_at_call 41; refine (HBK.out _).mono ?_; rintro e w4 ⟨rfl, hw4⟩; subst hw4)
                  | fail)
                go_ret
                exact ⟨ret_bool (HMW.out (HST.out (by first | rfl | trivial))).symm, HB0.out.trans ((HBR.out.trans (HB3.out.mono HBR.out.size)).mono HB0.out.size)⟩
              · go_wp2_with (first
                  | (go_at_call 42; refine (HT.out _).mono ?_; rintro e w3 ⟨rfl, hb3⟩; have HB3 := Lib.hid (HB9.out.trans (hb3.mono HB9.out.size)); have HBC := bcell9 hb3; clear hb3)
                  | (go_at_call 41; refine (HBK.out _).mono ?_; rintro e w4 ⟨rfl, hw4⟩; subst hw4)
                  | fail)
                go_roundw
                case rel => exact ⟨j + 1, by go_num, by omega, HGO.out (by first | rfl | trivial), HBR.out.trans (HB3.out.mono HBR.out.size)⟩
                case measure => simp [RowKit.intOf]; omega
          · have HALW := Lib.hid (show wait.all (secB k) = true from by
              have h9 := HAL.out
              rw [List.take_of_length_le (by rw [HM2.out]; omega)] at h9
              exact h9)
            clear hbr
            go_wp2_with fail
            go_ret
            exact ⟨ret_bool (HMY.out HHD.out HALL.out HALW.out).symm, HB0.out.trans (HBR.out.mono HB0.out.size)⟩
theorem Check_any (d : DkD) (sa : Option Addr) (sc : Nat) (wa : Option Addr) (wc : Nat) (w : World) (h : DkAt w d sa wa) : Calls Try.prog 38 #[d.v sa sc wa wc] w (IntB (if mayB d then 0 else 1) w) := by
  have HM := Lib.hid (fun wx (hb : Below w.heap.size w wx) => mayBe_any d sa sc wa wc wx (h.below hb))
  have hb0 : ∀ o, Below w.heap.size w (w.alloc o) := fun o => below_al w o
  have HB := Lib.hid hb0
  clear hb0 h
  unfold DkD.v at *
  generalize d.safe.length = m at *
  generalize d.wait.length = m2 at *
  generalize mayB d = b at *
  cases b
  · go_enter Try.func38, Try.ntmps38
    go_wp2_with (first | (go_at_call 40; refine (HM.out _ (HB.out _)).mono ?_; rintro e w3 ⟨rfl, hb3⟩; have HB3 := Lib.hid ((HB.out _).trans (hb3.mono (HB.out _).size)); clear hb3) | fail)
    go_ret
    exact ⟨rfl, HB3.out⟩
  · go_enter Try.func38, Try.ntmps38
    go_wp2_with (first | (go_at_call 40; refine (HM.out _ (HB.out _)).mono ?_; rintro e w3 ⟨rfl, hb3⟩; have HB3 := Lib.hid ((HB.out _).trans (hb3.mono (HB.out _).size)); clear hb3) | fail)
    go_ret
    exact ⟨rfl, HB3.out⟩

/-- what a number that was kept stands for -/
def fateN (n : Int) : Nat := if n < 0 then 0 else (n.toNat % 3)
theorem fateN_lt (n : Int) : fateN n < 3 := by unfold fateN; split; omega; exact Nat.mod_lt _ (by decide)
theorem fate_any (n : Int) (w : World) (hn : n ≤ 9223372036854775807) : Calls Try.prog 48 #[.int .i64 n] w fun e w' => e = .returned (.int .i64 (fateN n : Nat)) ∧ w = w' := by
  unfold fateN
  by_cases h : n < 0
  · rw [if_pos h]
    go_enter Try.func48, Try.ntmps48
    go_wp2
    go_ret
    exact ⟨rfl, rfl⟩
  · rw [if_neg h]
    obtain ⟨m, rfl⟩ : ∃ m : Nat, n = m := ⟨n.toNat, by omega⟩
    have h3 : ((m : Int)).tmod 3 = ((m % 3 : Nat) : Int) := by
      rw [Int.tmod_eq_emod_of_nonneg (by omega)]
      rfl
    have h4 : wrap64 ((m % 3 : Nat) : Int) = ((m % 3 : Nat) : Int) := by unfold wrap64; omega
    have h5 : ((m : Int)).toNat = m := rfl
    rw [h5]
    go_enter Try.func48, Try.ntmps48
    go_wp2
    go_ret
    exact ⟨by first | rfl | (simp only [h3, h4]), rfl⟩
/-- what a sector is, that was old, when s was to come there -/
def wrS (old s : ByteArray) (e : Nat) : ByteArray := if e = 1 then s else if e = 2 then s.extract 0 16 ++ old.extract 16 old.size else old
theorem wrS_size {old s : ByteArray} (h1 : old.size = 32) (h2 : s.size = 32) (e : Nat) : (wrS old s e).size = 32 := by
  unfold wrS
  split
  · exact h2
  · split
    · rw [ByteArray.size_append, ByteArray.size_extract, ByteArray.size_extract, h1, h2]; rfl
    · exact h1
set_option maxRecDepth 100000 in
theorem written_any (old s : ByteArray) (e : Nat) (w : World) (h1 : old.size = 32) (h2 : s.size = 32) (he : e < 3) : Calls Try.prog 54 #[.string old, .string s, .int .i64 e] w fun x w' => x = .returned (.string (wrS old s e)) ∧ Below w.heap.size w w' := by
  unfold wrS
  rcases (by omega : e = 0 ∨ e = 1 ∨ e = 2) with rfl | rfl | rfl
  · rw [if_neg (by decide), if_neg (by decide)]
    go_enter Try.func54, Try.ntmps54
    go_wp2
    go_ret
    exact ⟨rfl, Below.refl _ _⟩
  · rw [if_pos rfl]
    go_enter Try.func54, Try.ntmps54
    go_wp2
    go_ret
    exact ⟨rfl, Below.refl _ _⟩
  · rw [if_neg (by decide), if_pos rfl]
    have a1 : (16 : Int) ≤ (s.size : Int) := by omega
    have a2 : (16 : Int) ≤ (old.size : Int) := by omega
    have a3 : 16 ≤ s.size := by omega
    have a4 : 16 ≤ old.size := by omega
    have hs1 : (s.extract 0 16).size = 16 := by rw [ByteArray.size_extract]; omega
    have hs2 : (old.extract 16 old.size).size = 16 := by rw [ByteArray.size_extract]; omega
    have hno : ¬ (9223372036854775807 < (s.extract 0 16).size + (old.extract 16 old.size).size) := by rw [hs1, hs2]; decide
    go_enter Try.func54, Try.ntmps54
    go_wp2
    go_quiet (fail)
    go_wp2
    go_ret
    exact ⟨congrArg (fun k => Ending.returned (Value.string (s.extract 0 16 ++ old.extract 16 k))) h1.symm, below_drN (Below.refl _ _) _⟩
end Go.Proofs.Ytlmfieeemkahfaa
