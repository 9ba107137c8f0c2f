/- what is small: numbers, equality, copies -/
import Derived.Test.YtlmfieeemkahfaaDkA
namespace Go.Proofs.Ytlmfieeemkahfaa
open Go.RowKit Go.Lib

def btw (x lo hi : Int) : Bool := decide (lo ≤ x ∧ x ≤ hi)
theorem Between_any (n lo hi : Int) (w : World) : Calls Try.prog 11 #[.int .i64 n, .int .i64 lo, .int .i64 hi] w (Bo (btw n lo hi) w) := by
  unfold btw
  by_cases h : lo ≤ n
  · by_cases h2 : n ≤ hi
    · rw [decide_eq_true (show lo ≤ n ∧ n ≤ hi from ⟨h, h2⟩)]
      go_enter Try.func11, Try.ntmps11
      go_wp2
      go_ret
      exact ⟨rfl, rfl⟩
    · rw [decide_eq_false (show ¬ (lo ≤ n ∧ n ≤ hi) from fun x => h2 x.2)]
      go_enter Try.func11, Try.ntmps11
      go_wp2
      go_ret
      exact ⟨rfl, rfl⟩
  · rw [decide_eq_false (show ¬ (lo ≤ n ∧ n ≤ hi) from fun x => h x.1)]
    go_enter Try.func11, Try.ntmps11
    go_wp2
    go_ret
    exact ⟨rfl, rfl⟩
theorem Num_any (n hi : Int) (w : World) : Calls Try.prog 36 #[.int .i64 n, .int .i64 hi] w (Bo (btw n 0 hi) w) := by
  unfold btw
  by_cases h : 0 ≤ n
  · by_cases h2 : n ≤ hi
    · rw [decide_eq_true (show 0 ≤ n ∧ n ≤ hi from ⟨h, h2⟩)]
      go_enter Try.func36, Try.ntmps36
      go_wp2
      go_ret
      exact ⟨rfl, rfl⟩
    · rw [decide_eq_false (show ¬ (0 ≤ n ∧ n ≤ hi) from fun x => h2 x.2)]
      go_enter Try.func36, Try.ntmps36
      go_wp2
      go_ret
      exact ⟨rfl, rfl⟩
  · rw [decide_eq_false (show ¬ (0 ≤ n ∧ n ≤ hi) from fun x => h x.1)]
    go_enter Try.func36, Try.ntmps36
    go_wp2
    go_ret
    exact ⟨rfl, rfl⟩
theorem num14_any (n : Int) (w : World) : Calls Try.prog 12 #[.int .i64 n] w fun e w' => e = .returned (.int .i64 n) ∧ w = w' := by
  go_enter Try.func12, Try.ntmps12
  go_wp2
  go_ret
  exact ⟨rfl, rfl⟩
set_option maxRecDepth 100000 in
theorem Within_any (i : Int) (n : Nat) (w : World) (hn : 0 < n) (hn2 : n ≤ 1000) : Calls Try.prog 15 #[.int .i64 i, .int .i64 n] w fun e w' => (∃ k : Nat, k < n ∧ e = .returned (.int .i64 (k : Int))) ∧ w = w' := by
  have h2 : IntKind.u64.wrap (n : Int) = (n : Int) := IntWalk.u64_in _ (by omega)
  obtain ⟨u, hu⟩ : ∃ u, IntKind.u64.wrap i = u := ⟨_, rfl⟩
  have hu0 : 0 ≤ u := by rw [← hu]; exact wrap_u64_nonneg i
  obtain ⟨m, rfl⟩ : ∃ m : Nat, u = m := ⟨u.toNat, by omega⟩
  have hm : m % n < n := Nat.mod_lt _ hn
  have h3 : ((m : Int)).tmod (n : Int) = ((m % n : Nat) : Int) := by
    rw [Int.tmod_eq_emod_of_nonneg (by omega)]
    rfl
  have h4 : IntKind.u64.wrap ((m % n : Nat) : Int) = ((m % n : Nat) : Int) := IntWalk.u64_in _ (by omega)
  have h5 : IntKind.i64.wrap ((m % n : Nat) : Int) = ((m % n : Nat) : Int) := IntWalk.i64_in _ (by omega)
  have hnz : (0 : Int) < (n : Int) := by omega
  go_enter Try.func15, Try.ntmps15
  go_wp2
  go_ret
  exact ⟨⟨m % n, hm, by first | rfl | (simp only [h3, h4, h5])⟩, rfl⟩
theorem isBlock_any (s : ByteArray) (w : World) : Calls Try.prog 41 #[.string s] w (Bo (decide (s.size = 32)) w) := by
  have hz : ((s.size : Int) == 32) = decide (s.size = 32) := by
    by_cases h : s.size = 32
    · rw [h]; rfl
    · rw [decide_eq_false h]
      simp only [beq_eq_false_iff_ne, ne_eq]
      omega
  go_enter Try.func41, Try.ntmps41
  go_wp2
  go_ret
  exact ⟨rfl, rfl⟩
set_option maxRecDepth 100000 in
theorem isThere_any (d : DkD) (sa : Option Addr) (sc : Nat) (wa : Option Addr) (wc : Nat) (n : Int) (w : World) : Calls Try.prog 42 #[d.v sa sc wa wc, .int .i64 n] w (BoB (btw n 0 ((d.safe.length : Int) - 1)) w) := by
  have hb0 : ∀ o, Below w.heap.size w (w.alloc o) := fun o => below_al w o
  have HB := Lib.hid hb0
  clear hb0
  unfold DkD.v
  generalize d.safe.length = m at *
  generalize d.wait.length = m2 at *
  have hc : btw n 0 ((m : Int) - 1) = (decide (0 ≤ n) && decide (n < (m : Int))) := by
    unfold btw
    rw [← Bool.decide_and, decide_eq_decide]
    omega
  rw [hc]
  by_cases h : 0 ≤ n
  · have h0 : decide (0 ≤ n) = true := decide_eq_true h
    rw [h0, Bool.true_and]
    go_enter Try.func42, Try.ntmps42
    go_wp2
    go_ret
    exact ⟨rfl, HB.out _⟩
  · have h0 : decide (0 ≤ n) = false := decide_eq_false h
    rw [h0, Bool.false_and]
    go_enter Try.func42, Try.ntmps42
    go_wp2
    go_ret
    exact ⟨rfl, HB.out _⟩

set_option maxRecDepth 100000 in
set_option maxHeartbeats 2000000 in
theorem EqStrings_yes (aa ab : Option Addr) (ca cb n : Nat) (l : List ByteArray) (w : World) (h : StrsAt w aa l) (h2 : StrsAt w ab l) (hn : l.length = n) (hl : n ≤ 1000000) :
    Calls Try.prog 28 #[.slice aa n ca, .slice ab n cb] w (BoB true w) := by
  have HA := Lib.hid h
  have HB := Lib.hid h2
  have HN := Lib.hid hn
  clear h h2 hn
  go_enter Try.func28, Try.ntmps28
  go_wp2_with fail
  go_loopw [5] (fun s5 wr => ∃ k : Nat, s5 = .int .i64 k ∧ k ≤ n ∧ Below w.heap.size w wr) (fun s5 _ => n - (RowKit.intOf s5).toNat)
  case atStart => exact ⟨0, rfl, Nat.zero_le _, Below.refl _ _⟩
  case round =>
    obtain ⟨k, rfl, hk, hb⟩ := hrel
    have HBW := Lib.hid hb
    by_cases hlt : k < n
    · have hka : k < l.length := by rw [HN.out]; exact hlt
      obtain ⟨b, off, rfl, hbb, x0⟩ := (HA.out.below hb).cell k hka
      obtain ⟨b2, off2, rfl, hbb2, y0⟩ := (HB.out.below hb).cell k hka
      clear hb
      generalize l[k] = x at *
      clear hka
      go_wp2_with fail
      go_quiet (fail)
      go_wp2
      go_roundw
      case rel => exact ⟨k + 1, by go_num, by omega, below_drN HBW.out _⟩
      case measure => simp [RowKit.intOf]; omega
    · clear hb
      go_wp2
      go_ret
      exact ⟨rfl, HBW.out⟩
set_option maxRecDepth 100000 in
set_option maxHeartbeats 2000000 in
theorem EqSectors_yes (aa ab : Option Addr) (ca cb n : Nat) (l : List SeD) (w : World) (h : SecsAt w aa l) (h2 : SecsAt w ab l) (hn : l.length = n) (hl : n ≤ 1000000) :
    Calls Try.prog 29 #[.slice aa n ca, .slice ab n cb] w (BoB true w) := by
  have HA := Lib.hid h
  have HB := Lib.hid h2
  have HN := Lib.hid hn
  clear h h2 hn
  go_enter Try.func29, Try.ntmps29
  go_wp2_with fail
  go_loopw [5] (fun s5 wr => ∃ k : Nat, s5 = .int .i64 k ∧ k ≤ n ∧ Below w.heap.size w wr) (fun s5 _ => n - (RowKit.intOf s5).toNat)
  case atStart => exact ⟨0, rfl, Nat.zero_le _, Below.refl _ _⟩
  case round =>
    obtain ⟨k, rfl, hk, hb⟩ := hrel
    have HBW := Lib.hid hb
    by_cases hlt : k < n
    · have hka : k < l.length := by rw [HN.out]; exact hlt
      obtain ⟨b, off, rfl, hbb, x0, x1⟩ := (HA.out.below hb).cell k hka
      obtain ⟨b2, off2, rfl, hbb2, y0, y1⟩ := (HB.out.below hb).cell k hka
      clear hb
      generalize l[k] = x at *
      clear hka
      obtain ⟨xp, xt⟩ := x
      simp only at x0 x1 y0 y1
      go_wp2_with fail
      go_quiet (fail)
      go_wp2
      go_roundw
      case rel => exact ⟨k + 1, by go_num, by omega, below_drN HBW.out _⟩
      case measure => simp [RowKit.intOf]; omega
    · clear hb
      go_wp2
      go_ret
      exact ⟨rfl, HBW.out⟩
set_option maxRecDepth 100000 in
set_option maxHeartbeats 2000000 in
theorem EqDisk_yes (d : DkD) (sa sb wa wb : Option Addr) (ca cb cc cd : Nat) (w : World) (h : DkAt w d sa wa) (h2 : DkAt w d sb wb) (hl : d.safe.length ≤ 1000000) (hl2 : d.wait.length ≤ 1000000) :
    Calls Try.prog 13 #[d.v sa ca wa cc, d.v sb cb wb cd] w (BoB true w) := by
  have HS := Lib.hid (fun wx (hb : Below w.heap.size w wx) => EqStrings_yes sa sb ca cb d.safe.length d.safe wx (h.safe.below hb) (h2.safe.below hb) rfl hl)
  have HW := Lib.hid (fun wx (hb : Below w.heap.size w wx) => EqSectors_yes wa wb cc cd d.wait.length d.wait wx (h.wait.below hb) (h2.wait.below hb) rfl hl2)
  have hb2 : ∀ o1 o2, Below w.heap.size w ((w.alloc o1).alloc o2) := fun o1 o2 => below_alx (below_al w o1) o2
  have HB2 := Lib.hid hb2
  clear hb2 h h2
  unfold DkD.v at *
  generalize d.safe.length = m at *
  generalize d.wait.length = m2 at *
  have HX1 := Lib.hid (fun o1 => Hp.new w #[.slice sa m ca, .slice wa m2 cc] o1)
  go_enter Try.func13, Try.ntmps13
  go_wp2_with (first
    | (go_at_call 28; refine (HS.out _ (HB2.out _ _)).mono ?_; rintro e w4 ⟨rfl, hb4⟩; have HBW := Lib.hid ((HB2.out _ _).trans (hb4.mono (HB2.out _ _).size)); have hbc := bcell9 hb4; clear hb4)
    | (go_at_call 29; refine (HW.out _ HBW.out).mono ?_; rintro e w5 ⟨rfl, hb5⟩; have HBX := Lib.hid (HBW.out.trans (hb5.mono HBW.out.size)); clear hb5)
    | fail)
  go_ret
  exact ⟨rfl, HBX.out⟩
end Go.Proofs.Ytlmfieeemkahfaa
