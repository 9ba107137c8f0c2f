/- more than is played? -/
import Derived.Test.YtlmfieeemkahfaaDkArg
namespace Go.Proofs.Ytlmfieeemkahfaa
open Go.RowKit Go.Lib

def Hv (N0 : Nat) (M : Int) : Prop := (N0 : Int) ≤ M ∧ M ≤ 2000000000000000
theorem hv_start {N0 L : Nat} {M : Int} (h : Wt N0 M) (h2 : L ≤ BIG) : Hv (N0 + L) (wrap64 (M + (L : Int))) ∧ Hv (N0 + L) (M + (L : Int)) := by
  unfold BIG at h2
  unfold Wt at h
  have e1 : wrap64 (M + (L : Int)) = M + (L : Int) := by unfold wrap64; omega
  rw [e1]
  unfold Hv
  exact ⟨⟨by omega, by omega⟩, ⟨by omega, by omega⟩⟩
theorem hv_step {N0 s k : Nat} {M : Int} (h : Hv N0 M) (hM : M < 1048576) (h2 : s ≤ BIG) (h3 : k ≤ BIG) : Hv N0 (M + (s : Int) / 16 + (k : Int)) ∧ M ≤ M + (s : Int) / 16 + (k : Int) ∧ (k : Int) ≤ M + (s : Int) / 16 + (k : Int) ∧ wrap64 ((s : Int).tdiv 16) = (s : Int) / 16 ∧ wrap64 (M + (s : Int) / 16) = M + (s : Int) / 16 ∧ wrap64 (M + (s : Int) / 16 + (k : Int)) = M + (s : Int) / 16 + (k : Int) := by
  have h4 := div_big h2 16
  have h5 : (s : Int) / 16 = ((s / 16 : Nat) : Int) := rfl
  have h6 : (s : Int).tdiv 16 = ((s / 16 : Nat) : Int) := tdiv_nat s 16
  rw [h5, h6]
  unfold BIG at h3
  generalize s / 16 = q at *
  unfold Hv at *
  exact ⟨⟨by omega, by omega⟩, by omega, by omega, by unfold wrap64; omega, by unfold wrap64; omega, by unfold wrap64; omega⟩
def KsLe (l : List AcD) (i : Nat) (M : Int) : Prop := ∀ j (h : j < l.length), j < i → (l[j].ks.length : Int) ≤ M
theorem KsLe.next {l : List AcD} {i : Nat} {M M2 : Int} (h : KsLe l i M) (hM : M ≤ M2) (hi : i < l.length) (hk : (l[i].ks.length : Int) ≤ M2) : KsLe l (i + 1) M2 := by
  intro j hj hji
  by_cases hij : j = i
  · subst hij; exact hk
  · have := h j hj (by omega); omega
/-- what is not too heavy -/
def HvL (p : ScD) : Prop := p.d.safe.length ≤ 2803 ∧ p.d.wait.length ≤ 700 ∧ p.l.length ≤ 700 ∧ ∀ j (h : j < p.l.length), p.l[j].ks.length ≤ 700
def HvQ (PP : Prop) (w : World) (e : Ending) (w' : World) : Prop := ∃ b, e = .returned (.bool b) ∧ Below w.heap.size w w' ∧ (b = false → PP)
def HvP (p : ScD) (w : World) (e : Ending) (w' : World) : Prop := HvQ (HvL p) w e w'
theorem wrap_is (n : Int) : IntKind.i64.wrap n = wrap64 n := by first | exact i64_is n | exact IntWalk.i64_left n | exact Go.IntWalk.i64_left n
set_option maxRecDepth 100000 in
set_option maxHeartbeats 4000000 in
theorem Heavy_any (p : ScD) (w : World) (h : ScAt w p) : Calls Try.prog 9 #[p.v] w (HvP p w) := by
  have HD := Lib.hid h.dk
  have HA := Lib.hid h.acts
  have hlm := h.acts.len
  unfold HvP HvL ScD.v at *
  obtain ⟨d, sa, sc, wa, wc, pn, l, la, lc⟩ := p
  simp only at *
  clear h
  obtain ⟨N0, hN0⟩ : ∃ n, d.safe.length / 4 + d.wait.length = n := ⟨_, rfl⟩
  have HWT := Lib.hid (fun wx (hx : DkAt wx d sa wa) => DiskWeight_any d sa sc wa wc wx hx)
  unfold WtP DkD.v at HWT
  rw [hN0] at HWT
  have HEND := Lib.hid (show ∀ M : Int, Hv (N0 + l.length) M → KsLe l l.length M → M ≤ 700 → d.safe.length ≤ 2803 ∧ d.wait.length ≤ 700 ∧ l.length ≤ 700 ∧ ∀ j (h : j < l.length), l[j].ks.length ≤ 700 from fun M h1 h2 h3 => by
    unfold Hv at h1
    exact ⟨by omega, by omega, by omega, fun j hj => by have := h2 j hj hj; omega⟩)
  generalize (d.safe.length ≤ 2803 ∧ d.wait.length ≤ 700 ∧ l.length ≤ 700 ∧ ∀ j (h : j < l.length), l[j].ks.length ≤ 700) = PP at *
  clear hN0
  generalize d.safe.length = nsa at *
  generalize d.wait.length = nwa at *
  obtain ⟨m, hm⟩ : ∃ m, l.length = m := ⟨_, rfl⟩
  have HM := Lib.hid hm
  have HLM := Lib.hid hlm
  rw [hm] at hlm HEND ⊢
  have hmi : (m : Int) ≤ 140737488351232 := by unfold BIG at hlm; omega
  have HX0 := Lib.hid (Hp.new w #[.slice sa nsa sc, .slice wa nwa wc, .int .i64 pn, .slice la m lc] 28)
  have HB0 := Lib.hid (below_al w (.cells #[.slice sa nsa sc, .slice wa nwa wc, .int .i64 pn, .slice la m lc] 28))
  clear hm hlm
  go_enter Try.func9, Try.ntmps9
  go_upto_region 1 with fail
  obtain ⟨bx, hbx⟩ : ∃ b, w.heap.size = b := ⟨_, rfl⟩
  rw [hbx] at HX0 ⊢
  generalize w.alloc (.cells #[.slice sa nsa sc, .slice wa nwa wc, .int .i64 pn, .slice la m lc] 28) = W0 at *
  have HSS := Lib.hid (show ∀ wx, Below W0.heap.size W0 wx → (wx.cell? ⟨bx, 0, none⟩ = some (.slice sa nsa sc) ∧ wx.cell? ⟨bx, 1, none⟩ = some (.slice wa nwa wc) ∧ wx.cell? ⟨bx, 3, none⟩ = some (.slice la m lc)) from fun wx hx => ⟨(HX0.out.step hx).cell 0 rfl, (HX0.out.step hx).cell 1 rfl, (HX0.out.step hx).cell 3 rfl⟩)
  go_region_held3 (fun wx => wx.cell? ⟨bx, 0, none⟩ = some (.slice sa nsa sc) ∧ wx.cell? ⟨bx, 1, none⟩ = some (.slice wa nwa wc) ∧ wx.cell? ⟨bx, 3, none⟩ = some (.slice la m lc)) (first | exact HSS.out _ (Below.refl _ _) | exact HSS.out _ (below_dr _) | exact HSS.out _ hb2 | exact HSS.out _ hb2.drew) (first
    | (go_at_call 25; refine (HWT.out _ (HD.out.below (by rw [← hbx] at *; first | exact HB0.out | exact HB0.out.drew))).mono ?_; rintro e w2 ⟨M0, rfl, hwt0, hb9⟩; have hb2 : Below W0.heap.size W0 w2 := (below_dr W0).trans hb9; clear hb9)
    | fail)
  have HST := Lib.hid (hv_start hwt0 (HM.out ▸ HLM.out))
  have HAW := Lib.hid (HA.out.below HB0.out)
  have HBE := Lib.hid (fun wx (hx : Below W0.heap.size W0 wx) => HB0.out.trans (hx.mono HB0.out.size))
  rename_i hheld
  obtain ⟨q0, q1, q2⟩ := hheld
  clear hwt0 HX0 HB0 HA HD hbx HLM HWT q0 q1 q2
  have HB2 := Lib.hid hb2
  clear hb2
  go_wp2_with fail
  go_loopw [3, 4] (fun s3 s4 wr => ∃ (k : Nat) (M : Int), s4 = .int .i64 k ∧ s3 = .int .i64 M ∧ k ≤ m ∧ Hv (N0 + m) M ∧ KsLe l k M ∧ Below W0.heap.size W0 wr) (fun _ s4 _ => m - (RowKit.intOf s4).toNat)
  case atStart => exact ⟨0, _, rfl, rfl, Nat.zero_le _, (by rw [wrap_is]; exact HST.out.1), fun j _ hj => absurd hj (Nat.not_lt_zero j), HB2.out⟩
  case round =>
    obtain ⟨k, M, rfl, rfl, hk, hwt, hks, hbr⟩ := hrel
    have HWT := Lib.hid hwt
    have HKS := Lib.hid hks
    have HBR := Lib.hid hbr
    clear hwt hks hbr HST HB2
    obtain ⟨q0, q1, q2⟩ := HSS.out _ HBR.out
    have hx : (k < m ∧ M < 1048576) ∨ (k < m ∧ ¬ M < 1048576) ∨ ¬ k < m := by
      by_cases h1 : k < m
      · by_cases h2 : M < 1048576
        · exact .inl ⟨h1, h2⟩
        · exact .inr (.inl ⟨h1, h2⟩)
      · exact .inr (.inr h1)
    rcases hx with ⟨h1, h2⟩ | ⟨h1, h2⟩ | h1
    · have hkl : k < l.length := by rw [HM.out]; exact h1
      obtain ⟨b, off, rfl, hbb, x0, x1, x2, x3⟩ := (HAW.out.below HBR.out).cells k hkl
      have HS := Lib.hid (hv_step HWT.out h2 (HAW.out.ins k hkl).size (HAW.out.ins k hkl).ks.len)
      have HKN := Lib.hid (fun M2 hM (hk2 : (l[k].ks.length : Int) ≤ M2) => HKS.out.next (M2 := M2) hM hkl hk2)
      have hsi : (l[k].s.size : Int) ≤ 140737488351232 := by have h9 := (HAW.out.ins k hkl).size; unfold BIG at h9; omega
      have hki : (l[k].ks.length : Int) ≤ 140737488351232 := by have h9 := (HAW.out.ins k hkl).ks.len; unfold BIG at h9; omega
      clear x0 x1
      generalize l[k].s = xs at *
      generalize hksl : l[k].ks.length = kl at *
      generalize l[k].ka = ka at *
      generalize l[k].kc = kc at *
      have h2d : decide (M < 1048576) = true := decide_eq_true h2
      go_upto_region 5 with fail
      go_region
      have he : wrap64 (wrap64 (M + (xs.size : Int) / 16) + (kl : Int)) = M + (xs.size : Int) / 16 + (kl : Int) := by rw [HS.out.2.2.2.2.1]; exact HS.out.2.2.2.2.2
      rw [he]
      clear he
      go_wp2_with fail
      go_roundw
      case rel => exact ⟨k + 1, _, by go_num, rfl, by omega, HS.out.1, HKN.out _ HS.out.2.1 HS.out.2.2.1, HBR.out.drew⟩
      case measure => simp [RowKit.intOf]; omega
    · have h2d : decide (M < 1048576) = false := decide_eq_false h2
      have h7 : decide (700 < M) = true := decide_eq_true (by omega)
      go_wp2_with fail
      go_ret
      exact ⟨_, rfl, HBE.out _ HBR.out, fun hc => by cases hc⟩
    · have hkm : k = m := by omega
      subst hkm
      by_cases h7 : 700 < M
      · have h7d : decide (700 < M) = true := decide_eq_true h7
        go_wp2_with fail
        go_ret
        exact ⟨_, rfl, HBE.out _ HBR.out, fun hc => by cases hc⟩
      · have h7d : decide (700 < M) = false := decide_eq_false h7
        have HPP := Lib.hid (HEND.out M HWT.out (by first | exact HKS.out | (rw [HM.out]; exact HKS.out)) (by omega))
        go_wp2_with fail
        go_ret
        exact ⟨_, rfl, HBE.out _ HBR.out, fun _ => HPP.out⟩
end Go.Proofs.Ytlmfieeemkahfaa
