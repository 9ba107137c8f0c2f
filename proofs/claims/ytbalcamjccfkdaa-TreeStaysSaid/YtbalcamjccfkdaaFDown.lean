/- container/heap at the front: down -/
import Derived.Test.YtbalcamjccfkdaaFUp
import Derived.Sort.AtCall
namespace Go.Proofs.Ytbalcamjccfkdaa
open Go.RowKit Go.Lib

theorem Same.trans {w w1 w2 : World} (h : Same w w1) (h2 : Same w1 w2) : Same w w2 := ⟨h2.os.trans h.os, h2.tape.trans h.tape, h2.output.trans h.output, h2.heap.trans h.heap⟩
set_option maxRecDepth 100000 in
set_option maxHeartbeats 4000000 in
theorem hDown_any (base F g cap m n : Nat) (L : List Nd) (w : World) (h : Fr w base F (.slice (some ⟨g, 0, none⟩) m cap) L) (hl : L.length = m) (hnm : n ≤ m) (hu : HDn L n 0) (hm : m ≤ 1001) :
    Calls Try.prog 41 #[.iface 71 (.pointer (some ⟨F, 0, none⟩)), .int .i64 0, .int .i64 n] w (UpPost base F n (.slice (some ⟨g, 0, none⟩) m cap) L w undef) := by
  have HL := Lib.hid hl
  have HH := Lib.hid h
  have HU := Lib.hid hu
  clear h hl hu
  go_enter Try.func41, Try.ntmps41
  go_wp2_with fail
  go_loopw [7] (fun s7 wr => ∃ (i : Nat) (L' : List Nd), s7 = .int .i64 i ∧ (i < n ∨ i = 0) ∧ Fr wr base F (.slice (some ⟨g, 0, none⟩) m cap) L' ∧ Kept F (some g) w wr ∧ L'.Perm L ∧ HDn L' n i ∧ L'.length = m ∧ ∀ k, n ≤ k → L'[k]! = L[k]!) (fun s7 _ => n - (RowKit.intOf s7).toNat)
  case atStart => exact ⟨0, L, rfl, .inr rfl, HH.out, Kept.refl _ _ _, List.Perm.refl _, HU.out, HL.out, fun _ _ => rfl⟩
  case round =>
    clear HL HH HU
    obtain ⟨i, L', rfl, hi, hfr, hk, hp, hu, hl, hq⟩ := hrel
    have HFR := Lib.hid hfr
    have HK := Lib.hid hk
    have HP := Lib.hid hp
    have HU := Lib.hid hu
    have HL := Lib.hid hl
    have HQ := Lib.hid hq
    clear hq
    have hi2 : i ≤ 1001 := by omega
    by_cases h1 : n ≤ 2 * i + 1
    · have HD := Lib.hid (HU.out.leaf h1)
      clear hfr hk hp hu hl
      go_wp2
      go_ret
      exact ⟨⟨_, rfl, .inr rfl⟩, L', HFR.out, HK.out, HP.out, HD.out, HQ.out⟩
    · have hb : (2 * (i : Int) + 1 < (n : Int)) := by omega
      have hb2 : ¬ ((2 * (i : Int) + 1) < 0) := by omega
      have m1 := fun k => mLess k wr F _ hfr.cell
      clear hfr hk hp hu hl
      by_cases h2 : n ≤ 2 * i + 2
      · have hb3 : ¬ (2 * (i : Int) + 1 + 1 < (n : Int)) := by omega
        have HJ := Lib.hid (show 2 * i + 1 < n ∧ 0 < 2 * i + 1 ∧ (2 * i + 1 - 1) / 2 = i ∧ i < 2 * i + 1 ∧ i < m ∧ 2 * i + 1 < m from by omega)
        have hji : ((2 * i + 1 : Nat) : Int) = 2 * (i : Int) + 1 := by omega
        have HMAX := Lib.hid (max_one (l := L') (n := n) h2)
        have hcl := fun wx hsx => fLess_any base g cap m L' (2 * i + 1) i wx ((HFR.out.same (w' := wx) hsx).own2 HL.out) HL.out (by omega) (by omega)
        by_cases hgt : L'[i]!.op < L'[2 * i + 1]!.op
        · rw [decide_eq_true hgt] at hcl
          have HST := Lib.hid (HU.out.step (by rw [HL.out]; exact hnm) HJ.out.1 HJ.out.2.1 HJ.out.2.2.1 hgt HMAX.out)
          have hcs := fun wx hsx => fSwap_any base g cap m L' i (2 * i + 1) wx ((HFR.out.same (w' := wx) hsx).own2 HL.out) HL.out (by omega) (by omega)
          rw [hji] at hcl hcs
          have HCL := Lib.hid hcl
          have HCS := Lib.hid hcs
          clear hcl hcs hgt
          go_wp2_with (first
            | (go_at_call_has 86 (Value.int IntKind.i64 (i : Int)); refine (HCL.out wr (Same.refl wr)).mono ?_; rintro x2 w2 ⟨rfl, hs2⟩; have HS2 := Lib.hid (Same.trans (Same.refl wr) hs2); have m2 := fun k => mSwap k w2 F _ (HFR.out.same HS2.out).cell; clear hs2)
            | (go_at_call 87; refine (HCS.out w2 HS2.out).mono ?_; rintro x3 w3 ⟨rfl, ho3, hg3⟩; have HO3 := Lib.hid ho3; have HG3 := Lib.hid hg3; clear ho3 hg3))
          go_roundw
          case rel =>
            have hl2 : (swp L' i (2 * i + 1)).length = m := by rw [swp_length]; exact HL.out
            exact ⟨2 * i + 1, swp L' i (2 * i + 1), by rw [hji], .inl HJ.out.1, (HFR.out.same HS2.out).swap hl2 HO3.out HG3.out, (HK.out.then (HS2.out.kept _ _)).then (kept_of_grown HG3.out), (swp_perm L' i (2 * i + 1) (by rw [HL.out]; exact HJ.out.2.2.2.2.1) (by rw [HL.out]; exact HJ.out.2.2.2.2.2)).trans HP.out, HST.out, hl2, fun k hk => by rw [swp_get L' i (2 * i + 1) k (by rw [HL.out]; exact HJ.out.2.2.2.2.1) (by rw [HL.out]; exact HJ.out.2.2.2.2.2), if_neg (by have := HJ.out.1; omega), if_neg (by have := HJ.out.1; have := HJ.out.2.2.2.1; omega)]; exact HQ.out k hk⟩
          case measure => have := HJ.out; simp [RowKit.intOf]; omega
        · rw [decide_eq_false hgt] at hcl
          have HD := Lib.hid (HU.out.done (Int.not_lt.1 hgt) HMAX.out)
          rw [hji] at hcl
          have HCL := Lib.hid hcl
          clear hcl hgt
          go_wp2_with (first
            | (go_at_call_has 86 (Value.int IntKind.i64 (i : Int)); refine (HCL.out wr (Same.refl wr)).mono ?_; rintro x2 w2 ⟨rfl, hs2⟩; have HS2 := Lib.hid (Same.trans (Same.refl wr) hs2); clear hs2)
            | fail)
          go_ret
          exact ⟨⟨_, rfl, .inr rfl⟩, L', HFR.out.same HS2.out, HK.out.then (HS2.out.kept _ _), HP.out, HD.out, HQ.out⟩
      · have hb3 : (2 * (i : Int) + 1 + 1 < (n : Int)) := by omega
        have hc0 := fLess_any base g cap m L' (2 * i + 2) (2 * i + 1) wr (HFR.out.own2 HL.out) HL.out (by omega) (by omega)
        rw [show ((2 * i + 2 : Nat) : Int) = 2 * (i : Int) + 1 + 1 from by omega, show ((2 * i + 1 : Nat) : Int) = 2 * (i : Int) + 1 from by omega] at hc0
        by_cases h3 : L'[2 * i + 1]!.op < L'[2 * i + 2]!.op
        · rw [decide_eq_true h3] at hc0
          have HC0 := Lib.hid hc0
          have HB3 := Lib.hid h3
          clear hc0 h3
          have HJ := Lib.hid (show 2 * i + 2 < n ∧ 0 < 2 * i + 2 ∧ (2 * i + 2 - 1) / 2 = i ∧ i < 2 * i + 2 ∧ i < m ∧ 2 * i + 2 < m from by omega)
          have hji : ((2 * i + 2 : Nat) : Int) = 2 * (i : Int) + 1 + 1 := by omega
          have HMAX := Lib.hid (max_right (n := n) HB3.out)
          have hcl := fun wx hsx => fLess_any base g cap m L' (2 * i + 2) i wx ((HFR.out.same (w' := wx) hsx).own2 HL.out) HL.out (by omega) (by omega)
          by_cases hgt : L'[i]!.op < L'[2 * i + 2]!.op
          · rw [decide_eq_true hgt] at hcl
            have HST := Lib.hid (HU.out.step (by rw [HL.out]; exact hnm) HJ.out.1 HJ.out.2.1 HJ.out.2.2.1 hgt HMAX.out)
            have hcs := fun wx hsx => fSwap_any base g cap m L' i (2 * i + 2) wx ((HFR.out.same (w' := wx) hsx).own2 HL.out) HL.out (by omega) (by omega)
            rw [hji] at hcl hcs
            have HCL := Lib.hid hcl
            have HCS := Lib.hid hcs
            clear hcl hcs hgt
            go_wp2_with (first
              | (go_at_call_has 86 (Value.int IntKind.i64 (i : Int)); refine (HCL.out w1 HS1.out).mono ?_; rintro x2 w2 ⟨rfl, hs2⟩; have HS2 := Lib.hid (Same.trans HS1.out hs2); have m2 := fun k => mSwap k w2 F _ (HFR.out.same HS2.out).cell; clear hs2)
              | (go_at_call 86; refine HC0.out.mono ?_; rintro x1 w1 ⟨rfl, hs1⟩; have HS1 := Lib.hid hs1; have m3 := fun k => mLess k w1 F _ (HFR.out.same HS1.out).cell; clear hs1)
              | (go_at_call 87; refine (HCS.out w2 HS2.out).mono ?_; rintro x3 w3 ⟨rfl, ho3, hg3⟩; have HO3 := Lib.hid ho3; have HG3 := Lib.hid hg3; clear ho3 hg3))
            go_roundw
            case rel =>
              have hl2 : (swp L' i (2 * i + 2)).length = m := by rw [swp_length]; exact HL.out
              exact ⟨2 * i + 2, swp L' i (2 * i + 2), by rw [hji], .inl HJ.out.1, (HFR.out.same HS2.out).swap hl2 HO3.out HG3.out, (HK.out.then (HS2.out.kept _ _)).then (kept_of_grown HG3.out), (swp_perm L' i (2 * i + 2) (by rw [HL.out]; exact HJ.out.2.2.2.2.1) (by rw [HL.out]; exact HJ.out.2.2.2.2.2)).trans HP.out, HST.out, hl2, fun k hk => by rw [swp_get L' i (2 * i + 2) k (by rw [HL.out]; exact HJ.out.2.2.2.2.1) (by rw [HL.out]; exact HJ.out.2.2.2.2.2), if_neg (by have := HJ.out.1; omega), if_neg (by have := HJ.out.1; have := HJ.out.2.2.2.1; omega)]; exact HQ.out k hk⟩
            case measure => have := HJ.out; simp [RowKit.intOf]; omega
          · rw [decide_eq_false hgt] at hcl
            have HD := Lib.hid (HU.out.done (Int.not_lt.1 hgt) HMAX.out)
            rw [hji] at hcl
            have HCL := Lib.hid hcl
            clear hcl hgt
            go_wp2_with (first
              | (go_at_call_has 86 (Value.int IntKind.i64 (i : Int)); refine (HCL.out w1 HS1.out).mono ?_; rintro x2 w2 ⟨rfl, hs2⟩; have HS2 := Lib.hid (Same.trans HS1.out hs2); clear hs2)
              | (go_at_call 86; refine HC0.out.mono ?_; rintro x1 w1 ⟨rfl, hs1⟩; have HS1 := Lib.hid hs1; have m3 := fun k => mLess k w1 F _ (HFR.out.same HS1.out).cell; clear hs1)
              | fail)
            go_ret
            exact ⟨⟨_, rfl, .inr rfl⟩, L', HFR.out.same HS2.out, HK.out.then (HS2.out.kept _ _), HP.out, HD.out, HQ.out⟩
        · rw [decide_eq_false h3] at hc0
          have HC0 := Lib.hid hc0
          have HB3 := Lib.hid (Int.not_lt.1 h3)
          clear hc0 h3
          have HJ := Lib.hid (show 2 * i + 1 < n ∧ 0 < 2 * i + 1 ∧ (2 * i + 1 - 1) / 2 = i ∧ i < 2 * i + 1 ∧ i < m ∧ 2 * i + 1 < m from by omega)
          have hji : ((2 * i + 1 : Nat) : Int) = 2 * (i : Int) + 1 := by omega
          have HMAX := Lib.hid (max_left (n := n) HB3.out)
          have hcl := fun wx hsx => fLess_any base g cap m L' (2 * i + 1) i wx ((HFR.out.same (w' := wx) hsx).own2 HL.out) HL.out (by omega) (by omega)
          by_cases hgt : L'[i]!.op < L'[2 * i + 1]!.op
          · rw [decide_eq_true hgt] at hcl
            have HST := Lib.hid (HU.out.step (by rw [HL.out]; exact hnm) HJ.out.1 HJ.out.2.1 HJ.out.2.2.1 hgt HMAX.out)
            have hcs := fun wx hsx => fSwap_any base g cap m L' i (2 * i + 1) wx ((HFR.out.same (w' := wx) hsx).own2 HL.out) HL.out (by omega) (by omega)
            rw [hji] at hcl hcs
            have HCL := Lib.hid hcl
            have HCS := Lib.hid hcs
            clear hcl hcs hgt
            go_wp2_with (first
              | (go_at_call_has 86 (Value.int IntKind.i64 (i : Int)); refine (HCL.out w1 HS1.out).mono ?_; rintro x2 w2 ⟨rfl, hs2⟩; have HS2 := Lib.hid (Same.trans HS1.out hs2); have m2 := fun k => mSwap k w2 F _ (HFR.out.same HS2.out).cell; clear hs2)
              | (go_at_call 86; refine HC0.out.mono ?_; rintro x1 w1 ⟨rfl, hs1⟩; have HS1 := Lib.hid hs1; have m3 := fun k => mLess k w1 F _ (HFR.out.same HS1.out).cell; clear hs1)
              | (go_at_call 87; refine (HCS.out w2 HS2.out).mono ?_; rintro x3 w3 ⟨rfl, ho3, hg3⟩; have HO3 := Lib.hid ho3; have HG3 := Lib.hid hg3; clear ho3 hg3))
            go_roundw
            case rel =>
              have hl2 : (swp L' i (2 * i + 1)).length = m := by rw [swp_length]; exact HL.out
              exact ⟨2 * i + 1, swp L' i (2 * i + 1), by rw [hji], .inl HJ.out.1, (HFR.out.same HS2.out).swap hl2 HO3.out HG3.out, (HK.out.then (HS2.out.kept _ _)).then (kept_of_grown HG3.out), (swp_perm L' i (2 * i + 1) (by rw [HL.out]; exact HJ.out.2.2.2.2.1) (by rw [HL.out]; exact HJ.out.2.2.2.2.2)).trans HP.out, HST.out, hl2, fun k hk => by rw [swp_get L' i (2 * i + 1) k (by rw [HL.out]; exact HJ.out.2.2.2.2.1) (by rw [HL.out]; exact HJ.out.2.2.2.2.2), if_neg (by have := HJ.out.1; omega), if_neg (by have := HJ.out.1; have := HJ.out.2.2.2.1; omega)]; exact HQ.out k hk⟩
            case measure => have := HJ.out; simp [RowKit.intOf]; omega
          · rw [decide_eq_false hgt] at hcl
            have HD := Lib.hid (HU.out.done (Int.not_lt.1 hgt) HMAX.out)
            rw [hji] at hcl
            have HCL := Lib.hid hcl
            clear hcl hgt
            go_wp2_with (first
              | (go_at_call_has 86 (Value.int IntKind.i64 (i : Int)); refine (HCL.out w1 HS1.out).mono ?_; rintro x2 w2 ⟨rfl, hs2⟩; have HS2 := Lib.hid (Same.trans HS1.out hs2); clear hs2)
              | (go_at_call 86; refine HC0.out.mono ?_; rintro x1 w1 ⟨rfl, hs1⟩; have HS1 := Lib.hid hs1; have m3 := fun k => mLess k w1 F _ (HFR.out.same HS1.out).cell; clear hs1)
              | fail)
            go_ret
            exact ⟨⟨_, rfl, .inr rfl⟩, L', HFR.out.same HS2.out, HK.out.then (HS2.out.kept _ _), HP.out, HD.out, HQ.out⟩
end Go.Proofs.Ytbalcamjccfkdaa
