/- container/heap at the front: up, down, Push, Pop -/
import Derived.Test.YtbalcamjccfkdaaFPush
import Derived.Test.YtbalcamjccfkdaaFMath
namespace Go.Proofs.Ytbalcamjccfkdaa
open Go.RowKit Go.Lib

theorem Fr.swap {w w' : World} {base F g cap n : Nat} {L L' : List Nd} (h : Fr w base F (.slice (some ⟨g, 0, none⟩) n cap) L) (hl : L'.length = n) (ho : w'.ownsRow base 63 4 (.slice (some ⟨g, 0, none⟩) n cap) n (ncs L')) (hg : w.grownBy w' (some g)) : Fr w' base F (.slice (some ⟨g, 0, none⟩) n cap) L' := by
  refine ⟨?_, by rw [hl]; exact ho, h.ge, h.ne⟩
  rw [hg.block F h.lt (fun e => h.ne (by rw [e]; rfl))]
  exact h.box
theorem kept_of_grown {F : Nat} {r : Option Nat} {w w' : World} (hg : w.grownBy w' r) : Kept F r w w' := ⟨hg.os, hg.tape, hg.output, hg.size, fun k hk _ h => hg.block k hk h⟩
theorem Kept.then {F : Nat} {r : Option Nat} {w w1 w2 : World} (h : Kept F r w w1) (h2 : Kept F r w1 w2) : Kept F r w w2 := h.trans (.inl rfl) h2

theorem Fr.own2 {w : World} {base F g cap n : Nat} {L : List Nd} (h : Fr w base F (.slice (some ⟨g, 0, none⟩) n cap) L) (hl : L.length = n) : w.ownsRow base 63 4 (.slice (some ⟨g, 0, none⟩) n cap) n (ncs L) := by
  have := h.own
  rw [hl] at this
  exact this
/-- the same front, its row in another order, a heap of n -/
def UpPost (base F n : Nat) (v : Value) (L : List Nd) (w : World) (r : Value) (e : Ending) (w' : World) : Prop :=
  (∃ u, e = .returned u ∧ (r = u ∨ r = undef)) ∧ ∃ L', Fr w' base F v L' ∧ Kept F v.ownBlock w w' ∧ L'.Perm L ∧ HeapN L' n ∧ ∀ k, n ≤ k → L'[k]! = L[k]!
set_option maxRecDepth 100000 in
set_option maxHeartbeats 1000000 in
theorem hUp_any (base F g cap n : Nat) (L : List Nd) (j : Nat) (w : World) (h : Fr w base F (.slice (some ⟨g, 0, none⟩) n cap) L) (hl : L.length = n) (hj : j < n) (hu : HUp L j) (hn : n ≤ 1001) :
    Calls Try.prog 40 #[.iface 71 (.pointer (some ⟨F, 0, none⟩)), .int .i64 j] w (UpPost base F n (.slice (some ⟨g, 0, none⟩) n cap) L w (.tuple #[])) := by
  have HL := Lib.hid hl
  have HH := Lib.hid h
  have HU := Lib.hid hu
  clear h hl hu
  go_enter Try.func40, Try.ntmps40
  go_wp2_with fail
  go_loopw [1] (fun s1 wr => ∃ (j : Nat) (L' : List Nd), s1 = .int .i64 j ∧ j < n ∧ Fr wr base F (.slice (some ⟨g, 0, none⟩) n cap) L' ∧ Kept F (some g) w wr ∧ L'.Perm L ∧ HUp L' j ∧ L'.length = n) (fun s1 _ => (RowKit.intOf s1).toNat)
  case atStart => exact ⟨j, L, rfl, hj, HH.out, Kept.refl _ _ _, List.Perm.refl _, HU.out, HL.out⟩
  case round =>
    clear HL HH HU hj
    obtain ⟨j, L', rfl, hj, hfr, hk, hp, hu, hl⟩ := hrel
    have HFR := Lib.hid hfr
    have HK := Lib.hid hk
    have HP := Lib.hid hp
    have HU := Lib.hid hu
    have HL := Lib.hid hl
    by_cases h0 : j = 0
    · subst h0
      clear hfr hk hp hu hl
      go_wp2
      go_end0
      exact ⟨⟨_, rfl, .inl rfl⟩, L', HFR.out, HK.out, HP.out, by have h1 := HU.out.done0; rw [HL.out] at h1; exact h1, fun k hk => by rw [getElem!_neg _ _ (by have := HL.out; omega), getElem!_neg _ _ (by have := HL.out; have := HP.out.length_eq; omega)]⟩
    · have hi : (j - 1) / 2 < n := by omega
      have e1 : ((j : Int) - 1) / 2 = (((j - 1) / 2 : Nat) : Int) := by omega
      have hne : ¬ ((((j - 1) / 2 : Nat) : Int) = (j : Int)) := by omega
      have m1 := fun k => mLess k wr F _ hfr.cell
      have hc := fLess_any base g cap n L' j ((j - 1) / 2) wr (hfr.own2 hl) hl hj hi
      have HI2 := Lib.hid (show ((j - 1) / 2 < j ∧ 0 < j) from by omega)
      clear hfr hk hp hu hl
      by_cases hgt : L'[(j - 1) / 2]!.op < L'[j]!.op
      · rw [decide_eq_true hgt] at hc
        have HST := Lib.hid (HU.out.step (by rw [HL.out]; exact hj) (by omega) rfl hgt)
        have HC := Lib.hid hc
        clear hc hgt
        generalize (j - 1) / 2 = i at *
        go_wp2_with (first
          | (go_at_call 86; refine HC.out.mono ?_; rintro x1 w1 ⟨rfl, hs1⟩; have HS1 := Lib.hid hs1; have m2 := fun k => mSwap k w1 F _ (HFR.out.same hs1).cell; clear hs1)
          | (go_at_call 87; refine (fSwap_any base g cap n L' i j w1 ((HFR.out.same HS1.out).own2 HL.out) HL.out hi hj).mono ?_; rintro x2 w2 ⟨rfl, ho2, hg2⟩; have HO2 := Lib.hid ho2; have HG2 := Lib.hid hg2; clear ho2 hg2))
        go_roundw
        case rel =>
          have hl2 : (swp L' i j).length = n := by rw [swp_length]; exact HL.out
          exact ⟨i, swp L' i j, rfl, hi, (HFR.out.same HS1.out).swap hl2 HO2.out HG2.out, (HK.out.then (HS1.out.kept _ _)).then (kept_of_grown HG2.out), (swp_perm L' i j (by rw [HL.out]; exact hi) (by rw [HL.out]; exact hj)).trans HP.out, HST.out, hl2⟩
        case measure => have := HI2.out; simp [RowKit.intOf]; omega
      · rw [decide_eq_false hgt] at hc
        have HD := Lib.hid (HU.out.done (by omega))
        have HC := Lib.hid hc
        clear hc hgt
        generalize (j - 1) / 2 = i at *
        go_wp2_with (first | (go_at_call 86; refine HC.out.mono ?_; rintro x1 w1 ⟨rfl, hs1⟩; have HS1 := Lib.hid hs1; clear hs1))
        go_end0
        exact ⟨⟨_, rfl, .inl rfl⟩, L', HFR.out.same HS1.out, HK.out.then (HS1.out.kept _ _), HP.out, by have h1 := HD.out; rw [HL.out] at h1; exact h1, fun k hk => by rw [getElem!_neg _ _ (by have := HL.out; omega), getElem!_neg _ _ (by have := HL.out; have := HP.out.length_eq; omega)]⟩
end Go.Proofs.Ytbalcamjccfkdaa
