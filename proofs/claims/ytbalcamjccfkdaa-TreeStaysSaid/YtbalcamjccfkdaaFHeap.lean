/- container/heap at the front: Push, Pop; hold, first -/
import Derived.Test.YtbalcamjccfkdaaFDown
namespace Go.Proofs.Ytbalcamjccfkdaa
open Go.RowKit Go.Lib

def HPushPost (base F : Nat) (v : Value) (L : List Nd) (w : World) (e : Ending) (w' : World) : Prop :=
  e = .returned (.tuple #[]) ∧ ∃ L', FrTo base F w v L' w' ∧ L'.Perm L ∧ HeapN L' L'.length
set_option maxRecDepth 100000 in
set_option maxHeartbeats 1000000 in
theorem hPush_any (base F : Nat) (v : Value) (L : List Nd) (n : Nd) (w : World) (h : Fr w base F v L) (hh : HeapN L L.length) (hl : L.length ≤ 1000) :
    Calls Try.prog 31 #[.iface 71 (.pointer (some ⟨F, 0, none⟩)), .iface 63 n.v] w (HPushPost base F v (L ++ [n]) w) := by
  have m1 := fun k => mPush k w F
  have HC := Lib.hid (fPush_any base F v L n w h hl)
  have HU := Lib.hid (HUp.start hh n)
  have HL := Lib.hid (show (L ++ [n]).length = L.length + 1 from by simp)
  clear h hh
  generalize n.v = nv at *
  generalize hL1 : L ++ [n] = L1 at *
  generalize hk : L.length = k at *
  clear hL1 hk
  go_enter Try.func31, Try.ntmps31
  go_wp2_with (first
    | (go_at_call 89; refine HC.out.mono ?_; rintro x1 w1 ⟨rfl, v1, hfr1, hk1, hn1⟩; obtain ⟨a1, cap1, rfl, hc1, _, hs1⟩ := hfr1.form; obtain ⟨g1, rfl⟩ := hs1 (by rw [HL.out]; omega); rw [HL.out] at hfr1 hn1; have HF1 := Lib.hid hfr1; have HK1 := Lib.hid hk1; have HN1 := Lib.hid hn1; have m2 := fun j => mLen j w1 F _ hfr1.cell; clear hfr1 hk1 hn1 hc1 hs1)
    | (go_at_call 22; refine (fLen_any _ (k + 1) cap1 w1).mono ?_; rintro x2 w2 ⟨rfl, hs2⟩; have HS2 := Lib.hid hs2; clear hs2)
    | (go_at_call 40; refine (hUp_any base F g1 cap1 (k + 1) L1 k w2 (HF1.out.same HS2.out) HL.out (by omega) HU.out (by omega)).mono ?_; rintro x3 w3 ⟨⟨u3, rfl, hu3⟩, L3, hfr3, hk3, hp3, hh3, _⟩; have HF3 := Lib.hid hfr3; have HK3 := Lib.hid hk3; have HP3 := Lib.hid hp3; have HH3 := Lib.hid hh3; clear hfr3 hk3 hp3 hh3))
  go_end0
  refine ⟨rfl, L3, ⟨_, HF3.out, (HK1.out.trans HN1.out ((HS2.out.kept _ _).then HK3.out)), HN1.out⟩, HP3.out, ?_⟩
  rw [HP3.out.length_eq, HL.out]
  exact HH3.out

theorem fPop_x (base F : Nat) (v : Value) (L : List Nd) (m : Nat) (x : Nd) (w : World) (h : Fr w base F v L) (hl : L.length = m + 1) (hx : L[m]! = x) :
    Calls Try.prog 88 #[.pointer (some ⟨F, 0, none⟩)] w (PopPost base F v x (L.take m) w) := by
  rw [← hx]
  exact fPop_any base F v L m w h hl
def HPopPost (base F : Nat) (v : Value) (L : List Nd) (w : World) (e : Ending) (w' : World) : Prop :=
  ∃ x L', e = .returned (.iface 63 (Nd.v x)) ∧ FrTo base F w v L' w' ∧ (x :: L').Perm L ∧ (∀ y ∈ L', y.op ≤ x.op) ∧ HeapN L' L'.length
set_option maxRecDepth 100000 in
set_option maxHeartbeats 1000000 in
theorem hPop_any (base F : Nat) (v : Value) (L : List Nd) (w : World) (h : Fr w base F v L) (hh : HeapN L L.length) (h0 : 0 < L.length) (hl : L.length ≤ 1000) :
    Calls Try.prog 32 #[.iface 71 (.pointer (some ⟨F, 0, none⟩))] w (HPopPost base F v L w) := by
  obtain ⟨a, cap, rfl, hc, _, hs⟩ := h.form
  obtain ⟨g, rfl⟩ := hs h0
  obtain ⟨n, hn⟩ : ∃ n, L.length = n + 1 := ⟨L.length - 1, by omega⟩
  rw [hn] at h
  have HN := Lib.hid hn
  have HF := Lib.hid h
  have HH := Lib.hid hh
  have m1 := fun k => mLen k w F _ h.cell
  have hn2 : n ≤ 1000 := by omega
  rw [hn]
  clear h hh hs hc h0 hl hn
  go_enter Try.func32, Try.ntmps32
  go_wp2_with (first
    | (go_at_call 22; refine (fLen_any _ (n + 1) cap w).mono ?_; rintro x1 w1 ⟨rfl, hs1⟩; have HS1 := Lib.hid hs1; have m2 := fun k => mSwap k w1 F _ (HF.out.same hs1).cell; clear hs1)
    | (go_at_call 87; refine (fSwap_any base g cap (n + 1) L 0 n w1 ((HF.out.same HS1.out).own2 HN.out) HN.out (by omega) (by omega)).mono ?_; rintro x2 w2 ⟨rfl, ho2, hg2⟩; have HF2 := Lib.hid ((HF.out.same HS1.out).swap (L' := swp L 0 n) (by rw [swp_length]; exact HN.out) ho2 hg2); have HK2 := Lib.hid ((HS1.out.kept F (some g)).then (kept_of_grown hg2)); clear ho2 hg2)
    | (go_at_call 41; refine (hDown_any base F g cap (n + 1) n (swp L 0 n) w2 HF2.out (by rw [swp_length]; exact HN.out) (by omega) (HDn.start HH.out HN.out) (by omega)).mono ?_; rintro x3 w3 ⟨⟨u3, rfl, hu3⟩, L3, hfr3, hk3, hp3, hh3, hq3⟩; have HF3 := Lib.hid hfr3; have HK3 := Lib.hid (HK2.out.then hk3); have hpp := pop_parts HH.out HN.out hp3 (hq3 n (Nat.le_refl _)) hh3; obtain ⟨x, hx⟩ : ∃ x, L3[n]! = x := ⟨_, rfl⟩; rw [hx] at hpp; have HP3 := Lib.hid hpp; have HX := Lib.hid hx; have HL3 := Lib.hid (show L3.length = n + 1 from by rw [hp3.length_eq, swp_length]; exact HN.out); have m4 := fun k => mPop k w3 F; clear hfr3 hk3 hp3 hh3 hq3 hpp hx)
    | (go_at_call 88; refine (fPop_x base F _ L3 n x w3 HF3.out HL3.out HX.out).mono ?_; rintro x4 w4 ⟨rfl, hto⟩; have HTO := Lib.hid hto; clear hto))
  go_ret
  exact ⟨_, _, rfl, FrTo.trans HK3.out (.inl rfl) HTO.out, HP3.out.1, HP3.out.2.1, HP3.out.2.2⟩
end Go.Proofs.Ytbalcamjccfkdaa
