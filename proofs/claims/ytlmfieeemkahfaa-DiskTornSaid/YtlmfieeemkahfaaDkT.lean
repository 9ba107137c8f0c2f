/- the page's Sync -/
import Derived.Test.YtlmfieeemkahfaaDkS
namespace Go.Proofs.Ytlmfieeemkahfaa
open Go.RowKit Go.Lib

theorem fe_cases {fe : Nat} (h : fe < 3) : fe = 0 ∨ fe = 1 ∨ fe = 2 := by omega
theorem nat_of {q : Int} (h : 0 < q) : ∃ qn : Nat, q = qn := ⟨q.toNat, by omega⟩
theorem tmod_three (qn : Nat) : ((qn : Int)).tmod 3 = ((qn % 3 : Nat) : Int) := by
  rw [Int.tmod_eq_emod_of_nonneg (by omega)]
  rfl
theorem fateN_nat (qn : Nat) : fateN (qn : Int) = qn % 3 := by unfold fateN; rw [if_neg (by omega)]; rfl
theorem wrap_three {fe : Nat} (h : fe < 3) : wrap64 (fe : Int) = (fe : Int) := by unfold wrap64; omega
theorem fateN_neg {q : Int} (h : ¬ 0 < q) : fateN q = 0 := by
  unfold fateN
  split
  · rfl
  · rw [show q.toNat = 0 from by omega]

set_option maxRecDepth 100000 in
set_option maxHeartbeats 8000000 in
theorem rSync_any (d : DkD) (sa : Option Addr) (sc : Nat) (wa : Option Addr) (wc : Nat) (w : World) (h : DkAt w d sa wa) (hmay : May d) :
    Calls Try.prog 33 #[d.v sa sc wa wc] w (DkP (setD d oneF) w) := by
  have HH := Lib.hid h
  have HMY := Lib.hid hmay
  have hlm2 := h.wait.len
  clear h
  unfold setD
  obtain ⟨safe, wait⟩ := d
  unfold DkD.v at *
  simp only at *
  obtain ⟨m, hm⟩ : ∃ m, safe.length = m := ⟨_, rfl⟩
  obtain ⟨m2, hm2⟩ : ∃ m, wait.length = m := ⟨_, rfl⟩
  rw [hm]
  rw [hm2] at hlm2 ⊢
  have HM := Lib.hid hm
  have HM2 := Lib.hid hm2
  unfold BIG at hlm2
  have hm400 : m2 ≤ 400 := by have := hmay.few; rw [show (DkD.mk safe wait).wait.length = m2 from hm2] at this; exact this
  have h1m : 1 ≤ m := by have := hmay.lo; rw [show (DkD.mk safe wait).safe.length = m from hm] at this; exact this
  have hm4 : m ≤ 400 := by have := hmay.hi; rw [show (DkD.mk safe wait).safe.length = m from hm] at this; exact this
  have HCP := Lib.hid (fun wx (hb : Below w.heap.size w wx) => CopyStrings_any sa sc safe wx (HH.out.safe.below hb) (by rw [HM.out]; omega))
  rw [hm] at HCP
  clear hm hm2 hmay
  obtain ⟨hA, hR, hB, hz⟩ := two w (.slice sa m sc) (.slice wa m2 wc) (.slice none 0 0) (.slice none 0 0) 25 25
  have HA1 := Lib.hid hA
  have HR1 := Lib.hid hR
  have HB1 := Lib.hid hB
  clear hA hR hB hz
  go_enter Try.func33, Try.ntmps33
  go_upto_region 1 with fail
  obtain ⟨bx, hbx⟩ : ∃ b, w.heap.size = b := ⟨_, rfl⟩
  rw [hbx] at HA1 HR1
  generalize (w.alloc (.cells #[.slice sa m sc, .slice wa m2 wc] 25)).alloc (.cells #[.slice none 0 0, .slice none 0 0] 25) = w1 at *
  have q0 := HA1.out.cell 0 rfl
  have q1 := HA1.out.cell 1 rfl
  go_upto_region 2 with (first
    | (go_at_call 31; refine (HCP.out _ HB1.out).mono ?_; rintro e w8 ⟨v8, rfl, how8, hb8⟩; obtain ⟨a8, c8, hv8, _, _, hg8⟩ := how8.at_; rw [HM.out] at hv8 hg8; subst hv8; obtain ⟨g8, rfl, hg9⟩ := hg8.resolve_left (by omega); have HS8 := Lib.hid how8; have HA8 := Lib.hid (HA1.out.step hb8); have HR8 := Lib.hid (HR1.out.step hb8); have HB8 := Lib.hid (HB1.out.trans (hb8.mono HB1.out.size)); have HZ8 := Lib.hid (show bx + 1 < w1.heap.size from HR1.out.lt); have HG9 := Lib.hid hg9; have HGL := Lib.hid (show g8 < w8.heap.size from World.block_lt_of_cell? w8 _ (own_cell (j := 0) (by rw [HM.out]; exact how8) (by rw [HM.out]; omega))); clear q0 q1; clear how8 hb8 hg8 hg9)
    | fail)
  have HGX := Lib.hid (show w.heap.size ≤ g8 from Nat.le_trans HB1.out.size HG9.out)
  have hb9 := below_al w8 (.cells #[.slice (some ⟨g8, 0, none⟩) m c8, .slice none 0 0] 25)
  have HX9 := Lib.hid (Hp.new w8 #[.slice (some ⟨g8, 0, none⟩) m c8, .slice none 0 0] 25)
  have HS9 := Lib.hid (HS8.out.below hb9)
  have HA9 := Lib.hid (HA8.out.step hb9)
  have HR9 := Lib.hid (HR8.out.step hb9)
  have HB9 := Lib.hid (HB8.out.trans (hb9.mono HB8.out.size))
  obtain ⟨by_, hby⟩ : ∃ b, w8.heap.size = b := ⟨_, rfl⟩
  have HGN := Lib.hid (show g8 ≠ bx ∧ g8 ≠ bx + 1 ∧ by_ ≠ g8 ∧ w.heap.size ≤ by_ from by have h8 := HZ8.out; have h9 := HG9.out; have h7 := HGL.out; have h6 := HB8.out.size; exact ⟨by omega, by omega, by omega, by omega⟩)
  rw [hby] at HX9 ⊢
  generalize w8.alloc (.cells #[.slice (some ⟨g8, 0, none⟩) m c8, .slice none 0 0] 25) = w9 at *
  clear HA1 HR1 HS8 HA8 HR8 HB8 hb9 hby HCP
  go_wp2_with fail
  go_loopw [4] (fun s4 wr => ∃ k : Nat, s4 = .int .i64 k ∧ k ≤ m2 ∧ OwnS w1.heap.size wr (.slice (some ⟨g8, 0, none⟩) m c8) (stl safe wait oneF k) ∧ Hp 25 wr bx #[.slice sa m sc, .slice wa m2 wc] ∧ Hp 25 wr (bx + 1) #[.slice none 0 0, .slice none 0 0] ∧ Hp 25 wr by_ #[.slice (some ⟨g8, 0, none⟩) m c8, .slice none 0 0] ∧ Below w.heap.size w wr) (fun s4 _ => m2 - (RowKit.intOf s4).toNat)
  case atStart => exact ⟨0, rfl, Nat.zero_le _, HS9.out, HA9.out, HR9.out, HX9.out, HB9.out⟩
  case round =>
    obtain ⟨k, rfl, hk, hos, hha, hhr, hhx, hbr⟩ := hrel
    have HOS := Lib.hid hos
    have HHA := Lib.hid hha
    have HHR := Lib.hid hhr
    have HHX := Lib.hid hhx
    have HBR := Lib.hid hbr
    clear hos hha hhr hhx hbr HS9 HA9 HR9 HX9 HB9
    have q1 := HHA.out.cell 1 rfl
    have x9 := HHX.out.cell 0 rfl
    by_cases hlt : k < m2
    · have hkl : k < wait.length := by rw [HM2.out]; exact hlt
      obtain ⟨b, off, rfl, hbb, x0, x1⟩ := (HH.out.wait.below HBR.out).cell k hkl
      have hmem : wait[k] ∈ wait := List.getElem_mem hkl
      have hat := HMY.out.at_ _ hmem
      have htx := HMY.out.text _ hmem
      have HST := Lib.hid (stl_succ (safe := safe) (f := oneF) hkl)
      have hlen : (stl safe wait oneF k).length = m := by rw [stl_len]; exact HM.out
      have hsz := stl_sz HMY.out oneF k
      generalize wait[k] = x at *
      obtain ⟨xp, xt⟩ := x
      simp only at x0 x1 hat htx HST
      obtain ⟨p, rfl⟩ : ∃ p : Nat, xp = p := ⟨xp.toNat, by omega⟩
      have hpm : p < m := by have h3 : ((DkD.mk safe wait).safe.length : Int) = (safe.length : Int) := rfl; have h4 := HM.out; omega
      unfold st1 at HST
      generalize stl safe wait oneF k = SS at *
      have hpl : p < SS.length := by rw [hlen]; exact hpm
      have HGE : SS[((p : Nat) : Int).toNat]?.getD ⟨#[]⟩ = SS[p] := by show SS[p]?.getD _ = _; rw [List.getElem?_eq_getElem hpl]; rfl
      rw [HGE] at HST
      have hold := hsz _ (List.getElem_mem hpl)
      have hcell : wr.cell? ⟨g8, p, none⟩ = some (.string SS[p]) := own_cell (by rw [hlen]; exact HOS.out) hpl
      have hfr : wr.frozen? ⟨g8, p, none⟩ = false := own_fr HOS.out hlen p
      have hg8lt : g8 < wr.heap.size := World.block_lt_of_cell? wr _ hcell
      generalize SS[p] = old at *
      have HTX := Lib.hid htx
      have HOLD := Lib.hid hold
      have HNX := Lib.hid (fun (wz : World) (hz : Below wr.heap.size wr wz) (nw : ByteArray) (hnw : nw.size = 32) (hst : stl safe wait oneF (k + 1) = SS.set p nw) (wx : World) (hx : wx = wz.setCell ⟨g8, p, none⟩ (.string nw) ∨ wx = (wz.setCell ⟨g8, p, none⟩ (.string nw)).drew ∨ ∃ o, wx = (wz.setCell ⟨g8, p, none⟩ (.string nw)).alloc o) =>
        (show OwnS w1.heap.size wx (.slice (some ⟨g8, 0, none⟩) m c8) (stl safe wait oneF (k + 1)) ∧ Hp 25 wx bx #[.slice sa m sc, .slice (some ⟨b, off, none⟩) m2 wc] ∧ Hp 25 wx (bx + 1) #[.slice none 0 0, .slice none 0 0] ∧ Hp 25 wx by_ #[.slice (some ⟨g8, 0, none⟩) m c8, .slice none 0 0] ∧ Below w.heap.size w wx from by
          rw [hst]
          have h1 := own_store (HOS.out.below hz) hlen p (by rw [hnw]; decide : nw.size ≤ BIG)
          have h2 := (HHA.out.step hz).far (c := p) HGN.out.1.symm (.string nw)
          have h3 := (HHR.out.step hz).far (c := p) HGN.out.2.1.symm (.string nw)
          have h5 := (HHX.out.step hz).far (c := p) HGN.out.2.2.1 (.string nw)
          have h4 := (HBR.out.trans (hz.mono HBR.out.size)).setCell (p := ⟨g8, p, none⟩) HGX.out (.string nw)
          rcases hx with rfl | rfl | ⟨o, rfl⟩
          · exact ⟨h1, h2, h3, h5, h4⟩
          · exact ⟨h1.below (below_dr _), h2.step (below_dr _), h3.step (below_dr _), h5.step (below_dr _), h4.drew⟩
          · exact ⟨h1.below (below_al _ _), h2.step (below_al _ _), h3.step (below_al _ _), h5.step (below_al _ _), h4.trans ((below_al _ _).mono h4.size)⟩))
      have hp0 : (0 : Int) ≤ (p : Int) := by omega
      have hpm2 : (p : Int) < (m : Int) := by omega
      have hk0 : (0 : Int) ≤ (k : Int) := by omega
      have hk1 : (k : Int) < (m2 : Int) := by omega
      clear hmem hat hsz HGE hold htx
      have y0 : wr.drew.cell? ⟨b, off + k * 2, none⟩ = some (.int .i64 (p : Int)) := x0
      have y1 : wr.drew.cell? ⟨b, off + k * 2 + 1, none⟩ = some (.string xt) := x1
      have y2 : wr.drew.cell? ⟨bx, 1, none⟩ = some (.slice (some ⟨b, off, none⟩) m2 wc) := q1
      have y3 : wr.drew.cell? ⟨by_, 0, none⟩ = some (.slice (some ⟨g8, 0, none⟩) m c8) := x9
      have y4 : wr.drew.cell? ⟨g8, p, none⟩ = some (.string old) := hcell
      have y5 : wr.drew.frozen? ⟨g8, p, none⟩ = false := hfr
      have HN2 := Lib.hid (HNX.out wr (Below.refl _ _) xt HTX.out (by rw [HST.out]; rfl))
      go_upto_region 5 with fail
      refine wp_region_still_tail 14 (by kernel_rfl) (by kernel_rfl) ?_
      change wpStill _ _ wr.drew (fun a' => wpList _ _ _ _ a' wr.drew) _ _
      simp only [List.take_succ_cons, List.take_zero, List.drop_succ_cons, List.drop_zero]
      repeat still_step
      refine wpStill_nil ?_
      go_wp2_with fail
      go_roundw
      case rel =>
        refine ⟨k + 1, by go_num, by omega, ?_⟩
        exact HN2.out _ (by first | exact .inl rfl | exact .inr (.inl rfl) | exact .inr (.inr ⟨_, rfl⟩))
      case measure => simp [RowKit.intOf]; omega
    · have hkm : k = m2 := by omega
      subst hkm
      have x8 := HHX.out.cell 1 rfl
      have q2 := HHR.out.cell 0 rfl
      have q3 := HHR.out.cell 1 rfl
      have q4 := HHR.out.fr 0
      have q5 := HHR.out.fr 1
      go_wp2_with fail
      obtain ⟨u0, u1, hO, hB⟩ := fin2 (w := w) (d := ⟨stl safe wait oneF k, []⟩) HHR.out HOS.out (noE_own w1.heap.size wr) HZ8.out HZ8.out (by omega) HBR.out
      refine bodyPost_ret (v := .agg #[.slice (some ⟨g8, 0, none⟩) m c8, .slice none 0 0]) (by simp [results, Try.results33, go_sem, u0, u1]) rfl ⟨_, _, rfl, hO, hB⟩

set_option maxRecDepth 100000 in
set_option maxHeartbeats 8000000 in
theorem rCrash_any (d : DkD) (sa : Option Addr) (sc : Nat) (wa : Option Addr) (wc : Nat) (a : Option Addr) (n c : Nat) (ks : List Int) (w : World) (h : DkAt w d sa wa) (hmay : May d) (hks : NumsAt w a ks) (hkn : ks.length = n) :
    Calls Try.prog 24 #[d.v sa sc wa wc, .slice a n c] w (DkP (setD d (kpF ks)) w) := by
  have HH := Lib.hid h
  have HMY := Lib.hid hmay
  have hlm2 := h.wait.len
  have HKS := Lib.hid hks
  have HKN := Lib.hid hkn
  clear h
  unfold setD
  obtain ⟨safe, wait⟩ := d
  unfold DkD.v at *
  simp only at *
  obtain ⟨m, hm⟩ : ∃ m, safe.length = m := ⟨_, rfl⟩
  obtain ⟨m2, hm2⟩ : ∃ m, wait.length = m := ⟨_, rfl⟩
  rw [hm]
  rw [hm2] at hlm2 ⊢
  have HM := Lib.hid hm
  have HM2 := Lib.hid hm2
  unfold BIG at hlm2
  have hm400 : m2 ≤ 400 := by have := hmay.few; rw [show (DkD.mk safe wait).wait.length = m2 from hm2] at this; exact this
  have h1m : 1 ≤ m := by have := hmay.lo; rw [show (DkD.mk safe wait).safe.length = m from hm] at this; exact this
  have hm4 : m ≤ 400 := by have := hmay.hi; rw [show (DkD.mk safe wait).safe.length = m from hm] at this; exact this
  have HCP := Lib.hid (fun wx (hb : Below w.heap.size w wx) => CopyStrings_any sa sc safe wx (HH.out.safe.below hb) (by rw [HM.out]; omega))
  rw [hm] at HCP
  clear hm hm2 hmay
  obtain ⟨hA, hR, hB, hz⟩ := two w (.slice sa m sc) (.slice wa m2 wc) (.slice none 0 0) (.slice none 0 0) 25 25
  have HA1 := Lib.hid hA
  have HR1 := Lib.hid hR
  have HB1 := Lib.hid hB
  clear hA hR hB hz
  go_enter Try.func24, Try.ntmps24
  go_upto_region 1 with fail
  obtain ⟨bx, hbx⟩ : ∃ b, w.heap.size = b := ⟨_, rfl⟩
  rw [hbx] at HA1 HR1
  generalize (w.alloc (.cells #[.slice sa m sc, .slice wa m2 wc] 25)).alloc (.cells #[.slice none 0 0, .slice none 0 0] 25) = w1 at *
  have q0 := HA1.out.cell 0 rfl
  have q1 := HA1.out.cell 1 rfl
  go_upto_region 2 with (first
    | (go_at_call 31; refine (HCP.out _ HB1.out).mono ?_; rintro e w8 ⟨v8, rfl, how8, hb8⟩; obtain ⟨a8, c8, hv8, _, _, hg8⟩ := how8.at_; rw [HM.out] at hv8 hg8; subst hv8; obtain ⟨g8, rfl, hg9⟩ := hg8.resolve_left (by omega); have HS8 := Lib.hid how8; have HA8 := Lib.hid (HA1.out.step hb8); have HR8 := Lib.hid (HR1.out.step hb8); have HB8 := Lib.hid (HB1.out.trans (hb8.mono HB1.out.size)); have HZ8 := Lib.hid (show bx + 1 < w1.heap.size from HR1.out.lt); have HG9 := Lib.hid hg9; have HGL := Lib.hid (show g8 < w8.heap.size from World.block_lt_of_cell? w8 _ (own_cell (j := 0) (by rw [HM.out]; exact how8) (by rw [HM.out]; omega))); clear q0 q1; clear how8 hb8 hg8 hg9)
    | fail)
  have HGX := Lib.hid (show w.heap.size ≤ g8 from Nat.le_trans HB1.out.size HG9.out)
  have hb9 := below_al w8 (.cells #[.slice (some ⟨g8, 0, none⟩) m c8, .slice none 0 0] 25)
  have HX9 := Lib.hid (Hp.new w8 #[.slice (some ⟨g8, 0, none⟩) m c8, .slice none 0 0] 25)
  have HS9 := Lib.hid (HS8.out.below hb9)
  have HA9 := Lib.hid (HA8.out.step hb9)
  have HR9 := Lib.hid (HR8.out.step hb9)
  have HB9 := Lib.hid (HB8.out.trans (hb9.mono HB8.out.size))
  obtain ⟨by_, hby⟩ : ∃ b, w8.heap.size = b := ⟨_, rfl⟩
  have HGN := Lib.hid (show g8 ≠ bx ∧ g8 ≠ bx + 1 ∧ by_ ≠ g8 ∧ w.heap.size ≤ by_ from by have h8 := HZ8.out; have h9 := HG9.out; have h7 := HGL.out; have h6 := HB8.out.size; exact ⟨by omega, by omega, by omega, by omega⟩)
  rw [hby] at HX9 ⊢
  generalize w8.alloc (.cells #[.slice (some ⟨g8, 0, none⟩) m c8, .slice none 0 0] 25) = w9 at *
  clear HA1 HR1 HS8 HA8 HR8 HB8 hb9 hby HCP
  go_wp2_with fail
  go_loopw [6] (fun s4 wr => ∃ k : Nat, s4 = .int .i64 k ∧ k ≤ m2 ∧ OwnS w1.heap.size wr (.slice (some ⟨g8, 0, none⟩) m c8) (stl safe wait (kpF ks) k) ∧ Hp 25 wr bx #[.slice sa m sc, .slice wa m2 wc] ∧ Hp 25 wr (bx + 1) #[.slice none 0 0, .slice none 0 0] ∧ Hp 25 wr by_ #[.slice (some ⟨g8, 0, none⟩) m c8, .slice none 0 0] ∧ Below w.heap.size w wr) (fun s4 _ => m2 - (RowKit.intOf s4).toNat)
  case atStart => exact ⟨0, rfl, Nat.zero_le _, HS9.out, HA9.out, HR9.out, HX9.out, HB9.out⟩
  case round =>
    obtain ⟨k, rfl, hk, hos, hha, hhr, hhx, hbr⟩ := hrel
    have HOS := Lib.hid hos
    have HHA := Lib.hid hha
    have HHR := Lib.hid hhr
    have HHX := Lib.hid hhx
    have HBR := Lib.hid hbr
    clear hos hha hhr hhx hbr HS9 HA9 HR9 HX9 HB9
    have q1 := HHA.out.cell 1 rfl
    have x9 := HHX.out.cell 0 rfl
    by_cases hlt : k < m2
    · have hkl : k < wait.length := by rw [HM2.out]; exact hlt
      obtain ⟨b, off, rfl, hbb, x0, x1⟩ := (HH.out.wait.below HBR.out).cell k hkl
      have hmem : wait[k] ∈ wait := List.getElem_mem hkl
      have hat := HMY.out.at_ _ hmem
      have htx := HMY.out.text _ hmem
      have HST := Lib.hid (stl_succ (safe := safe) (f := (kpF ks)) hkl)
      have hlen : (stl safe wait (kpF ks) k).length = m := by rw [stl_len]; exact HM.out
      have hsz := stl_sz HMY.out (kpF ks) k
      generalize wait[k] = x at *
      obtain ⟨xp, xt⟩ := x
      simp only at x0 x1 hat htx HST
      obtain ⟨p, rfl⟩ : ∃ p : Nat, xp = p := ⟨xp.toNat, by omega⟩
      have hpm : p < m := by have h3 : ((DkD.mk safe wait).safe.length : Int) = (safe.length : Int) := rfl; have h4 := HM.out; omega
      unfold st1 at HST
      generalize stl safe wait (kpF ks) k = SS at *
      have hpl : p < SS.length := by rw [hlen]; exact hpm
      have HGE : SS[((p : Nat) : Int).toNat]?.getD ⟨#[]⟩ = SS[p] := by show SS[p]?.getD _ = _; rw [List.getElem?_eq_getElem hpl]; rfl
      rw [HGE] at HST
      have hold := hsz _ (List.getElem_mem hpl)
      have hcell : wr.cell? ⟨g8, p, none⟩ = some (.string SS[p]) := own_cell (by rw [hlen]; exact HOS.out) hpl
      have hfr : wr.frozen? ⟨g8, p, none⟩ = false := own_fr HOS.out hlen p
      have hg8lt : g8 < wr.heap.size := World.block_lt_of_cell? wr _ hcell
      generalize SS[p] = old at *
      have HTX := Lib.hid htx
      have HOLD := Lib.hid hold
      have HNX := Lib.hid (fun (wz : World) (hz : Below wr.heap.size wr wz) (nw : ByteArray) (hnw : nw.size = 32) (hst : stl safe wait (kpF ks) (k + 1) = SS.set p nw) (wx : World) (hx : wx = wz.setCell ⟨g8, p, none⟩ (.string nw) ∨ wx = (wz.setCell ⟨g8, p, none⟩ (.string nw)).drew ∨ ∃ o, wx = (wz.setCell ⟨g8, p, none⟩ (.string nw)).alloc o) =>
        (show OwnS w1.heap.size wx (.slice (some ⟨g8, 0, none⟩) m c8) (stl safe wait (kpF ks) (k + 1)) ∧ Hp 25 wx bx #[.slice sa m sc, .slice (some ⟨b, off, none⟩) m2 wc] ∧ Hp 25 wx (bx + 1) #[.slice none 0 0, .slice none 0 0] ∧ Hp 25 wx by_ #[.slice (some ⟨g8, 0, none⟩) m c8, .slice none 0 0] ∧ Below w.heap.size w wx from by
          rw [hst]
          have h1 := own_store (HOS.out.below hz) hlen p (by rw [hnw]; decide : nw.size ≤ BIG)
          have h2 := (HHA.out.step hz).far (c := p) HGN.out.1.symm (.string nw)
          have h3 := (HHR.out.step hz).far (c := p) HGN.out.2.1.symm (.string nw)
          have h5 := (HHX.out.step hz).far (c := p) HGN.out.2.2.1 (.string nw)
          have h4 := (HBR.out.trans (hz.mono HBR.out.size)).setCell (p := ⟨g8, p, none⟩) HGX.out (.string nw)
          rcases hx with rfl | rfl | ⟨o, rfl⟩
          · exact ⟨h1, h2, h3, h5, h4⟩
          · exact ⟨h1.below (below_dr _), h2.step (below_dr _), h3.step (below_dr _), h5.step (below_dr _), h4.drew⟩
          · exact ⟨h1.below (below_al _ _), h2.step (below_al _ _), h3.step (below_al _ _), h5.step (below_al _ _), h4.trans ((below_al _ _).mono h4.size)⟩))
      have hp0 : (0 : Int) ≤ (p : Int) := by omega
      have hpm2 : (p : Int) < (m : Int) := by omega
      have hk0 : (0 : Int) ≤ (k : Int) := by omega
      have hk1 : (k : Int) < (m2 : Int) := by omega
      clear hmem hat hsz HGE hold htx
      have hz : ∀ fe, kpF ks k = fe → fe = 0 → stl safe wait (kpF ks) (k + 1) = SS := fun fe h1 h2 => by
        rw [HST.out, h1, h2, show wrS old xt 0 = old from by unfold wrS; rw [if_neg (by decide), if_neg (by decide)]]
        have ho : SS[p] = old := by
          have h8 := own_cell (j := p) (l := SS) (by rw [hlen]; exact HOS.out) hpl
          rw [hcell] at h8
          simp only [Option.some.injEq, Value.string.injEq] at h8
          exact h8.symm
        rw [show ((p : Nat) : Int).toNat = p from rfl, ← ho]
        exact List.set_getElem_self hpl
      have HZ0 := Lib.hid hz
      clear hz
      by_cases hkn2 : k < n
      · have hknl : k < ks.length := by rw [HKN.out]; exact hkn2
        obtain ⟨bk, offk, rfl, hbk, z0⟩ := (HKS.out.below HBR.out).cell k hknl
        have hkf : kpF ks k = fateN ks[k] := by unfold kpF; rw [List.getElem?_eq_getElem hknl]
        generalize ks[k] = q at *
        have hkni : (k : Int) < (n : Int) := by omega
        by_cases hq : 0 < q
        · have hqd : decide (0 < q) = true := decide_eq_true hq
          obtain ⟨qn, rfl⟩ := nat_of hq
          have h3 := tmod_three qn
          have hf3 := fateN_nat qn
          rw [hf3] at hkf
          have hm3 : qn % 3 < 3 := Nat.mod_lt _ (by decide)
          generalize qn % 3 = fe at *
          have hw4 := wrap_three hm3
          rcases fe_cases hm3 with rfl | rfl | rfl
          · have HS0 := Lib.hid (HZ0.out 0 hkf rfl)
            clear HNX HST HZ0 hkf hcell hfr
            go_wp2_with fail
            go_roundw
            case rel =>
              refine ⟨k + 1, by go_num, by omega, ?_⟩
              rw [HS0.out]
              exact ⟨HOS.out.below (below_al wr _), HHA.out.step (below_al wr _), HHR.out.step (below_al wr _), HHX.out.step (below_al wr _), HBR.out.trans ((below_al wr _).mono HBR.out.size)⟩
            case measure => simp [RowKit.intOf]; omega
          · have HS1 := Lib.hid (show stl safe wait (kpF ks) (k + 1) = SS.set p xt from by rw [HST.out, hkf]; rfl)
            have HN2 := Lib.hid (HNX.out wr (Below.refl _ _) xt HTX.out HS1.out)
            have hyl := HHX.out.lt
            clear HNX HST HZ0 hkf
            go_wp2_with fail
            go_roundw
            case rel =>
              refine ⟨k + 1, by go_num, by omega, ?_⟩
              exact HN2.out _ (by first | exact .inl rfl | exact .inr (.inl rfl) | exact .inr (.inr ⟨_, rfl⟩))
            case measure => simp [RowKit.intOf]; omega
          · have HS1 := Lib.hid (show stl safe wait (kpF ks) (k + 1) = SS.set p (xt.extract 0 16 ++ old.extract 16 32) from by
              rw [HST.out, hkf]
              show SS.set p (wrS old xt 2) = _
              unfold wrS
              rw [if_neg (by decide), if_pos rfl, HOLD.out])
            have hsz1 : (xt.extract 0 16).size = 16 := by rw [ByteArray.size_extract, HTX.out]; rfl
            have hsz2 : (old.extract 16 32).size = 16 := by rw [ByteArray.size_extract, HOLD.out]; rfl
            have HN2 := Lib.hid (HNX.out (wr.alloc (.cells #[.int .i64 p, .string xt] 73)) (below_al wr _) _ (by rw [ByteArray.size_append, hsz1, hsz2]) HS1.out)
            have hno : ¬ (9223372036854775807 < (xt.extract 0 16).size + (old.extract 16 32).size) := by rw [hsz1, hsz2]; decide
            have a1 : (16 : Int) ≤ (xt.size : Int) := by rw [HTX.out]; decide
            have a2 : (16 : Int) ≤ (old.size : Int) := by rw [HOLD.out]; decide
            have a3 : 16 ≤ xt.size := by rw [HTX.out]; decide
            have a4 : 16 ≤ old.size := by rw [HOLD.out]; decide
            have a5 := HOLD.out
            clear HNX HST HZ0 hkf
            go_upto_region 13 with fail
            have hbn := below_al wr (.cells #[.int .i64 p, .string xt] 73)
            have HN := Hp.new wr #[.int .i64 p, .string xt] 73
            obtain ⟨bz, hbz⟩ : ∃ b, wr.heap.size = b := ⟨_, rfl⟩
            have z4 := (hbn.cell (p := ⟨g8, p, none⟩) hg8lt).trans hcell
            have z5 := (hbn.frozen (p := ⟨g8, p, none⟩) hg8lt).trans hfr
            have z6 := (HHX.out.step hbn).cell 0 rfl
            rw [hbz] at HN ⊢
            generalize wr.alloc (.cells #[.int .i64 p, .string xt] 73) = wz at *
            have y0 : wz.drew.cell? ⟨bz, 0, none⟩ = some (.int .i64 (p : Int)) := HN.cell 0 rfl
            have y1 : wz.drew.cell? ⟨bz, 1, none⟩ = some (.string xt) := HN.cell 1 rfl
            have y3 : wz.drew.cell? ⟨by_, 0, none⟩ = some (.slice (some ⟨g8, 0, none⟩) m c8) := z6
            have y4 : wz.drew.cell? ⟨g8, p, none⟩ = some (.string old) := z4
            have y5 : wz.drew.frozen? ⟨g8, p, none⟩ = false := z5
            clear hbn HN hbz hcell hfr x9 q1
            refine wp_region_still_tail 15 (by kernel_rfl) (by kernel_rfl) ?_
            change wpStill _ _ wz.drew (fun a' => wpList _ _ _ _ a' wz.drew) _ _
            simp only [List.take_succ_cons, List.take_zero, List.drop_succ_cons, List.drop_zero]
            repeat still_step
            refine wpStill_nil ?_
            go_wp2_with fail
            go_roundw
            case rel =>
              refine ⟨k + 1, by go_num, by omega, ?_⟩
              exact HN2.out _ (by first | exact .inl rfl | exact .inr (.inl rfl) | exact .inr (.inr ⟨_, rfl⟩))
            case measure => simp [RowKit.intOf]; omega
        · have hqd : decide (0 < q) = false := decide_eq_false hq
          have HS0 := Lib.hid (HZ0.out 0 (by rw [hkf]; exact fateN_neg hq) rfl)
          clear HNX HST HZ0 hkf hcell hfr
          go_wp2_with fail
          go_roundw
          case rel =>
            refine ⟨k + 1, by go_num, by omega, ?_⟩
            rw [HS0.out]
            exact ⟨HOS.out.below (below_al wr _), HHA.out.step (below_al wr _), HHR.out.step (below_al wr _), HHX.out.step (below_al wr _), HBR.out.trans ((below_al wr _).mono HBR.out.size)⟩
          case measure => simp [RowKit.intOf]; omega
      · have hkd : decide (k < n) = false := decide_eq_false hkn2
        have hkni : ¬ ((k : Int) < (n : Int)) := by omega
        have HS0 := Lib.hid (HZ0.out 0 (by unfold kpF; rw [List.getElem?_eq_none (by rw [HKN.out]; omega)]) rfl)
        clear HNX HST HZ0 hcell hfr
        go_wp2_with fail
        go_roundw
        case rel =>
          refine ⟨k + 1, by go_num, by omega, ?_⟩
          rw [HS0.out]
          exact ⟨HOS.out.below (below_al wr _), HHA.out.step (below_al wr _), HHR.out.step (below_al wr _), HHX.out.step (below_al wr _), HBR.out.trans ((below_al wr _).mono HBR.out.size)⟩
        case measure => simp [RowKit.intOf]; omega
    · have hkm : k = m2 := by omega
      subst hkm
      have x8 := HHX.out.cell 1 rfl
      have q2 := HHR.out.cell 0 rfl
      have q3 := HHR.out.cell 1 rfl
      have q4 := HHR.out.fr 0
      have q5 := HHR.out.fr 1
      go_wp2_with fail
      obtain ⟨u0, u1, hO, hB⟩ := fin2 (w := w) (d := ⟨stl safe wait (kpF ks) k, []⟩) HHR.out HOS.out (noE_own w1.heap.size wr) HZ8.out HZ8.out (by omega) HBR.out
      refine bodyPost_ret (v := .agg #[.slice (some ⟨g8, 0, none⟩) m c8, .slice none 0 0]) (by simp [results, Try.results24, go_sem, u0, u1]) rfl ⟨_, _, rfl, hO, hB⟩
end Go.Proofs.Ytlmfieeemkahfaa
