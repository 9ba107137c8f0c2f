/- disk.settle where Crash calls it; Sync, Crash -/
import Derived.Test.YtlmfieeemkahfaaDkIc
namespace Go.Proofs.Ytlmfieeemkahfaa
open Go.RowKit Go.Lib

set_option maxRecDepth 100000 in
set_option maxHeartbeats 8000000 in
theorem settleC_any (d : DkD) (sa : Option Addr) (sc : Nat) (wa : Option Addr) (wc : Nat) (bk n c : Nat) (a : Option Addr) (ks : List Int) (w : World) (h : DkAt w d sa wa) (hbk : w.cell? ⟨bk, 0, none⟩ = some (.slice a n c)) (hks : NumsAt w a ks) (hkn : ks.length = n) (hi : ∀ x ∈ ks, x ≤ 9223372036854775807) :
    Calls Try.prog 45 #[d.v sa sc wa wc, .func (.func 47) #[] #[.pointer (some ⟨bk, 0, none⟩)]] w (DkE (errD (setD d (kpF ks)) (if mayB d then 0 else 1)) (if mayB d then 0 else 1) w) := by
  have HMB := Lib.hid (fun wx (hb : Below w.heap.size w wx) => mayBe_any d sa sc wa wc wx (h.below hb))
  have HH := Lib.hid h
  have HBK := Lib.hid (fun (wx : World) (hb : Below w.heap.size w wx) => (hb.cell (p := ⟨bk, 0, none⟩) (World.block_lt_of_cell? w _ hbk)).trans hbk)
  have HNM := Lib.hid hks
  have HNN := Lib.hid hkn
  have HI := Lib.hid hi
  clear hbk hks hkn hi
  have HMAY := Lib.hid (fun hm : mayB d = true => may_of hm)
  have hlm2 := h.wait.len
  unfold errD
  generalize hmb : mayB d = bm at *
  clear hmb h
  unfold setD
  obtain ⟨safe, wait⟩ := d
  unfold DkD.v at *
  simp only at *
  obtain ⟨m, hm⟩ : ∃ m, safe.length = m := ⟨_, rfl⟩
  obtain ⟨m2, hm2⟩ : ∃ m, wait.length = m := ⟨_, rfl⟩
  rw [hm] at HMB ⊢
  rw [hm2] at HMB hlm2 ⊢
  have HM := Lib.hid hm
  have HM2 := Lib.hid hm2
  obtain ⟨hA, hR, hB, hz⟩ := two w (.slice sa m sc) (.slice wa m2 wc) (.slice none 0 0) (.slice none 0 0) 25 25
  have HA1 := Lib.hid hA
  have HR1 := Lib.hid hR
  have HB1 := Lib.hid hB
  unfold BIG at hlm2
  clear hm hm2 hA hR hB hz
  cases bm
  · simp only [Bool.false_eq_true, if_false]
    rw [if_neg (by decide)]
    go_enter Try.func45, Try.ntmps45
    go_upto_region 1 with fail
    obtain ⟨bx, hbx⟩ : ∃ b, w.heap.size = b := ⟨_, rfl⟩
    rw [hbx] at HA1 HR1
    generalize (w.alloc (.cells #[.slice sa m sc, .slice wa m2 wc] 25)).alloc (.cells #[.slice none 0 0, .slice none 0 0] 25) = w1 at *
    have q0 := HA1.out.cell 0 rfl
    have q1 := HA1.out.cell 1 rfl
    go_wp2_with (first
      | (go_at_call 40; refine (HMB.out _ HB1.out).mono ?_; rintro e w2 ⟨rfl, hb2⟩; have HR2 := Lib.hid (HR1.out.step hb2); have HB2 := Lib.hid (HB1.out.trans (hb2.mono HB1.out.size)); have p2 := HR2.out.cell 0 rfl; have p3 := HR2.out.cell 1 rfl; have p4 := HR2.out.fr 0; have p5 := HR2.out.fr 1; clear hb2)
      | fail)
    obtain ⟨u0, u1, hO, hB⟩ := fin2 (w := w) (d := noD) HR2.out (noS_own (bx + 1 + 1) _) (noE_own (bx + 1 + 1) _) (by omega) (by omega) (by omega) HB2.out
    refine bodyPost_ret (v := .tuple #[.agg #[.slice none 0 0, .slice none 0 0], .int .i64 1]) (by simp [results, Try.results45, go_sem, u0, u1]) rfl ⟨_, _, rfl, hO, hB⟩
  · simp only [if_true]
    have hmay := HMAY.out rfl
    have hm400 : m2 ≤ 400 := by have := hmay.few; rw [HM2.out] at this; exact this
    have h1m : 1 ≤ m := by have := hmay.lo; rw [HM.out] at this; exact this
    have hm4 : m ≤ 400 := by have := hmay.hi; rw [HM.out] at this; exact this
    obtain ⟨ad, rfl⟩ := strs_some HH.out.safe (by rw [HM.out]; exact h1m)
    have HMY := Lib.hid hmay
    clear hmay HMAY
    go_enter Try.func45, Try.ntmps45
    go_upto_region 1 with fail
    obtain ⟨bx, hbx⟩ : ∃ b, w.heap.size = b := ⟨_, rfl⟩
    rw [hbx] at HA1 HR1
    generalize (w.alloc (.cells #[.slice (some ad) m sc, .slice wa m2 wc] 25)).alloc (.cells #[.slice none 0 0, .slice none 0 0] 25) = w1 at *
    have q0 := HA1.out.cell 0 rfl
    have q1 := HA1.out.cell 1 rfl
    go_wp2_with (first
      | (go_at_call 40; refine (HMB.out _ HB1.out).mono ?_; rintro e w2 ⟨rfl, hb2⟩; have HA2 := Lib.hid (HA1.out.step hb2); have HR2 := Lib.hid (HR1.out.step hb2); have HB2 := Lib.hid (HB1.out.trans (hb2.mono HB1.out.size)); clear q0 q1; have q0 := HA2.out.cell 0 rfl; have q1 := HA2.out.cell 1 rfl; clear hb2)
      | (go_at_call 44; refine (Clone_any ad m sc safe w2 (HH.out.safe.below HB2.out) HM.out (by omega)).mono ?_; rintro e w8 ⟨v8, rfl, how8, hb8⟩; obtain ⟨a8, c8, hv8, _, _, hg8⟩ := how8.at_; rw [HM.out] at hv8 hg8; subst hv8; obtain ⟨g8, rfl, hg9⟩ := hg8.resolve_left (by omega); have HS8 := Lib.hid how8; have HA8 := Lib.hid (HA2.out.step hb8); have HR8 := Lib.hid (HR2.out.step hb8); have HB8 := Lib.hid (HB2.out.trans (hb8.mono HB2.out.size)); have HZ8 := Lib.hid (show bx + 1 < w2.heap.size from HR2.out.lt); have HG9 := Lib.hid hg9; clear q0 q1; have q0 := HA8.out.cell 0 rfl; have q1 := HA8.out.cell 1 rfl; clear how8 hb8 hg8 hg9)
      | fail)
    have HGX := Lib.hid (show w.heap.size ≤ g8 from Nat.le_trans HB2.out.size HG9.out)
    have HGN := Lib.hid (show g8 ≠ bx ∧ g8 ≠ bx + 1 from by have h8 := HZ8.out; have h9 := HG9.out; exact ⟨by omega, by omega⟩)
    clear q0 q1 HMB HA1 HR1 HA2 HR2
    go_loopw [19] (fun s19 wr => ∃ k : Nat, s19 = .int .i64 k ∧ k ≤ m2 ∧ OwnS w2.heap.size wr (.slice (some ⟨g8, 0, none⟩) m c8) (stl safe wait (kpF ks) k) ∧ Hp 25 wr bx #[.slice (some ad) m sc, .slice wa m2 wc] ∧ Hp 25 wr (bx + 1) #[.slice none 0 0, .slice none 0 0] ∧ Below w.heap.size w wr) (fun s19 _ => m2 - (RowKit.intOf s19).toNat)
    case atStart => exact ⟨0, rfl, Nat.zero_le _, HS8.out, HA8.out, HR8.out, HB8.out⟩
    case round =>
      obtain ⟨k, rfl, hk, hos, hha, hhr, hbr⟩ := hrel
      have HOS := Lib.hid hos
      have HHA := Lib.hid hha
      have HHR := Lib.hid hhr
      have HBR := Lib.hid hbr
      clear hos hha hhr hbr HS8 HA8 HR8 HB8
      have q1 := HHA.out.cell 1 rfl
      by_cases hlt : k < m2
      · have hkl : k < wait.length := by rw [HM2.out]; exact hlt
        obtain ⟨b, off, rfl, hbb, x0, x1⟩ := (HH.out.wait.below HBR.out).cell k hkl
        have hmem : wait[k] ∈ wait := List.getElem_mem hkl
        have hat := HMY.out.at_ _ hmem
        have htx := HMY.out.text _ hmem
        have HST := Lib.hid (stl_succ (safe := safe) (f := (kpF ks)) hkl)
        have hlen : (stl safe wait (kpF ks) k).length = m := by rw [stl_len]; exact HM.out
        have hsz := stl_sz HMY.out (kpF ks) k
        generalize wait[k] = x at *
        obtain ⟨xp, xt⟩ := x
        simp only at x0 x1 hat htx HST
        obtain ⟨p, rfl⟩ : ∃ p : Nat, xp = p := ⟨xp.toNat, by omega⟩
        have hpm : p < m := by have h3 : ((DkD.mk safe wait).safe.length : Int) = (safe.length : Int) := rfl; have h4 := HM.out; omega
        unfold st1 at HST
        generalize stl safe wait (kpF ks) k = SS at *
        have hpl : p < SS.length := by rw [hlen]; exact hpm
        have HGE : SS[((p : Nat) : Int).toNat]?.getD ⟨#[]⟩ = SS[p] := by show SS[p]?.getD _ = _; rw [List.getElem?_eq_getElem hpl]; rfl
        rw [HGE] at HST
        have hold := hsz _ (List.getElem_mem hpl)
        have hcell : wr.cell? ⟨g8, p, none⟩ = some (.string SS[p]) := own_cell (by rw [hlen]; exact HOS.out) hpl
        have hfr : wr.frozen? ⟨g8, p, none⟩ = false := own_fr HOS.out hlen p
        have hg8lt : g8 < wr.heap.size := World.block_lt_of_cell? wr _ hcell
        generalize SS[p] = old at *
        have HCL := Lib.hid (fun (wx : World) (hb : Below w.heap.size w wx) => CrashF_any k n c bk a ks wx (HBK.out wx hb) (HNM.out.below hb) HNN.out HI.out)
        have hfe := kpF_lt ks k
        generalize ((kpF ks)) k = fe at *
        have HWR := Lib.hid (fun wx => written_any old xt fe wx hold htx hfe)
        have HWS := Lib.hid (wrS_size hold htx fe)
        generalize wrS old xt fe = nw at *
        clear hmem hat htx hsz HGE hold
        go_upto_region 7 with fail
        have HN := Lib.hid (Hp.new wr #[.int .i64 p, .string xt] 73)
        have hbn := below_al wr (.cells #[.int .i64 p, .string xt] 73)
        have HBN := Lib.hid hbn
        have HRC := Lib.hid (show (wr.alloc (.cells #[.int .i64 p, .string xt] 73)).cell? ⟨g8, p, none⟩ = some (.string old) from (hbn.cell (p := ⟨g8, p, none⟩) hg8lt).trans hcell)
        have HRF := Lib.hid (show (wr.alloc (.cells #[.int .i64 p, .string xt] 73)).frozen? ⟨g8, p, none⟩ = false from (hbn.frozen (p := ⟨g8, p, none⟩) hg8lt).trans hfr)
        have HZN := Lib.hid (show g8 < (wr.alloc (.cells #[.int .i64 p, .string xt] 73)).heap.size from Nat.lt_of_lt_of_le hg8lt hbn.size)
        obtain ⟨bz, hbz⟩ : ∃ b, wr.heap.size = b := ⟨_, rfl⟩
        rw [hbz] at HN ⊢
        generalize wr.alloc (.cells #[.int .i64 p, .string xt] 73) = wz at *
        have HS := Lib.hid (fun (wx : World) (hb : Below wz.heap.size wz wx) => (show (wx.cell? ⟨bz, 0, none⟩ = some (.int .i64 p) ∧ wx.cell? ⟨bz, 1, none⟩ = some (.string xt) ∧ wx.cell? ⟨g8, p, none⟩ = some (.string old)) ∧ wx.frozen? ⟨g8, p, none⟩ = false from ⟨⟨(HN.out.step hb).cell 0 rfl, (HN.out.step hb).cell 1 rfl, (hb.cell (p := ⟨g8, p, none⟩) HZN.out).trans HRC.out⟩, (hb.frozen (p := ⟨g8, p, none⟩) HZN.out).trans HRF.out⟩))
        clear x0 x1 hcell hfr hbn hbz
        refine set_rCq wz hpm HS (Lib.hid (fun wx hb => HCL.out wx (HBR.out.trans ((HBN.out.trans (hb.mono HBN.out.size)).mono HBR.out.size)))) HWR ?_
        intro v24 v25 v26 v27 v28 v29 v30 v31 v32 v33 v34 v35 v36 v37 v38 wx hwx
        have HST2 : OwnS w2.heap.size wx (.slice (some ⟨g8, 0, none⟩) m c8) (stl safe wait (kpF ks) (k + 1)) ∧ Hp 25 wx bx #[.slice (some ad) m sc, .slice (some ⟨b, off, none⟩) m2 wc] ∧ Hp 25 wx (bx + 1) #[.slice none 0 0, .slice none 0 0] ∧ Below w.heap.size w wx := by
          obtain ⟨w7, hb7, hc7⟩ := hwx
          have hb9 := HBN.out.trans (hb7.mono HBN.out.size)
          rw [HST.out]
          have h1 := own_store (HOS.out.below hb9) hlen p (by rw [HWS.out]; decide : nw.size ≤ BIG)
          have h2 := (HHA.out.step hb9).far (c := p) HGN.out.1.symm (.string nw)
          have h3 := (HHR.out.step hb9).far (c := p) HGN.out.2.symm (.string nw)
          have h4 := (HBR.out.trans (hb9.mono HBR.out.size)).setCell (p := ⟨g8, p, none⟩) HGX.out (.string nw)
          rcases hc7 with rfl | rfl
          · exact ⟨h1, h2, h3, h4⟩
          · exact ⟨h1.below (below_dr _), h2.step (below_dr _), h3.step (below_dr _), h4.drew⟩
        have HF2 := Lib.hid HST2
        clear hwx HST2 HST
        dsimp only [Exit.inBlock, Exit.then]
        go_wp2_with fail
        go_roundw
        case rel => exact ⟨k + 1, by go_num, by omega, HF2.out.1, HF2.out.2.1, HF2.out.2.2.1, HF2.out.2.2.2⟩
        case measure => simp [RowKit.intOf]; omega
      · have hkm : k = m2 := by omega
        subst hkm
        have q2 := HHR.out.cell 0 rfl
        have q3 := HHR.out.cell 1 rfl
        have q4 := HHR.out.fr 0
        have q5 := HHR.out.fr 1
        go_wp2_with fail
        obtain ⟨u0, u1, hO, hB⟩ := fin2 (w := w) (d := ⟨stl safe wait (kpF ks) k, []⟩) HHR.out HOS.out (noE_own w2.heap.size wr) HZ8.out HZ8.out (by omega) HBR.out
        refine bodyPost_ret (v := .tuple #[.agg #[.slice (some ⟨g8, 0, none⟩) m c8, .slice none 0 0], .int .i64 0]) (by simp [results, Try.results45, go_sem, u0, u1]) rfl ⟨_, _, rfl, hO, hB⟩
end Go.Proofs.Ytlmfieeemkahfaa
