/- the law DiskTorn -/
import Derived.Test.YtlmfieeemkahfaaDkHv
import Derived.Test.YtlmfieeemkahfaaDkW
namespace Go.Proofs.Ytlmfieeemkahfaa
open Go.RowKit Go.Lib

theorem conv_one {P : Program} (w : World) (src dst e : TypeId) (x : Int) (hs : P.underlying src = some (.slice e)) (he : P.underlying e = some (.int .u8)) (hd : P.underlying dst = some .string) (h0 : 0 ≤ x) (h1 : x < 256) :
    (convert src dst (.slice (some ⟨w.heap.size, 0, none⟩) 1 1)).run P (w.alloc (.cells #[.int .u8 x] e)) = .ok (.string ⟨#[UInt8.ofNat x.toNat]⟩) (w.alloc (.cells #[.int .u8 x] e)) := by
  refine run_convert_bytes_back (w.alloc (.cells #[.int .u8 x] e)) src dst e ⟨w.heap.size, 0, none⟩ 1 [UInt8.ofNat x.toNat] hs he hd ?_
  intro j hj
  have hj0 : j = 0 := by simpa using hj
  subst hj0
  have ex : ((UInt8.ofNat x.toNat).toNat : Int) = x := by simp [UInt8.toNat_ofNat']; omega
  simp only [List.getElem_cons_zero, ex]
  simp [Addr.add]
theorem nums5 {w : World} {b : Nat} {v0 v1 v2 v3 v4 : Int} (h : Hp 3 w b #[.int .i64 v0, .int .i64 v1, .int .i64 v2, .int .i64 v3, .int .i64 v4]) : NumsAt w (some ⟨b, 0, none⟩) [v0, v1, v2, v3, v4] := by
  refine ⟨fun j hj => ⟨b, 0, rfl, h.lt, ?_⟩, by show 5 ≤ BIG; decide⟩
  rw [Nat.zero_add]
  have hj5 : j < 5 := hj
  match j, hj5 with
  | 0, _ => exact h.cell 0 rfl
  | 1, _ => exact h.cell 1 rfl
  | 2, _ => exact h.cell 2 rfl
  | 3, _ => exact h.cell 3 rfl
  | 4, _ => exact h.cell 4 rfl
/-- the disk in its box -/
structure Bx (w : World) (b : Nat) (d : DkD) (a : Option Addr) (c : Nat) (a2 : Option Addr) (c2 : Nat) : Prop where
  hp : Hp 25 w b #[.slice a d.safe.length c, .slice a2 d.wait.length c2]
  at_ : DkAt w d a a2
theorem Bx.below {w w' : World} {b : Nat} {d : DkD} {a : Option Addr} {c : Nat} {a2 : Option Addr} {c2 : Nat} (h : Bx w b d a c a2 c2) (hb : Below w.heap.size w w') : Bx w' b d a c a2 c2 := ⟨h.hp.step hb, h.at_.below hb⟩
theorem Bx.set {base : Nat} {w : World} {b : Nat} {cs : Array Value} {d : DkD} {a : Option Addr} {c : Nat} {a2 : Option Addr} {c2 : Nat} (h : Hp 25 w b cs) (hn : cs.size = 2) (ho : DkOwn base w d (.slice a d.safe.length c) (.slice a2 d.wait.length c2)) (hb : b < base) :
    Bx ((w.setCell ⟨b, 0, none⟩ (.slice a d.safe.length c)).setCell ⟨b, 1, none⟩ (.slice a2 d.wait.length c2)) b d a c a2 c2 := by
  refine ⟨?_, (ho.set2 hb _ _).at_⟩
  have h1 := (h.set 0 (.slice a d.safe.length c)).set 1 (.slice a2 d.wait.length c2)
  have h2 : (cs.setIfInBounds 0 (.slice a d.safe.length c)).setIfInBounds 1 (.slice a2 d.wait.length c2) = #[.slice a d.safe.length c, .slice a2 d.wait.length c2] := by
    cases cs with
    | mk l => match l, hn with
      | [x, y], _ => rfl
  rw [h2] at h1
  exact h1
set_option maxRecDepth 100000 in
set_option maxHeartbeats 8000000 in
theorem diskTorn_walk (p : ScD) (w : World) (h : ScAt w p) : Calls Try.prog 8 #[p.v] w (BoB true w) := by
  have hlm := h.acts.len
  unfold ScD.v at *
  obtain ⟨d0, sa, sc, wa, wc, pn, l, la, lc⟩ := p
  simp only at *
  clear h
  generalize d0.safe.length = nsa at *
  generalize d0.wait.length = nwa at *
  generalize l.length = m at *
  have hmi : (m : Int) ≤ 140737488351232 := by unfold BIG at hlm; omega
  have HNEW := Lib.hid (fun wx => (New_any 3 wx).mono fun e w' h => DkE_shape h)
  rw [show btw 3 1 400 = true from by decide, if_pos rfl, if_pos rfl, show Int.toNat 3 = 3 from rfl] at HNEW
  have HPUT := Lib.hid (show ∀ (d : DkD) sa sc wa wc (n : Int) (s : ByteArray) wx, DkAt wx d sa wa → May d → 0 ≤ n → n < (d.safe.length : Int) → d.wait.length < 400 → s.size = 32 → Calls Try.prog 19 #[.agg #[.slice sa d.safe.length sc, .slice wa d.wait.length wc], .int .i64 n, .string s] wx fun e w' => ∃ a c a2 c2, e = .returned (.tuple #[.agg #[.slice a (putW d n s).safe.length c, .slice a2 (putW d n s).wait.length c2], .int .i64 0]) ∧ DkAt w' (putW d n s) a a2 ∧ DkOwn wx.heap.size w' (putW d n s) (.slice a (putW d n s).safe.length c) (.slice a2 (putW d n s).wait.length c2) ∧ Below wx.heap.size wx w' from fun d sa sc wa wc n s wx h hm h0 h1 h2 hs => by
    have h3 := Put_any d sa sc wa wc n s wx h (by rw [hs]; decide)
    rw [putE_ok hm h0 h1 h2 hs, errD_zero] at h3
    exact h3.mono fun e w' h => DkE_shape h)
  have HCR := Lib.hid (show ∀ (d : DkD) sa sc wa wc a n c (ks : List Int) wx, DkAt wx d sa wa → May d → NumsAt wx a ks → ks.length = n → NB ks → Calls Try.prog 22 #[.agg #[.slice sa d.safe.length sc, .slice wa d.wait.length wc], .slice a n c] wx fun e w' => ∃ a c a2 c2, e = .returned (.tuple #[.agg #[.slice a (setD d (kpF ks)).safe.length c, .slice a2 (setD d (kpF ks)).wait.length c2], .int .i64 0]) ∧ DkAt w' (setD d (kpF ks)) a a2 ∧ DkOwn wx.heap.size w' (setD d (kpF ks)) (.slice a (setD d (kpF ks)).safe.length c) (.slice a2 (setD d (kpF ks)).wait.length c2) ∧ Below wx.heap.size wx w' from fun d sa sc wa wc a n c ks wx h hm hks hkn hi => by
    have h3 := Crash_any d sa sc wa wc a n c ks wx h hks hkn hi
    rw [errM_ok hm, errD_zero] at h3
    exact h3.mono fun e w' h => DkE_shape h)
  have HRC := Lib.hid (show ∀ (d : DkD) sa sc wa wc a n c (ks : List Int) wx, DkAt wx d sa wa → May d → NumsAt wx a ks → ks.length = n → Calls Try.prog 24 #[.agg #[.slice sa d.safe.length sc, .slice wa d.wait.length wc], .slice a n c] wx fun e w' => ∃ a c a2 c2, e = .returned (.agg #[.slice a (setD d (kpF ks)).safe.length c, .slice a2 (setD d (kpF ks)).wait.length c2]) ∧ DkAt w' (setD d (kpF ks)) a a2 ∧ DkOwn wx.heap.size w' (setD d (kpF ks)) (.slice a (setD d (kpF ks)).safe.length c) (.slice a2 (setD d (kpF ks)).wait.length c2) ∧ Below wx.heap.size wx w' from fun d sa sc wa wc a n c ks wx h hm hks hkn => (rCrash_any d sa sc wa wc a n c ks wx h hm hks hkn).mono fun e w' h => DkP_shape h)
  have HEQ := Lib.hid (show ∀ (d : DkD) sa sb wa wb ca cb cc cd wx, DkAt wx d sa wa → DkAt wx d sb wb → d.safe.length ≤ 1000 → d.wait.length ≤ 1000 → Calls Try.prog 13 #[.agg #[.slice sa d.safe.length ca, .slice wa d.wait.length cc], .agg #[.slice sb d.safe.length cb, .slice wb d.wait.length cd]] wx (BoB true wx) from fun d sa sb wa wb ca cb cc cd wx h1 h2 h3 h4 => EqDisk_yes d sa sb wa wb ca cb cc cd wx h1 h2 (by omega) (by omega))
  have HWK := Lib.hid (fun wx => wakes14_any wx)
  have HN14 := Lib.hid (fun n wx => num14_any n wx)
  have HX0 := Lib.hid (Hp.new w #[.slice sa nsa sc, .slice wa nwa wc, .int .i64 pn, .slice la m lc] 28)
  have HB0 := Lib.hid (below_al w (.cells #[.slice sa nsa sc, .slice wa nwa wc, .int .i64 pn, .slice la m lc] 28))
  clear hlm
  go_enter Try.func8, Try.ntmps8
  go_upto_region 1 with fail
  obtain ⟨b1, hb1⟩ : ∃ b, w.heap.size = b := ⟨_, rfl⟩
  have HB1 := Lib.hid (show w.heap.size ≤ b1 from hb1 ▸ Nat.le_refl _)
  rw [hb1] at HX0 ⊢
  clear hb1
  generalize w.alloc (.cells #[.slice sa nsa sc, .slice wa nwa wc, .int .i64 pn, .slice la m lc] 28) = W0 at *
  go_upto_region 2 with (first
    | (go_at_call 10; refine (HNEW.out _).mono ?_; rintro e w1 ⟨a1, c1, a2, c2, rfl, hat1, _, hb1⟩)
    | fail)
  have HA1 := Lib.hid hat1
  have HX1 := Lib.hid (HX0.out.step hb1)
  have HC1 := Lib.hid (HB0.out.trans (hb1.mono HB0.out.size))
  have HL1 := Lib.hid (show b1 < w1.heap.size from HX1.out.lt)
  clear hat1 hb1 HX0 HB0 HNEW
  have HA2 := Lib.hid (HA1.out.below (below_al w1 (.cells #[.slice a1 (newD 3).safe.length c1, .slice a2 (newD 3).wait.length c2] 25)))
  have HX2 := Lib.hid (HX1.out.step (below_al w1 (.cells #[.slice a1 (newD 3).safe.length c1, .slice a2 (newD 3).wait.length c2] 25)))
  have HC2 := Lib.hid (below_alx (w1 := w) HC1.out (.cells #[.slice a1 (newD 3).safe.length c1, .slice a2 (newD 3).wait.length c2] 25))
  have HP2 := Lib.hid (Hp.new w1 #[.slice a1 (newD 3).safe.length c1, .slice a2 (newD 3).wait.length c2] 25)
  obtain ⟨b3, hb3⟩ : ∃ b, w1.heap.size = b := ⟨_, rfl⟩
  rw [hb3] at HP2 HL1 ⊢
  clear hb3 HA1 HX1 HC1
  generalize w1.alloc (.cells #[.slice a1 (newD 3).safe.length c1, .slice a2 (newD 3).wait.length c2] 25) = w2 at *
  have HBX := Lib.hid (show Bx w2 b3 (newD 3) a1 c1 a2 c2 from ⟨HP2.out, HA2.out⟩)
  have HMY := Lib.hid (may_new 3 (by decide) (by decide))
  have HLN := Lib.hid (show (newD 3).safe.length = 3 ∧ (newD 3).wait.length = 0 from ⟨rfl, rfl⟩)
  have hg3 : w.heap.size ≤ b3 := by have h1 := HB1.out; have h2 := HL1.out; omega
  have hne : b1 ≠ b3 := by have h2 := HL1.out; omega
  have HG3 := Lib.hid (And.intro hg3 hne)
  clear hg3 hne HA2 HP2
  generalize newD 3 = dn at *
  go_upto_region 5 with (first
    | (go_at_call 12; refine (HN14.out _ _).mono ?_; rintro e wn ⟨rfl, rfl⟩)
    | fail)
  go_loopw [5] (fun s5 wr => ∃ (i : Nat) (d : DkD) (a : Option Addr) (c : Nat) (a2 : Option Addr) (c2 : Nat), s5 = .int .i64 i ∧ i ≤ 5 ∧ May d ∧ d.safe.length = 3 ∧ d.wait.length = i ∧ Bx wr b3 d a c a2 c2 ∧ Hp 28 wr b1 #[.slice sa nsa sc, .slice wa nwa wc, .int .i64 pn, .slice la m lc] ∧ Below w.heap.size w wr) (fun s5 _ => 5 - (RowKit.intOf s5).toNat)
  case atStart => exact ⟨0, dn, _, _, _, _, rfl, Nat.zero_le _, HMY.out, HLN.out.1, HLN.out.2, HBX.out, HX2.out, HC2.out⟩
  case round =>
    obtain ⟨i, d, a, c, a2_, c2_, rfl, hi5, hmy, hl1, hl2, hbx, hx, hbr⟩ := hrel
    have HM := Lib.hid hmy
    have HL := Lib.hid (And.intro hl1 hl2)
    have HX := Lib.hid hx
    have HB := Lib.hid hbr
    have HV := Lib.hid hbx
    clear hmy hl1 hl2 hx hbr hbx HMY HLN HBX HX2 HC2
    obtain ⟨wo, hwo⟩ : ∃ x, x = wr := ⟨_, rfl⟩
    subst hwo
    by_cases hi : i < 5
    · go_upto_region 9 with fail
      go_loopw [6, 7] (fun s6 s7 wq => ∃ (k : Nat) (s : ByteArray), s7 = .int .i64 k ∧ s6 = .string s ∧ s.size = k ∧ k ≤ 32 ∧ Below wo.heap.size wo wq) (fun _ s7 _ => 32 - (RowKit.intOf s7).toNat)
      case atStart => exact ⟨0, _, rfl, rfl, rfl, by omega, Below.refl _ _⟩
      case round =>
        obtain ⟨k, s, rfl, rfl, hsk, hk, hbq⟩ := hrel
        have HS := Lib.hid hsk
        have HBQ := Lib.hid hbq
        clear hsk hbq
        by_cases hk2 : k < 32
        · have hno : ¬ (9223372036854775807 < s.size + (⟨#[UInt8.ofNat (97 + (i : Int)).toNat]⟩ : ByteArray).size) := by have h1 := HS.out; have h2 : (⟨#[UInt8.ofNat (97 + (i : Int)).toNat]⟩ : ByteArray).size = 1 := rfl; omega
          have hcv := conv_one (P := Try.prog) wr 46 9 5 (97 + (i : Int)) Try.underlying46 Try.underlying5 Try.underlying9 (by omega) (by omega)
          obtain ⟨c9, hc9⟩ : ∃ c, UInt8.ofNat (97 + (i : Int)).toNat = c := ⟨_, rfl⟩
          rw [hc9] at hcv hno
          clear hc9
          go_wp2_with fail
          go_roundw
          case rel => exact ⟨k + 1, _, by go_num, rfl, by rw [ByteArray.size_append, HS.out]; rfl, by omega, by first | exact HBQ.out.alloc HBQ.out.size _ | exact (HBQ.out.alloc HBQ.out.size _).drew⟩
          case measure => simp [RowKit.intOf]; omega
        · have hk32 : k = 32 := by omega
          subst hk32
          have HV2 := Lib.hid (HV.out.below HBQ.out)
          have HX2 := Lib.hid (HX.out.step HBQ.out)
          have HB2 := Lib.hid (HB.out.trans (HBQ.out.mono HB.out.size))
          have q0 := HV2.out.hp.cell 0 rfl
          have q1 := HV2.out.hp.cell 1 rfl
          have h2i : ((i : Int) % 2 = 0 ∨ (i : Int) % 2 = 1) := by omega
          have HPD := Lib.hid (show ∀ n : Int, 0 ≤ n → n < 2 → May (putW d n s) ∧ (putW d n s).safe.length = 3 ∧ (putW d n s).wait.length = i + 1 from fun n h1 h2 => ⟨may_put HM.out h1 (by rw [HL.out.1]; omega) (by rw [HL.out.2]; omega) HS.out, HL.out.1, by show (d.wait ++ [_]).length = i + 1; rw [List.length_append, List.length_singleton, HL.out.2]⟩)
          have HPI := Lib.hid (fun sa sc wa wc (n : Int) wx (hx : DkAt wx d sa wa) (h0 : 0 ≤ n) (h1 : n < 2) => HPUT.out d sa sc wa wc n s wx hx HM.out h0 (by rw [HL.out.1]; omega) (by rw [HL.out.2]; omega) HS.out)
          clear HV HX HB HBQ
          go_upto_region 13 with (first
            | (go_at_call 19; refine (HPI.out _ _ _ _ _ _ HV2.out.at_ (by omega) (by omega)).mono ?_; rintro e w4 ⟨a4, c4, a5, c5, rfl, hat4, ho4, hb4⟩)
            | fail)
          have HD9 := Lib.hid (HPD.out ((i : Int) % 2) (by omega) (by omega))
          have hlt3 := HV2.out.hp.lt
          generalize putW d ((i : Int) % 2) s = d9 at *
          have HBA := below_al w4 (.cells #[.slice a4 d9.safe.length c4, .slice a5 d9.wait.length c5] 25)
          have HO5 := ho4.below HBA
          have HP5 := (HV2.out.hp.step hb4).step HBA
          have HX5 := (HX2.out.step hb4).step HBA
          have HB5 := below_alx (w1 := w) (HB2.out.trans (hb4.mono HB2.out.size)) (.cells #[.slice a4 d9.safe.length c4, .slice a5 d9.wait.length c5] 25)
          have HN5 := Hp.new w4 #[.slice a4 d9.safe.length c4, .slice a5 d9.wait.length c5] 25
          have HST := Lib.hid (Bx.set HP5 rfl HO5 hlt3)
          have HXS := Lib.hid ((HX5.far (c := 0) HG3.out.2 (.slice a4 d9.safe.length c4)).far (c := 1) HG3.out.2 (.slice a5 d9.wait.length c5))
          have HBS := Lib.hid ((HB5.setCell (p := ⟨b3, 0, none⟩) HG3.out.1 (.slice a4 d9.safe.length c4)).setCell (p := ⟨b3, 1, none⟩) HG3.out.1 (.slice a5 d9.wait.length c5))
          have y0 := HN5.cell 0 rfl
          have y1 := HN5.cell 1 rfl
          have z0 := HP5.fr 0
          have z1 := HP5.fr 1
          have z2 := HP5.cell 0 rfl
          have z3 := HP5.cell 1 rfl
          clear HBA HO5 HP5 HX5 HB5 HN5 hat4 ho4 hb4 q0 q1 HV2 HX2 HB2 HPI HPD hlt3
          generalize w4.heap.size = b8 at *
          generalize w4.alloc (.cells #[.slice a4 d9.safe.length c4, .slice a5 d9.wait.length c5] 25) = w5 at *
          go_wp2_with (first
            | (go_at_call 12; refine (HN14.out _ _).mono ?_; rintro e wn ⟨rfl, rfl⟩)
            | fail)
          go_roundw
          case rel => exact ⟨i + 1, d9, _, _, _, _, by go_num, by omega, HD9.out.1, HD9.out.2.1, HD9.out.2.2, HST.out, HXS.out, HBS.out⟩
          case measure => simp [RowKit.intOf]; omega
    · go_upto_region 17 with fail
      go_loopw [10] (fun s10 wr => ∃ (n : Nat), s10 = .int .i64 n ∧ n ≤ 243 ∧ Below wo.heap.size wo wr) (fun s10 _ => 243 - (RowKit.intOf s10).toNat)
      case atStart => exact ⟨0, rfl, Nat.zero_le _, Below.refl _ _⟩
      case round =>
        obtain ⟨n, rfl, hn, hbr⟩ := hrel
        have HBR := Lib.hid hbr
        clear hbr
        by_cases hn2 : n < 243
        · have q0 := (HX.out.step HBR.out).cell 3 rfl
          go_upto_region 20 with fail
          obtain ⟨v0, hv0, hw0⟩ : ∃ v : Int, (n : Int) % 3 = v ∧ v ≤ 100 := ⟨_, rfl, by omega⟩
          obtain ⟨v1, hv1, hw1⟩ : ∃ v : Int, (n : Int) / 3 % 3 = v ∧ v ≤ 100 := ⟨_, rfl, by omega⟩
          obtain ⟨v2, hv2, hw2⟩ : ∃ v : Int, (n : Int) / 9 % 3 = v ∧ v ≤ 100 := ⟨_, rfl, by omega⟩
          obtain ⟨v3, hv3, hw3⟩ : ∃ v : Int, (n : Int) / 27 % 3 = v ∧ v ≤ 100 := ⟨_, rfl, by omega⟩
          obtain ⟨v4, hv4, hw4⟩ : ∃ v : Int, (n : Int) / 81 % 3 + 3 * ((m : Int) % 2) = v ∧ v ≤ 100 := ⟨_, rfl, by omega⟩
          rw [hv0, hv1, hv2, hv3, hv4]
          have hnb : NB [v0, v1, v2, v3, v4] := by
            intro x hx
            simp only [List.mem_cons, List.not_mem_nil, or_false] at hx
            omega
          have HNB := Lib.hid hnb
          have HBA := below_al wr (.cells #[.int .i64 v0, .int .i64 v1, .int .i64 v2, .int .i64 v3, .int .i64 v4] 3)
          have HKS := Lib.hid (nums5 (Hp.new wr #[.int .i64 v0, .int .i64 v1, .int .i64 v2, .int .i64 v3, .int .i64 v4] 3))
          have HB6 := Lib.hid (HBR.out.trans (HBA.mono HBR.out.size))
          have HV6 := Lib.hid (HV.out.below HB6.out)
          have HLK := Lib.hid (show ([v0, v1, v2, v3, v4] : List Int).length = 5 from rfl)
          clear hv0 hv1 hv2 hv3 hv4 hw0 hw1 hw2 hw3 hw4 hnb HBA q0
          generalize [v0, v1, v2, v3, v4] = KS at *
          generalize wr.heap.size = bk at *
          generalize wr.alloc (.cells #[.int .i64 v0, .int .i64 v1, .int .i64 v2, .int .i64 v3, .int .i64 v4] 3) = w6 at *
          have q0 := HV6.out.hp.cell 0 rfl
          have q1 := HV6.out.hp.cell 1 rfl
          have HCR2 := Lib.hid (fun sa sc wa wc a n c wx (hx : DkAt wx d sa wa) (hk : NumsAt wx a KS) (hn : KS.length = n) => HCR.out d sa sc wa wc a n c KS wx hx HM.out hk hn HNB.out)
          have HRC2 := Lib.hid (fun sa sc wa wc a n c wx (hx : DkAt wx d sa wa) (hk : NumsAt wx a KS) (hn : KS.length = n) => HRC.out d sa sc wa wc a n c KS wx hx HM.out hk hn)
          have HLC := Lib.hid (show (setD d (kpF KS)).safe.length ≤ 1000 ∧ (setD d (kpF KS)).wait.length ≤ 1000 from ⟨by show (stl d.safe d.wait (kpF KS) d.wait.length).length ≤ 1000; rw [stl_len, HL.out.1]; decide, Nat.zero_le _⟩)
          generalize setD d (kpF KS) = dc at *
          have HEQ2 := Lib.hid (fun sa sb wa wb ca cb cc cd wx (h1 : DkAt wx dc sa wa) (h2 : DkAt wx dc sb wb) => HEQ.out dc sa sb wa wb ca cb cc cd wx h1 h2 HLC.out.1 HLC.out.2)
          go_upto_region 21 with (first
            | (go_at_call 22; refine (HCR2.out _ _ _ _ _ _ _ _ HV6.out.at_ HKS.out HLK.out).mono ?_; rintro e w7 ⟨a7, c7, a8, c8, rfl, hat7, _, hb7⟩)
            | fail)
          have HBA := below_al w7 (.cells #[.slice a7 dc.safe.length c7, .slice a8 dc.wait.length c8] 25)
          have HA8 := Lib.hid (hat7.below HBA)
          have HV8 := Lib.hid ((HV6.out.below hb7).below HBA)
          have HK8 := Lib.hid ((HKS.out.below hb7).below HBA)
          have HB8 := Lib.hid (below_alx (w1 := wo) (HB6.out.trans (hb7.mono HB6.out.size)) (.cells #[.slice a7 dc.safe.length c7, .slice a8 dc.wait.length c8] 25))
          have HN8 := Lib.hid (Hp.new w7 #[.slice a7 dc.safe.length c7, .slice a8 dc.wait.length c8] 25)
          clear hat7 hb7 HBA q0 q1 HV6 HKS HB6
          generalize w7.heap.size = b12 at *
          generalize w7.alloc (.cells #[.slice a7 dc.safe.length c7, .slice a8 dc.wait.length c8] 25) = w8 at *
          have HSS := Lib.hid (show ∀ wx, Below w8.heap.size w8 wx → (wx.cell? ⟨b12, 0, none⟩ = some (.slice a7 dc.safe.length c7) ∧ wx.cell? ⟨b12, 1, none⟩ = some (.slice a8 dc.wait.length c8) ∧ wx.cell? ⟨b3, 0, none⟩ = some (.slice a d.safe.length c) ∧ wx.cell? ⟨b3, 1, none⟩ = some (.slice a2_ d.wait.length c2_)) from fun wx hx => ⟨(HN8.out.step hx).cell 0 rfl, (HN8.out.step hx).cell 1 rfl, (HV8.out.hp.step hx).cell 0 rfl, (HV8.out.hp.step hx).cell 1 rfl⟩)
          go_region_held3 (fun wx => wx.cell? ⟨b12, 0, none⟩ = some (.slice a7 dc.safe.length c7) ∧ wx.cell? ⟨b12, 1, none⟩ = some (.slice a8 dc.wait.length c8) ∧ wx.cell? ⟨b3, 0, none⟩ = some (.slice a d.safe.length c) ∧ wx.cell? ⟨b3, 1, none⟩ = some (.slice a2_ d.wait.length c2_)) (first | exact HSS.out _ (Below.refl _ _) | exact HSS.out _ (below_dr _) | exact HSS.out _ hb9 | exact HSS.out _ hbE) (first
            | (go_at_call 12; refine (HN14.out _ _).mono ?_; rintro e wn ⟨rfl, rfl⟩)
            | (go_at_call 24; refine (HRC2.out _ _ _ _ _ _ _ _ (by first | exact HV8.out.at_ | exact HV8.out.at_.below (below_dr _)) (by first | exact HK8.out | exact HK8.out.below (below_dr _)) HLK.out).mono ?_; rintro e w9 ⟨a9, c9, aA, cA, rfl, hat9, _, hbx⟩; have hb9 : Below w8.heap.size w8 w9 := (below_dr w8).trans hbx; clear hbx)
            | (go_at_call 13; refine (HEQ2.out _ _ _ _ _ _ _ _ _ (HA8.out.below hb9) hat9).mono ?_; rintro e wE ⟨rfl, hbx⟩; have hbE : Below w8.heap.size w8 wE := hb9.trans (hbx.mono hb9.size); clear hbx)
            | fail)
          go_wp2_with fail
          go_roundw
          case rel => exact ⟨n + 1, by go_num, by omega, HB8.out.trans (hbE.mono HB8.out.size)⟩
          case measure => simp [RowKit.intOf]; omega
        · go_wp2_with (first
            | (go_at_call 18; refine (HWK.out _).mono ?_; rintro e wk ⟨rfl, hbk⟩)
            | fail)
          go_ret
          exact ⟨rfl, HB.out.trans ((HBR.out.trans (hbk.mono HBR.out.size)).mono HB.out.size)⟩
end Go.Proofs.Ytlmfieeemkahfaa
