/- the row that wakes -/
import Derived.Test.YtlmfieeemkahfaaDkWa
import Derived.Deep.RegionLaw
namespace Go.Proofs.Ytlmfieeemkahfaa
open Go.RowKit Go.Lib

set_option maxRecDepth 100000 in
set_option maxHeartbeats 16000000 in
theorem wakes14_any (w : World) : Calls Try.prog 18 #[] w (BoB true w) := by
  obtain ⟨i5, hi5, hz50, hz51, hz52⟩ := info_parts Try.infoByte14
  have HNEW := Lib.hid (fun wx => (New_any 3 wx).mono fun e w' h => DkE_shape h)
  rw [show btw 3 1 400 = true from by decide, if_pos rfl, if_pos rfl] at HNEW
  have HPUT := Lib.hid (fun sa sc wa wc wx (h : DkAt wx (newD 3) sa wa) => (Put_any (newD 3) sa sc wa wc 2 SX wx h (by rw [SX_size]; decide)).mono fun e w' h => DkE_shape h)
  rw [putE_ok (may_new 3 (by decide) (by decide)) (by decide) (by show (2 : Int) < ((List.replicate 3 (zerS 32)).length : Int); simp) (by show ([] : List SeD).length < 400; decide) SX_size, errD_zero] at HPUT
  have HCR := Lib.hid (fun sa sc wa wc wx (h : DkAt wx wk1 sa wa) => (Crash_any wk1 sa sc wa wc none 0 0 [] wx h ⟨fun j hj => absurd hj (by simp), Nat.zero_le _⟩ rfl (fun x hx => by cases hx)).mono fun e w' h => DkE_shape h)
  have HSY := Lib.hid (fun sa sc wa wc wx (h : DkAt wx wk1 sa wa) => (Sync_any wk1 sa sc wa wc wx h).mono fun e w' h => DkE_shape h)
  rw [errM_ok wk1_may, errD_zero] at HCR HSY
  have HRD := Lib.hid (fun sa sc wa wc wx (h : DkAt wx (setD wk1 oneF) sa wa) => Read_any (setD wk1 oneF) sa sc wa wc 2 wx h)
  unfold RdP at HRD
  rw [rd_wk.1, rd_wk.2] at HRD
  have hb0 : i5.bytes * 31 ≤ 281474976710656 := by rw [hz52]; decide
  have hbm : 31 ≤ maxLen := by unfold maxLen; decide
  have HB0 := Lib.hid hb0
  clear hb0
  have HN14 := Lib.hid (fun n wx => num14_any n wx)
  go_enter Try.func18, Try.ntmps18
  unfold DkD.v at *
  go_upto_region 2 with (first
    | (go_at_call 10; refine (HNEW.out _).mono ?_; rintro e w1 ⟨a1, c1, a2, c2, rfl, hat1, _, hb1⟩)
    | fail)
  have HD1 := Lib.hid (hat1.below (below_al w1 (.cells #[.slice a1 (newD 3).safe.length c1, .slice a2 (newD 3).wait.length c2] 25)))
  have HB1 := Lib.hid (below_alx (w1 := w) hb1 (.cells #[.slice a1 (newD 3).safe.length c1, .slice a2 (newD 3).wait.length c2] 25))
  have HX1 := Lib.hid (Hp.new w1 #[.slice a1 (newD 3).safe.length c1, .slice a2 (newD 3).wait.length c2] 25)
  have HG1 := Lib.hid hb1.size
  obtain ⟨b1, hb1e⟩ : ∃ b, w1.heap.size = b := ⟨_, rfl⟩
  rw [hb1e] at HX1 HG1 ⊢
  clear hat1 hb1 hb1e HNEW
  generalize w1.alloc (.cells #[.slice a1 (newD 3).safe.length c1, .slice a2 (newD 3).wait.length c2] 25) = w2 at *
  go_wp2_with (first | (at_make; refine wpList_make_full _ rfl _ _ 46 rfl w2.heap.size 5 i5 (.int .u8 0) 1 Try.underlying46 hi5 hz50 hz51 _ _ _ _ 31 rfl rfl rfl rfl HB0.out hbm (Nat.le_refl _) ?_) | fail)
  intro w3 hown hgrow
  have hb3 : Below w2.heap.size w2 w3 := (Below.refl _ _).grown hgrow (Nat.le_refl _) (fun k hk => by cases hk)
  rw [made_zero] at hown
  have hcv := conv_owned (P := Try.prog) w3 46 9 5 w2.heap.size w2.heap.size 31 31 _ Try.underlying46 Try.underlying5 Try.underlying9 hown
  rw [show (⟨(List.replicate 31 (0 : UInt8)).toArray⟩ : ByteArray) = zerS 31 from rfl] at hcv
  have HD3 := Lib.hid (HD1.out.below hb3)
  have HB3 := Lib.hid (HB1.out.trans (hb3.mono HB1.out.size))
  have HX3 := Lib.hid (HX1.out.step hb3)
  have hsz := zerS_size 31
  have hno : ¬ (9223372036854775807 < (zerS 31).size + (⟨#[120]⟩ : ByteArray).size) := by rw [hsz]; decide
  clear hown hgrow hb3
  go_upto_region 3 with fail
  rw [show zerS 31 ++ ⟨#[120]⟩ = SX from rfl]
  clear hcv hno hsz HX1 HB1 HD1
  have q0 := HX3.out.cell 0 rfl
  have q1 := HX3.out.cell 1 rfl
  have q2 := HX3.out.fr 0
  have q3 := HX3.out.fr 1
  have HW1 : RowKit.Hid (putW (newD 3) 2 SX = wk1) := Lib.hid rfl
  rw [HW1.out] at HPUT
  go_upto_region 4 with (first
    | (go_at_call 19; refine (HPUT.out _ _ _ _ _ HD3.out).mono ?_; rintro e w4 ⟨a4, c4, a5, c5, rfl, hat4, ho4, hb4⟩; have HX4 := Lib.hid (HX3.out.step hb4); have HB4 := Lib.hid (HB3.out.trans (hb4.mono HB3.out.size)); have HD4 := Lib.hid (ho4.set2 (b := b1) HX3.out.lt (.slice a4 wk1.safe.length c4) (.slice a5 wk1.wait.length c5)).at_; have HP4 := Lib.hid ((HX4.out.set 0 (.slice a4 wk1.safe.length c4)).set 1 (.slice a5 wk1.wait.length c5)); have HC4 := Lib.hid ((HB4.out.setCell (p := ⟨b1, 0, none⟩) HG1.out (.slice a4 wk1.safe.length c4)).setCell (p := ⟨b1, 1, none⟩) HG1.out (.slice a5 wk1.wait.length c5)); clear ho4; have HG4 := Lib.hid (show b1 < w4.heap.size from HX4.out.lt); clear q0 q1 q2 q3; have q0 := HX4.out.cell 0 rfl; have q1 := HX4.out.cell 1 rfl; have q2 := HX4.out.fr 0; have q3 := HX4.out.fr 1; clear hat4 hb4)
    | fail)
  generalize (w4.setCell ⟨b1, 0, none⟩ (.slice a4 wk1.safe.length c4)).setCell ⟨b1, 1, none⟩ (.slice a5 wk1.wait.length c5) = w5 at *
  clear q0 q1 q2 q3 HX4 HB4 HX3 HB3 HD3 HG4 HPUT HW1
  have q0 := HP4.out.cell 0 rfl
  have q1 := HP4.out.cell 1 rfl
  go_upto_region 5 with (first
    | (go_at_call 22; refine (HCR.out _ _ _ _ _ HD4.out).mono ?_; rintro e w6 ⟨a6, c6, a7, c7, rfl, hat6, _, hb6⟩; have HP6 := Lib.hid (HP4.out.step hb6); have HD6 := Lib.hid (HD4.out.below hb6); have HC6 := Lib.hid (HC4.out.trans (hb6.mono HC4.out.size)); have HS6 := Lib.hid hat6; clear q0 q1 hat6 hb6)
    | fail)
  have HD7 := Lib.hid (HD6.out.below (below_al w6 (.cells #[.slice a6 (setD wk1 (kpF [])).safe.length c6, .slice a7 (setD wk1 (kpF [])).wait.length c7] 25)))
  have HS7 := Lib.hid (HS6.out.below (below_al w6 (.cells #[.slice a6 (setD wk1 (kpF [])).safe.length c6, .slice a7 (setD wk1 (kpF [])).wait.length c7] 25)))
  have HP7 := Lib.hid (HP6.out.step (below_al w6 (.cells #[.slice a6 (setD wk1 (kpF [])).safe.length c6, .slice a7 (setD wk1 (kpF [])).wait.length c7] 25)))
  have HC7 := Lib.hid (below_alx (w1 := w) HC6.out (.cells #[.slice a6 (setD wk1 (kpF [])).safe.length c6, .slice a7 (setD wk1 (kpF [])).wait.length c7] 25))
  have HX7 := Lib.hid (Hp.new w6 #[.slice a6 (setD wk1 (kpF [])).safe.length c6, .slice a7 (setD wk1 (kpF [])).wait.length c7] 25)
  obtain ⟨b5, hb5e⟩ : ∃ b, w6.heap.size = b := ⟨_, rfl⟩
  rw [hb5e] at HX7 ⊢
  clear hb5e HD6 HS6 HP6 HC6 HD4 HP4 HC4
  generalize w6.alloc (.cells #[.slice a6 (setD wk1 (kpF [])).safe.length c6, .slice a7 (setD wk1 (kpF [])).wait.length c7] 25) = w7 at *
  have q0 := HP7.out.cell 0 rfl
  have q1 := HP7.out.cell 1 rfl
  go_upto_region 6 with (first
    | (go_at_call 20; refine (HSY.out _ _ _ _ _ HD7.out).mono ?_; rintro e w8 ⟨a8, c8, a9, c9, rfl, hat8, _, hb8⟩; have HX8 := Lib.hid (HX7.out.step hb8); have HS8 := Lib.hid (HS7.out.below hb8); have HC8 := Lib.hid (HC7.out.trans (hb8.mono HC7.out.size)); have HR8 := Lib.hid hat8; clear q0 q1 hat8 hb8)
    | fail)
  have HS9 := Lib.hid (HS8.out.below (below_al w8 (.cells #[.slice a8 (setD wk1 oneF).safe.length c8, .slice a9 (setD wk1 oneF).wait.length c9] 25)))
  have HR9 := Lib.hid (HR8.out.below (below_al w8 (.cells #[.slice a8 (setD wk1 oneF).safe.length c8, .slice a9 (setD wk1 oneF).wait.length c9] 25)))
  have HX9 := Lib.hid (HX8.out.step (below_al w8 (.cells #[.slice a8 (setD wk1 oneF).safe.length c8, .slice a9 (setD wk1 oneF).wait.length c9] 25)))
  have HC9 := Lib.hid (below_alx (w1 := w) HC8.out (.cells #[.slice a8 (setD wk1 oneF).safe.length c8, .slice a9 (setD wk1 oneF).wait.length c9] 25))
  have HY9 := Lib.hid (Hp.new w8 #[.slice a8 (setD wk1 oneF).safe.length c8, .slice a9 (setD wk1 oneF).wait.length c9] 25)
  obtain ⟨b7, hb7e⟩ : ∃ b, w8.heap.size = b := ⟨_, rfl⟩
  rw [hb7e] at HY9 ⊢
  clear hb7e HS8 HR8 HX8 HC8 HD7 HS7 HP7 HC7 HX7
  generalize w8.alloc (.cells #[.slice a8 (setD wk1 oneF).safe.length c8, .slice a9 (setD wk1 oneF).wait.length c9] 25) = w9 at *
  have q0 := HY9.out.cell 0 rfl
  have q1 := HY9.out.cell 1 rfl
  go_upto_region 7 with (first
    | (go_at_call 35; refine (HRD.out _ _ _ _ _ HR9.out).mono ?_; rintro e wr ⟨rfl, hbr⟩; have HSR := Lib.hid (HS9.out.below hbr); have HXR := Lib.hid (HX9.out.step hbr); have HCR2 := Lib.hid (HC9.out.trans (hbr.mono HC9.out.size)); clear q0 q1 hbr)
    | fail)
  have HSF := HSR.out.safe
  clear HS9 HR9 HX9 HC9 HY9 HSR HRD HCR HSY HB0
  have hlen : (setD wk1 (kpF [])).safe.length = 3 := by rw [wk_crash]; rfl
  obtain ⟨ba, off, rfl, hbl, hcell⟩ := HSF.cell 2 (by rw [hlen]; decide)
  rw [List.getElem_of_eq wk_crash] at hcell
  simp only [List.getElem_cons_succ, List.getElem_cons_zero] at hcell
  clear HSF
  rw [hlen] at HXR
  simp only [hlen]
  have q0 := HXR.out.cell 0 rfl
  have hmk := make32 hi5 hz50 hz51 hz52
  have hcv := conv32 (wr.alloc (.cells (madeCells #[Value.int .u8 0] 32) 5)) wr.heap.size (new_heap wr _ _)
  have hcv2 := conv32 (wr.alloc (.cells (madeCells #[Value.int .u8 0] 32) 5)).drew wr.heap.size (new_heap wr _ _)
  have hbA := below_al wr (.cells (madeCells #[Value.int .u8 0] 32) 5)
  have s0 : wr.cell? ⟨b5, 0, none⟩ = some (.slice (some ⟨ba, off, none⟩) 3 c6) ∧ wr.cell? ⟨ba, off + 2, none⟩ = some (.string (zerS 32)) := ⟨HXR.out.cell 0 rfl, hcell⟩
  have s1 : (wr.alloc (.cells (madeCells #[Value.int .u8 0] 32) 5)).cell? ⟨b5, 0, none⟩ = some (.slice (some ⟨ba, off, none⟩) 3 c6) ∧ (wr.alloc (.cells (madeCells #[Value.int .u8 0] 32) 5)).cell? ⟨ba, off + 2, none⟩ = some (.string (zerS 32)) := ⟨(HXR.out.step hbA).cell 0 rfl, (hbA.cell (p := ⟨ba, off + 2, none⟩) hbl).trans hcell⟩
  clear q0
  generalize Value.agg #[.slice a1 (newD 3).safe.length c1, .slice a2 (newD 3).wait.length c2] = g1
  generalize Value.agg #[.slice a4 wk1.safe.length c4, .slice a5 wk1.wait.length c5] = g4
  generalize Value.agg #[.slice (some ⟨ba, off, none⟩) 3 c6, .slice a7 (setD wk1 (kpF [])).wait.length c7] = g6
  generalize Value.agg #[.slice a8 (setD wk1 oneF).safe.length c8, .slice a9 (setD wk1 oneF).wait.length c9] = g8
  generalize Value.tuple #[g1, .int .i64 0] = h1
  generalize Value.tuple #[g4, .int .i64 0] = h4
  generalize Value.tuple #[g6, .int .i64 0] = h6
  generalize Value.tuple #[g8, .int .i64 0] = h8
  generalize Value.tuple #[.string SX, .int .i64 0] = h9
  generalize Value.slice (some ⟨w2.heap.size, 0, none⟩) 31 31 = h10
  have HEND := Lib.hid (show Below w.heap.size w (wr.alloc (.cells (madeCells #[Value.int .u8 0] 32) 5)).drew from (HCR2.out.trans (hbA.mono HCR2.out.size)).drew)
  have HEND2 := Lib.hid (show Below w.heap.size w (wr.drew.alloc (.cells (madeCells #[Value.int .u8 0] 32) 5)) from below_alx (w1 := w) HCR2.out.drew _)
  have HEND3 := Lib.hid (show Below w.heap.size w (wr.alloc (.cells (madeCells #[Value.int .u8 0] 32) 5)) from below_alx (w1 := w) HCR2.out _)
  clear hlen HXR HCR2 hbA hmk hcv
  have hmk := make32 hi5 hz50 hz51 hz52 wr.drew
  clear hi5 hz50 hz51 hz52 hbm
  obtain ⟨s00, s01⟩ := s0
  obtain ⟨s10, s11⟩ := s1
  go_region_law (first
    | (go_simp; go_at_call 12; refine (HN14.out _ _).mono ?_; rintro e wn ⟨rfl, rfl⟩)
    | fail)
  all_goals
    try go_simp
    go_wp2_with fail
    go_ret
    first
      | exact ⟨rfl, HEND.out⟩
      | exact ⟨rfl, HEND2.out⟩
      | exact ⟨rfl, HEND3.out⟩
end Go.Proofs.Ytlmfieeemkahfaa
