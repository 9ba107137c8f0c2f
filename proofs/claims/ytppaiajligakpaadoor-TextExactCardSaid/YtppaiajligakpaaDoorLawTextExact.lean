/- The law TextExact: the walk. -/
import Derived.Test.YtppaiajligakpaaDoorExactA
namespace Go.Proofs.YtppaiajligakpaaDoor
open Go.RowKit Go.Lib

set_option maxRecDepth 100000 in
set_option maxHeartbeats 4000000 in
theorem exact_walk (a0 : Option Addr) (c0 : Nat) (ss : List ByteArray) (a1 : Option Addr) (c1 : Nat) (rs : List Int) (a2 : Option Addr) (c2 : Nat) (zs : List Int) (w : World) (hT : Tabs w) (hz : IntsAt w a2 zs) (hr : RunesAt w a1 rs) (hs : StrsAt w a0 ss)
    (hn0 : a0 = none → ss.length = 0 ∧ c0 = 0) (hn1 : a1 = none → rs.length = 0 ∧ c1 = 0) (hn2 : a2 = none → zs.length = 0 ∧ c2 = 0) :
    Calls Tryd.prog 3 #[.agg #[.slice a0 ss.length c0, .slice a1 rs.length c1, .slice a2 zs.length c2]] w fun e w' => e = .returned (.bool true) ∧ Below w.heap.size w w' := by
  have hb0 : Below w.heap.size w (w.alloc (.cells #[.slice a0 ss.length c0, .slice a1 rs.length c1, .slice a2 zs.length c2] 26)) := (Below.refl _ _).alloc (Nat.le_refl _) _
  have hcS : (w.alloc (.cells #[.slice a0 ss.length c0, .slice a1 rs.length c1, .slice a2 zs.length c2] 26)).cell? ⟨w.heap.size, 0, none⟩ = some (.slice a0 ss.length c0) := by simp
  have hcR : (w.alloc (.cells #[.slice a0 ss.length c0, .slice a1 rs.length c1, .slice a2 zs.length c2] 26)).cell? ⟨w.heap.size, 1, none⟩ = some (.slice a1 rs.length c1) := by simp
  have hcN : (w.alloc (.cells #[.slice a0 ss.length c0, .slice a1 rs.length c1, .slice a2 zs.length c2] 26)).cell? ⟨w.heap.size, 2, none⟩ = some (.slice a2 zs.length c2) := by simp
  have hz0 : w.heap.size < (w.alloc (.cells #[.slice a0 ss.length c0, .slice a1 rs.length c1, .slice a2 zs.length c2] 26)).heap.size := by simp
  have HSS := Lib.hid (hs.below hb0)
  have HRS := Lib.hid (hr.below hb0)
  have HZS := Lib.hid (hz.below hb0)
  have HT := Lib.hid (hT.next hb0)
  have HN0 := Lib.hid hn0
  have HN1 := Lib.hid hn1
  have HN2 := Lib.hid hn2
  have hzl := hz.len
  clear hs hz hr hT hn0 hn1 hn2
  obtain ⟨i3, hi3, hz30, hz31, hz32⟩ := info_parts Tryd.info3
  obtain ⟨i9, hi9, hz90, hz91, hz92⟩ := info_parts Tryd.info9
  obtain ⟨i21, hi21, hz210, hz211, hz212⟩ := info_parts Tryd.info21
  go_enter Tryd.func3, Tryd.ntmps3
  go_wp2_with fail
  generalize w.alloc (.cells #[.slice a0 ss.length c0, .slice a1 rs.length c1, .slice a2 zs.length c2] 26) = W0 at *
  refine (Heavy3_any a0 c0 ss a1 c1 rs a2 c2 zs _ hzl HSS.out).mono ?_
  rintro e w1 ⟨hv, rfl, himp, hb1⟩
  cases hv with
  | true =>
    clear himp
    go_wp2
    go_ret
    exact ⟨rfl, hb0.trans (hb1.mono hb0.size)⟩
  | false =>
    obtain ⟨hz200, htot, hr200⟩ := himp rfl
    clear himp hzl
    have hsl : ss.length ≤ 3000 := by unfold total at htot; omega
    have HSM := Lib.hid (exT_small htot)
    have HC1 := Lib.hid hcR
    have HC2 := Lib.hid hcN
    clear htot hcR hcN
    have hS1 : w1.cell? ⟨w.heap.size, 0, none⟩ = some (.slice a0 ss.length c0) := (hb1.cell (p := ⟨w.heap.size, 0, none⟩) hz0).trans hcS
    have hown1 : (w1.alloc (.cells #[.string ⟨#[]⟩, .string ⟨#[97, 10, 98]⟩, .string ⟨#[128]⟩, .string ⟨#[127]⟩, .string ⟨#[239, 191, 189]⟩, .string ⟨#[237, 160, 128]⟩, .string ⟨#[195, 169, 230, 151, 165, 240, 159, 152, 128]⟩, .string ⟨#[97, 0]⟩] 9)).ownsRow w1.heap.size 9 1 (.slice (some ⟨w1.heap.size, 0, none⟩) 8 8) 8 (exT.map Value.string) :=
      World.ownsRow_lit (e := 9) (size := 1) (base := w1.heap.size) w1 #[.string ⟨#[]⟩, .string ⟨#[97, 10, 98]⟩, .string ⟨#[128]⟩, .string ⟨#[127]⟩, .string ⟨#[239, 191, 189]⟩, .string ⟨#[237, 160, 128]⟩, .string ⟨#[195, 169, 230, 151, 165, 240, 159, 152, 128]⟩, .string ⟨#[97, 0]⟩] 8 (Nat.le_refl _) (by decide) rfl
    have hbl := (hb1.alloc hb1.size (.cells #[.string ⟨#[]⟩, .string ⟨#[97, 10, 98]⟩, .string ⟨#[128]⟩, .string ⟨#[127]⟩, .string ⟨#[239, 191, 189]⟩, .string ⟨#[237, 160, 128]⟩, .string ⟨#[195, 169, 230, 151, 165, 240, 159, 152, 128]⟩, .string ⟨#[97, 0]⟩] 9))
    have hm1 : 8 + ss.length ≤ maxLen := by unfold maxLen; omega
    have hm2 : (8 + ss.length) * 16 ≤ 140737488355328 := by omega
    have hwl : w.heap.size < w1.heap.size := Nat.lt_of_lt_of_le hz0 hb1.size
    go_wp2_with (first | (at_builtin; (refine wpList_append_from rfl _ _ 22 rfl w1.heap.size 9 i9 (.string ⟨#[]⟩) 16 Tryd.underlying22 hi9 hz90 hz91 hz92 rfl _ _ _ rfl hown1 a0 ss.length c0 (ss.map Value.string) rfl (by simp) HN0.out (strs_news (HSS.out.below hbl)) (strs_one _) hm1 hm2 (by simp) ?_)) | fail)
    intro v3 w3 hown3 hgrow3
    have hb3 : Below W0.heap.size W0 w3 := hbl.grown hgrow3 hbl.size (fun q hq => Nat.le_trans hb1.size (own_ge hown1 q hq))
    obtain ⟨g3, cap3, hv3, _, hg3⟩ := hown3.form (by omega)
    subst hv3
    rw [← List.map_append] at hown3
    obtain ⟨TS, hTS⟩ : ∃ TS, exT ++ ss = TS := ⟨_, rfl⟩
    have hTl : 8 + ss.length = TS.length := by rw [← hTS, List.length_append]; rfl
    rw [hTS, hTl] at hown3
    rw [hTS] at HSM
    rw [hTl]
    have hTC : ∀ j (h : j < TS.length), w3.cell? ⟨g3, j, none⟩ = some (.string TS[j]) := fun j h => by
      rw [hown3.cellAt j (by omega)]; simp [h]
    have HTC := Lib.hid hTC
    clear hTC
    have hTl2 : TS.length ≤ 3008 := by omega
    have hwl3 : w.heap.size < w3.heap.size := Nat.lt_of_lt_of_le hz0 hb3.size
    have HB3 := Lib.hid hb3
    have HTW := Lib.hid (HT.out.next hb3)
    have HC13 := Lib.hid ((hb3.cell (p := ⟨w.heap.size, 1, none⟩) hz0).trans HC1.out)
    have HC23 := Lib.hid ((hb3.cell (p := ⟨w.heap.size, 2, none⟩) hz0).trans HC2.out)
    have HRS3 := Lib.hid (HRS.out.below hb3)
    have HZS3 := Lib.hid (HZS.out.below hb3)
    clear hown3 hgrow3 hown1 hm1 hm2 hTl hTS hbl hS1 hwl hb3 hb1 HC1 HC2 HRS HZS HSS HT hcS
    go_wp2_with fail
    go_loopw [4] (fun i wr => ∃ (k : Nat), k ≤ 16 ∧ k ≤ TS.length ∧ i = .int .i64 k ∧ Below w3.heap.size w3 wr) (fun i _ => 16 - (RowKit.intOf i).toNat)
    case atStart => exact ⟨0, by omega, by omega, rfl, Below.refl _ _⟩
    case round =>
      obtain ⟨k, hk16, hkT, rfl, hbel⟩ := hrel
      by_cases hlt : k < TS.length ∧ k < 16
      · obtain ⟨h1, h2⟩ := hlt
        have hc := (hbel.cell (p := ⟨g3, k, none⟩) hg3).trans (HTC.out k h1)
        have HTk := Lib.hid (HTC.out k h1)
        have hsz := HSM.out TS[k] (List.getElem_mem h1)
        generalize TS[k] = s at *
        have h2i : (k : Int) < 16 := by omega
        cases hok : okT s
        · have HRO := Lib.hid (fun w => Runes_bad s w hok)
          have HLN := Lib.hid (fun w => Len_bad s w hsz hok)
          have HRR := Lib.hid (fun w h => rRunes_bad s w h (by omega) hok)
          have HCK := Lib.hid (fun w => Check_bad s w hok)
          have HCU := Lib.hid (fun f t w => Cut_bad s f t w hok)
          clear hok
          all_goals
            go_wp2_with fail
            refine (HRO.out _).mono ?_
            rintro e w4 ⟨rfl, hb4⟩
            have hbw4 := hbel.trans (hb4.mono hbel.size)
            have hc4 := (hbw4.cell (p := ⟨g3, k, none⟩) hg3).trans HTk.out
            clear hc hb4 hbel
            go_wp2_with fail
            refine (HLN.out _).mono ?_
            rintro e w5 ⟨rfl, hb5⟩
            have hbw5 := hbw4.trans (hb5.mono hbw4.size)
            have hc5 := (hbw5.cell (p := ⟨g3, k, none⟩) hg3).trans HTk.out
            clear hc4 hb5 hbw4
            go_wp2_with fail
            refine (HRR.out _ (HTW.out.next hbw5)).mono ?_
            rintro e w6 ⟨rfl, hb6⟩
            have hbw6 := hbw5.trans (hb6.mono hbw5.size)
            have hc6 := (hbw6.cell (p := ⟨g3, k, none⟩) hg3).trans HTk.out
            clear hc5 hb6 hbw5
            go_wp2_with fail
            refine (HCK.out _).mono ?_
            rintro e w7 ⟨rfl, hb7⟩
            have hbw7 := hbw6.trans (hb7.mono hbw6.size)
            clear hc6 hb7 hbw6
            go_wp2_with (go_at_call 9; refine (num_any _ _).mono ?_; rintro e w9 ⟨rfl, rfl⟩)
            refine (Eq_none _).mono ?_
            rintro e w8 ⟨rfl, hb8⟩
            have hbw8 := hbw7.trans (hb8.mono hbw7.size)
            have hc8 := (hbw8.cell (p := ⟨w.heap.size, 2, none⟩) hwl3).trans HC23.out
            clear hb8 hbw7
            have hown9 : (w8.alloc (.cells #[.int .i64 0, .int .i64 1, .int .i64 0, .int .i64 1, .int .i64 (-1)] 3)).ownsRow w8.heap.size 3 1 (.slice (some ⟨w8.heap.size, 0, none⟩) 5 5) 5 (exB.map (Value.int .i64)) :=
              World.ownsRow_lit (e := 3) (size := 1) (base := w8.heap.size) w8 #[.int .i64 0, .int .i64 1, .int .i64 0, .int .i64 1, .int .i64 (-1)] 5 (Nat.le_refl _) (by decide) rfl
            have hbl9 := hbw8.alloc hbw8.size (.cells #[.int .i64 0, .int .i64 1, .int .i64 0, .int .i64 1, .int .i64 (-1)] 3)
            have hm1 : 5 + zs.length ≤ maxLen := by unfold maxLen; omega
            have hm2 : (5 + zs.length) * 8 ≤ 140737488355328 := by omega
            have hwl8 : w.heap.size < w8.heap.size := Nat.lt_of_lt_of_le hwl3 hbw8.size
            go_wp2_with fail
            refine (num_any _ _).mono ?_
            rintro e w9 ⟨rfl, rfl⟩
            go_wp2_with (first | (at_builtin; (refine wpList_append_from rfl _ _ 24 rfl w8.heap.size 3 i3 (.int .i64 0) 8 Tryd.underlying24 hi3 hz30 hz31 hz32 rfl _ _ _ rfl hown9 a2 zs.length c2 (zs.map (Value.int .i64)) rfl (by simp) HN2.out (ints_news (HZS3.out.below hbl9)) (ints_oneCell _ _) hm1 hm2 (by simp) ?_)) | fail)
            intro v9 w9 hown9' hgrow9
            have hb9 : Below w3.heap.size w3 w9 := hbl9.grown hgrow9 hbl9.size (fun q hq => Nat.le_trans hbw8.size (own_ge hown9 q hq))
            obtain ⟨g9, cap9, hv9, _, hg9⟩ := hown9'.form (by omega)
            subst hv9
            rw [← List.map_append] at hown9'
            obtain ⟨NS, hNS⟩ : ∃ NS, exB ++ zs = NS := ⟨_, rfl⟩
            have hNl : 5 + zs.length = NS.length := by rw [← hNS, List.length_append]; rfl
            rw [hNS, hNl] at hown9'
            rw [hNl]
            have hNC : ∀ j (h : j < NS.length), w9.cell? ⟨g9, j, none⟩ = some (.int .i64 NS[j]) := fun j h => by
              rw [hown9'.cellAt j (by omega)]; simp [h]
            have HNC := Lib.hid hNC
            have hNl2 : NS.length ≤ 205 := by omega
            have HB9 := Lib.hid hb9
            have hg39 : g3 < w9.heap.size := Nat.lt_of_lt_of_le hg3 hb9.size
            have HTk9 := Lib.hid ((hb9.cell (p := ⟨g3, k, none⟩) hg3).trans HTk.out)
            clear hNC hown9' hgrow9 hown9 hbl9 hm1 hm2 hNl hNS hc8 hbw8 hwl8 hb9
            go_wp2_with fail
            go_loopw [13] (fun i wq => ∃ (p : Nat), p ≤ 8 ∧ p ≤ NS.length ∧ i = .int .i64 p ∧ Below w9.heap.size w9 wq) (fun i _ => 8 - (RowKit.intOf i).toNat)
            case atStart => exact ⟨0, by omega, by omega, rfl, Below.refl _ _⟩
            case round =>
              obtain ⟨p, hp8, hpN, rfl, hbp⟩ := hrel
              by_cases hlp : p < NS.length ∧ p < 8
              · obtain ⟨hp1, hp2⟩ := hlp
                have hp2i : (p : Int) < 8 := by omega
                go_wp2_with fail
                go_loopw [14] (fun i wq => ∃ (q : Nat), q ≤ 8 ∧ q ≤ NS.length ∧ i = .int .i64 q ∧ Below w9.heap.size w9 wq) (fun i _ => 8 - (RowKit.intOf i).toNat)
                case atStart => exact ⟨0, by omega, by omega, rfl, hbp⟩
                case round =>
                  clear hbp
                  obtain ⟨q, hq8, hqN, rfl, hbq⟩ := hrel
                  by_cases hlq : q < NS.length ∧ q < 8
                  · obtain ⟨hq1, hq2⟩ := hlq
                    have hq2i : (q : Int) < 8 := by omega
                    have hct := (hbq.cell (p := ⟨g3, k, none⟩) hg39).trans HTk9.out
                    have hcx := (hbq.cell (p := ⟨g9, p, none⟩) hg9).trans (HNC.out p hp1)
                    have hcy := (hbq.cell (p := ⟨g9, q, none⟩) hg9).trans (HNC.out q hq1)
                    generalize NS[p] = x at *
                    generalize NS[q] = y at *
                    have hgt := cell_regrown hct
                    have hgx := cell_regrown hcx
                    have hgy := cell_regrown hcy
                    clear hct hcx hcy
                    as_aux_lemma =>
                      go_wp2_with fail
                      refine wp_region_quiet_below (by kernel_rfl) (by kernel_rfl) ?_
                      repeat (first | go_big_quiet_step (exact Calls.regrown_of (HCU.out _ _ _)) | quiet_step (exact Calls.regrown_of (HCU.out _ _ _)))
                      refine wpQuiet_nil ?_
                      intro _ hw'
                      obtain ⟨⟨dq, osq⟩, hw''⟩ := hw'
                      subst hw''
                      have hbv := hbq.trans ((below_regrown wr dq osq).mono hbq.size)
                      clear hgt hgx hgy hbq
                      generalize Sort.grow (redrawn wr dq) osq = wv at *
                      go_wp2_with fail
                      refine (num_any _ _).mono ?_
                      rintro e w10 ⟨rfl, rfl⟩
                      go_wp2_with fail
                      go_roundw
                      case rel => exact ⟨q + 1, by omega, by omega, by go_num, hbv⟩
                      case measure => simp [RowKit.intOf]; omega
                  · have hcase : (decide (q < NS.length) = false) ∨ (q < NS.length ∧ decide ((q : Int) < 8) = false) := by
                      by_cases h1 : q < NS.length
                      · right; exact ⟨h1, by simp; omega⟩
                      · left; simp; omega
                    clear hlq
                    as_aux_lemma =>
                      rcases hcase with hd | ⟨hd0, hd⟩
                      all_goals
                        go_wp2_with fail
                        go_roundw
                        case rel => exact ⟨p + 1, by omega, by omega, by go_num, hbq⟩
                        case measure => simp [RowKit.intOf]; omega
              · have hcase : (decide (p < NS.length) = false) ∨ (p < NS.length ∧ decide ((p : Int) < 8) = false) := by
                  by_cases h1 : p < NS.length
                  · right; exact ⟨h1, by simp; omega⟩
                  · left; simp; omega
                clear hlp
                as_aux_lemma =>
                  rcases hcase with hd | ⟨hd0, hd⟩
                  all_goals
                    go_wp2_with fail
                    go_roundw
                    case rel => exact ⟨k + 1, by omega, by omega, by go_num, HB9.out.trans (hbp.mono HB9.out.size)⟩
                    case measure => simp [RowKit.intOf]; omega
        · have HRO := Lib.hid (fun w => Runes_ok s w hok (by omega))
          have HLN := Lib.hid (fun L w hL => Len_okn s L w hsz hok hL)
          have HRR := Lib.hid (fun w h => rRunes_ok s w h (by omega) hok)
          have HCK := Lib.hid (fun w => Check_ok s w hok)
          have HCL := Lib.hid (fun f t w h => Cut_lim s f t w hok (by omega) h)
          have HCO := Lib.hid (fun f t w h1 h2 => Cut_ok s f t w hok (by omega) h1 h2)
          have hRl := rns_length s
          unfold RunesPost at HRO
          unfold RRunesPost at HRR
          clear hok
          generalize rns s = R at *
          obtain ⟨L, hL⟩ : ∃ L, R.length = L := ⟨_, rfl⟩
          have HL := Lib.hid hL
          rw [hL] at HRO HRR HCL hRl
          simp only [hL] at HCO
          have HLN2 := Lib.hid (fun w => HLN.out L w hL)
          clear hL HLN
          all_goals
            go_wp2_with fail
            refine (HRO.out _).mono ?_
            rintro e w4 ⟨ar, cr, rfl, hra, _, _, hb4⟩
            have HRA := Lib.hid hra
            have hbw4 := hbel.trans (hb4.mono hbel.size)
            have hc4 := (hbw4.cell (p := ⟨g3, k, none⟩) hg3).trans HTk.out
            clear hc hb4 hbel hra
            go_wp2_with fail
            refine (HLN2.out _).mono ?_
            rintro e w5 ⟨rfl, hb5⟩
            have HRA5 := Lib.hid (HRA.out.below hb5)
            have hbw5 := hbw4.trans (hb5.mono hbw4.size)
            have hc5 := (hbw5.cell (p := ⟨g3, k, none⟩) hg3).trans HTk.out
            clear hc4 hb5 hbw4 HRA
            go_wp2_with fail
            refine (HRR.out _ (HTW.out.next hbw5)).mono ?_
            rintro e w6 ⟨ar3, cr3, rfl, hra3, hcr3, _, hb6⟩
            have HRA6 := Lib.hid (HRA5.out.below hb6)
            have HW6 := Lib.hid hra3
            have hbw6 := hbw5.trans (hb6.mono hbw5.size)
            have hc6 := (hbw6.cell (p := ⟨g3, k, none⟩) hg3).trans HTk.out
            clear hc5 hb6 hbw5 hra3 HRA5
            go_wp2_with fail
            refine (HCK.out _).mono ?_
            rintro e w7 ⟨rfl, hb7⟩
            have HRA7 := Lib.hid (HRA6.out.below hb7)
            have HW7 := Lib.hid (HW6.out.below hb7)
            have hbw7 := hbw6.trans (hb7.mono hbw6.size)
            clear hc6 hb7 hbw6 HRA6 HW6
            go_wp2_with (go_at_call 9; refine (num_any _ _).mono ?_; rintro e w9 ⟨rfl, rfl⟩)
            refine (EqRunes_n _ _ _ _ L R _ HRA7.out HW7.out HL.out (by omega)).mono ?_
            rintro e w8 ⟨rfl, hb8⟩
            have HW8 := Lib.hid (HW7.out.below hb8)
            have hbw8 := hbw7.trans (hb8.mono hbw7.size)
            have hc8 := (hbw8.cell (p := ⟨w.heap.size, 2, none⟩) hwl3).trans HC23.out
            clear hb8 hbw7 HRA7 HW7
            have hown9 : (w8.alloc (.cells #[.int .i64 0, .int .i64 1, .int .i64 (L : Int), .int .i64 ((L : Int) + 1), .int .i64 (-1)] 3)).ownsRow w8.heap.size 3 1 (.slice (some ⟨w8.heap.size, 0, none⟩) 5 5) 5 ((exN L).map (Value.int .i64)) :=
              World.ownsRow_lit (e := 3) (size := 1) (base := w8.heap.size) w8 #[.int .i64 0, .int .i64 1, .int .i64 (L : Int), .int .i64 ((L : Int) + 1), .int .i64 (-1)] 5 (Nat.le_refl _) (by decide) rfl
            have hbl9 := hbw8.alloc hbw8.size (.cells #[.int .i64 0, .int .i64 1, .int .i64 (L : Int), .int .i64 ((L : Int) + 1), .int .i64 (-1)] 3)
            have hbl98 := (Below.refl w8.heap.size w8).alloc (Nat.le_refl _) (.cells #[.int .i64 0, .int .i64 1, .int .i64 (L : Int), .int .i64 ((L : Int) + 1), .int .i64 (-1)] 3)
            have hm1 : 5 + zs.length ≤ maxLen := by unfold maxLen; omega
            have hm2 : (5 + zs.length) * 8 ≤ 140737488355328 := by omega
            have hwl8 : w.heap.size < w8.heap.size := Nat.lt_of_lt_of_le hwl3 hbw8.size
            go_wp2_with fail
            refine (num_any _ _).mono ?_
            rintro e w9 ⟨rfl, rfl⟩
            go_wp2_with (first | (at_builtin; (refine wpList_append_from rfl _ _ 24 rfl w8.heap.size 3 i3 (.int .i64 0) 8 Tryd.underlying24 hi3 hz30 hz31 hz32 rfl _ _ _ rfl hown9 a2 zs.length c2 (zs.map (Value.int .i64)) rfl (by simp) HN2.out (ints_news (HZS3.out.below hbl9)) (ints_oneCell _ _) hm1 hm2 (by simp) ?_)) | fail)
            intro v9 w9 hown9' hgrow9
            have hb9 : Below w3.heap.size w3 w9 := hbl9.grown hgrow9 hbl9.size (fun q hq => Nat.le_trans hbw8.size (own_ge hown9 q hq))
            obtain ⟨g9, cap9, hv9, _, hg9⟩ := hown9'.form (by omega)
            subst hv9
            rw [← List.map_append] at hown9'
            obtain ⟨NS, hNS⟩ : ∃ NS, exN L ++ zs = NS := ⟨_, rfl⟩
            have hNl : 5 + zs.length = NS.length := by rw [← hNS, List.length_append]; rfl
            rw [hNS, hNl] at hown9'
            rw [hNl]
            have hNC : ∀ j (h : j < NS.length), w9.cell? ⟨g9, j, none⟩ = some (.int .i64 NS[j]) := fun j h => by
              rw [hown9'.cellAt j (by omega)]; simp [h]
            have HNC := Lib.hid hNC
            have hNl2 : NS.length ≤ 205 := by omega
            have HB9 := Lib.hid hb9
            have hg39 : g3 < w9.heap.size := Nat.lt_of_lt_of_le hg3 hb9.size
            have HTk9 := Lib.hid ((hb9.cell (p := ⟨g3, k, none⟩) hg3).trans HTk.out)
            have HW9 := Lib.hid (HW8.out.below (hbl98.grown hgrow9 hbl98.size (own_ge hown9)))
            clear HW8 hbl98
            clear hNC hown9' hgrow9 hown9 hbl9 hm1 hm2 hNl hNS hc8 hbw8 hwl8 hb9
            go_wp2_with fail
            go_loopw [13] (fun i wq => ∃ (p : Nat), p ≤ 8 ∧ p ≤ NS.length ∧ i = .int .i64 p ∧ Below w9.heap.size w9 wq) (fun i _ => 8 - (RowKit.intOf i).toNat)
            case atStart => exact ⟨0, by omega, by omega, rfl, Below.refl _ _⟩
            case round =>
              obtain ⟨p, hp8, hpN, rfl, hbp⟩ := hrel
              by_cases hlp : p < NS.length ∧ p < 8
              · obtain ⟨hp1, hp2⟩ := hlp
                have hp2i : (p : Int) < 8 := by omega
                go_wp2_with fail
                go_loopw [14] (fun i wq => ∃ (q : Nat), q ≤ 8 ∧ q ≤ NS.length ∧ i = .int .i64 q ∧ Below w9.heap.size w9 wq) (fun i _ => 8 - (RowKit.intOf i).toNat)
                case atStart => exact ⟨0, by omega, by omega, rfl, hbp⟩
                case round =>
                  clear hbp
                  obtain ⟨q, hq8, hqN, rfl, hbq⟩ := hrel
                  by_cases hlq : q < NS.length ∧ q < 8
                  · obtain ⟨hq1, hq2⟩ := hlq
                    have hq2i : (q : Int) < 8 := by omega
                    have hct := (hbq.cell (p := ⟨g3, k, none⟩) hg39).trans HTk9.out
                    have hcx := (hbq.cell (p := ⟨g9, p, none⟩) hg9).trans (HNC.out p hp1)
                    have hcy := (hbq.cell (p := ⟨g9, q, none⟩) hg9).trans (HNC.out q hq1)
                    generalize NS[p] = x at *
                    generalize NS[q] = y at *
                    have HWQ := Lib.hid (HW9.out.below hbq)
                    have hgt := cell_regrown hct
                    have hgx := cell_regrown hcx
                    have hgy := cell_regrown hcy
                    clear hct hcx hcy
                    by_cases hc : 0 ≤ x ∧ x ≤ y ∧ y ≤ (L : Int)
                    · obtain ⟨hx0, hxy, hyL⟩ := hc
                      obtain ⟨f, rfl⟩ : ∃ f : Nat, x = f := ⟨x.toNat, by omega⟩
                      obtain ⟨t, rfl⟩ : ∃ t : Nat, y = t := ⟨y.toNat, by omega⟩
                      have hft : f ≤ t := by omega
                      have htL : t ≤ L := by omega
                      have HCU := Lib.hid (fun w => HCO.out f t w hft htL)
                      have HSB := Lib.hid (HWQ.out.sub (cap := cr3) hft (by rw [HL.out]; exact htL) (by rw [HL.out]; exact hcr3))
                      have HSL := Lib.hid (sub_length hft (show t ≤ R.length by rw [HL.out]; exact htL))
                      generalize sub R f t = R2 at *
                      obtain ⟨M, hM⟩ : ∃ M, mk R2 = M := ⟨_, rfl⟩
                      rw [hM] at HCU
                      have HM := Lib.hid hM
                      clear hM
                      have d2 : decide (f ≤ t) = true := decide_eq_true hft
                      have d3 : decide (t ≤ L) = true := decide_eq_true htL
                      as_aux_lemma =>
                        go_wp2_with fail
                        refine wp_region_quiet_below (by kernel_rfl) (by kernel_rfl) ?_
                        repeat (first | go_big_quiet_step (exact Calls.regrown_of (HCU.out _)) | quiet_step (exact Calls.regrown_of (HCU.out _)))
                        refine wpQuiet_nil ?_
                        intro _ hw'
                        obtain ⟨⟨dq, osq⟩, hw''⟩ := hw'
                        subst hw''
                        have hbv := hbq.trans ((below_regrown wr dq osq).mono hbq.size)
                        have HSV := Lib.hid (HSB.out.below (below_regrown wr dq osq))
                        have hgx6 := cell_regrown (hgx dq osq)
                        have hgy6 := cell_regrown (hgy dq osq)
                        clear hgt hgx hgy hbq HSB HWQ
                        generalize Sort.grow (redrawn wr dq) osq = wv at *
                        go_wp2_with fail
                        refine wp_region_quiet_below (by kernel_rfl) (by kernel_rfl) ?_
                        repeat (first | go_big_quiet_step (fail) | quiet_step (fail))
                        refine wpQuiet_nil ?_
                        intro _ hw'
                        obtain ⟨⟨dq, osq⟩, hw''⟩ := hw'
                        subst hw''
                        have hbu := hbv.trans ((below_regrown wv dq osq).mono hbv.size)
                        have HSU := Lib.hid (HSV.out.below (below_regrown wv dq osq))
                        have hgx7 := cell_regrown (hgx6 dq osq)
                        have hgy7 := cell_regrown (hgy6 dq osq)
                        clear hgx6 hgy6 hbv HSV
                        generalize Sort.grow (redrawn wv dq) osq = wu at *
                        go_wp2_with fail
                        have htc : t ≤ cr3 := by omega
                        by_cases hcf : cr3 = f
                        · subst hcf
                          have hh := HSU.out
                          rw [if_pos rfl] at hh
                          have HMK := Lib.hid (fun cc d o => rMake_b ar3 cc 0 R2 M _ (hh.below (below_regrown wu d o)) (by rw [HSL.out]; omega) (by omega) HM.out)
                          clear hh
                          refine wp_region_quiet_below (by kernel_rfl) (by kernel_rfl) ?_
                          repeat (first | go_big_quiet_step (exact Calls.regrown_of (HMK.out _ _ _)) | quiet_step (exact Calls.regrown_of (HMK.out _ _ _)))
                          refine wpQuiet_nil ?_
                          intro _ hw'
                          obtain ⟨⟨dq, osq⟩, hw''⟩ := hw'
                          subst hw''
                          have hbt := hbu.trans ((below_regrown wu dq osq).mono hbu.size)
                          clear hgx7 hgy7 hbu HSU
                          generalize Sort.grow (redrawn wu dq) osq = wt at *
                          go_wp2_with fail
                          refine (num_any _ _).mono ?_
                          rintro e w10 ⟨rfl, rfl⟩
                          go_wp2_with fail
                          go_roundw
                          case rel =>
                            first
                              | exact ⟨q + 1, by omega, by omega, by go_num, hbt⟩
                              | ((repeat apply Exists.intro); exact ⟨⟨q + 1, by omega, by omega, by go_num, hbt⟩, rfl⟩)
                          case measure => simp [RowKit.intOf]; omega
                        · have hh := HSU.out
                          rw [if_neg hcf] at hh
                          have HMK := Lib.hid (fun d o => rMake_b (ar3.map (·.add f)) (cr3 - f) (t - f) R2 M _ (hh.below (below_regrown wu d o)) HSL.out (by omega) HM.out)
                          clear hh
                          refine wp_region_quiet_below (by kernel_rfl) (by kernel_rfl) ?_
                          repeat (first | go_big_quiet_step (exact Calls.regrown_of (HMK.out _ _)) | quiet_step (exact Calls.regrown_of (HMK.out _ _)))
                          refine wpQuiet_nil ?_
                          intro _ hw'
                          obtain ⟨⟨dq, osq⟩, hw''⟩ := hw'
                          subst hw''
                          have hbt := hbu.trans ((below_regrown wu dq osq).mono hbu.size)
                          clear hgx7 hgy7 hbu HSU
                          generalize Sort.grow (redrawn wu dq) osq = wt at *
                          go_wp2_with fail
                          refine (num_any _ _).mono ?_
                          rintro e w10 ⟨rfl, rfl⟩
                          go_wp2_with fail
                          go_roundw
                          case rel =>
                            first
                              | exact ⟨q + 1, by omega, by omega, by go_num, hbt⟩
                              | ((repeat apply Exists.intro); exact ⟨⟨q + 1, by omega, by omega, by go_num, hbt⟩, rfl⟩)
                          case measure => simp [RowKit.intOf]; omega
                    · have hcase : decide ((0 : Int) ≤ x) = false ∨ (decide ((0 : Int) ≤ x) = true ∧ decide (x ≤ y) = false) ∨ (decide ((0 : Int) ≤ x) = true ∧ decide (x ≤ y) = true ∧ decide (y ≤ (L : Int)) = false) := by
                        by_cases e1 : 0 ≤ x
                        · by_cases e2 : x ≤ y
                          · right; right; exact ⟨decide_eq_true e1, decide_eq_true e2, decide_eq_false (fun e3 => hc ⟨e1, e2, e3⟩)⟩
                          · right; left; exact ⟨decide_eq_true e1, decide_eq_false e2⟩
                        · left; exact decide_eq_false e1
                      have HCU := Lib.hid (fun w => HCL.out x y w (by omega))
                      clear hc
                      rcases hcase with d1 | ⟨d1, d2⟩ | ⟨d1, d2, d3⟩
                      all_goals
                        as_aux_lemma =>
                          go_wp2_with fail
                          refine wp_region_quiet_below (by kernel_rfl) (by kernel_rfl) ?_
                          repeat (first | go_big_quiet_step (exact Calls.regrown_of (HCU.out _)) | quiet_step (exact Calls.regrown_of (HCU.out _)))
                          refine wpQuiet_nil ?_
                          intro _ hw'
                          obtain ⟨⟨dq, osq⟩, hw''⟩ := hw'
                          subst hw''
                          have hbv := hbq.trans ((below_regrown wr dq osq).mono hbq.size)
                          have hgx6 := cell_regrown (hgx dq osq)
                          have hgy6 := cell_regrown (hgy dq osq)
                          clear hgt hgx hgy hbq HWQ
                          generalize Sort.grow (redrawn wr dq) osq = wv at *
                          go_wp2_with fail
                          refine wp_region_quiet_below (by kernel_rfl) (by kernel_rfl) ?_
                          repeat (first | go_big_quiet_step (fail) | quiet_step (fail))
                          refine wpQuiet_nil ?_
                          intro _ hw'
                          obtain ⟨⟨dq, osq⟩, hw''⟩ := hw'
                          subst hw''
                          have hbu := hbv.trans ((below_regrown wv dq osq).mono hbv.size)
                          clear hgx6 hgy6 hbv
                          generalize Sort.grow (redrawn wv dq) osq = wu at *
                          go_wp2_with fail
                          refine (num_any _ _).mono ?_
                          rintro e w10 ⟨rfl, rfl⟩
                          go_wp2_with fail
                          go_roundw
                          case rel => exact ⟨q + 1, by omega, by omega, by go_num, hbu⟩
                          case measure => simp [RowKit.intOf]; omega
                  · have hcase : (decide (q < NS.length) = false) ∨ (q < NS.length ∧ decide ((q : Int) < 8) = false) := by
                      by_cases h1 : q < NS.length
                      · right; exact ⟨h1, by simp; omega⟩
                      · left; simp; omega
                    clear hlq
                    as_aux_lemma =>
                      rcases hcase with hd | ⟨hd0, hd⟩
                      all_goals
                        go_wp2_with fail
                        go_roundw
                        case rel => exact ⟨p + 1, by omega, by omega, by go_num, hbq⟩
                        case measure => simp [RowKit.intOf]; omega
              · have hcase : (decide (p < NS.length) = false) ∨ (p < NS.length ∧ decide ((p : Int) < 8) = false) := by
                  by_cases h1 : p < NS.length
                  · right; exact ⟨h1, by simp; omega⟩
                  · left; simp; omega
                clear hlp
                as_aux_lemma =>
                  rcases hcase with hd | ⟨hd0, hd⟩
                  all_goals
                    go_wp2_with fail
                    go_roundw
                    case rel => exact ⟨k + 1, by omega, by omega, by go_num, HB9.out.trans (hbp.mono HB9.out.size)⟩
                    case measure => simp [RowKit.intOf]; omega
      · have hcase : (decide (k < TS.length) = false) ∨ (k < TS.length ∧ decide ((k : Int) < 16) = false) := by
          by_cases h1 : k < TS.length
          · right; exact ⟨h1, by simp; omega⟩
          · left; simp; omega
        clear hlt
        have hcr := (hbel.cell (p := ⟨w.heap.size, 1, none⟩) hwl3).trans HC13.out
        have hown9 : (wr.alloc (.cells #[.int .i32 0, .int .i32 9, .int .i32 10, .int .i32 31, .int .i32 32, .int .i32 126, .int .i32 127, .int .i32 128, .int .i32 55295, .int .i32 55296, .int .i32 57343, .int .i32 57344, .int .i32 65532, .int .i32 65533, .int .i32 65534, .int .i32 1114111, .int .i32 1114112, .int .i32 (-1)] 21)).ownsRow wr.heap.size 21 1 (.slice (some ⟨wr.heap.size, 0, none⟩) 18 18) 18 (rv exR) :=
          World.ownsRow_lit (e := 21) (size := 1) (base := wr.heap.size) wr #[.int .i32 0, .int .i32 9, .int .i32 10, .int .i32 31, .int .i32 32, .int .i32 126, .int .i32 127, .int .i32 128, .int .i32 55295, .int .i32 55296, .int .i32 57343, .int .i32 57344, .int .i32 65532, .int .i32 65533, .int .i32 65534, .int .i32 1114111, .int .i32 1114112, .int .i32 (-1)] 18 (Nat.le_refl _) (by decide) rfl
        have hbl9 := hbel.alloc hbel.size (.cells #[.int .i32 0, .int .i32 9, .int .i32 10, .int .i32 31, .int .i32 32, .int .i32 126, .int .i32 127, .int .i32 128, .int .i32 55295, .int .i32 55296, .int .i32 57343, .int .i32 57344, .int .i32 65532, .int .i32 65533, .int .i32 65534, .int .i32 1114111, .int .i32 1114112, .int .i32 (-1)] 21)
        have hm1 : 18 + rs.length ≤ maxLen := by unfold maxLen; omega
        have hm2 : (18 + rs.length) * 4 ≤ 140737488355328 := by omega
        have hwl8 : w.heap.size < wr.heap.size := Nat.lt_of_lt_of_le hwl3 hbel.size
        go_upto_region 5 with fail
        go_cut [39] (fun s39 wx => s39 = .bool false ∧ wr = wx)
        case first =>
          rcases hcase with hd | ⟨hd0, hd⟩
          all_goals
            go_wp2_with fail
            go_meet
            exact ⟨rfl, rfl⟩
        case rest =>
          obtain ⟨rfl, rfl⟩ := hcut
          clear hcase
          go_wp2_with (first | (at_builtin; (refine wpList_append_from rfl _ _ 23 rfl wr.heap.size 21 i21 (.int .i32 0) 4 Tryd.underlying23 hi21 hz210 hz211 hz212 rfl _ _ _ rfl hown9 a1 rs.length c1 (rv rs) rfl (by simp [rv]) HN1.out (runes_news (HRS3.out.below hbl9)) (rv_one _) hm1 hm2 (by simp) ?_)) | fail)
          intro v9 w9 hown9' hgrow9
          have hb9 : Below w3.heap.size w3 w9 := hbl9.grown hgrow9 hbl9.size (fun q hq => Nat.le_trans hbel.size (own_ge hown9 q hq))
          obtain ⟨g9, cap9, hv9, _, hg9⟩ := hown9'.form (by omega)
          subst hv9
          rw [show rv exR ++ rv rs = rv (exR ++ rs) from by simp [rv]] at hown9'
          have HR32 := Lib.hid (exR_i32 HRS3.out.i32)
          obtain ⟨RS, hRS⟩ : ∃ RS, exR ++ rs = RS := ⟨_, rfl⟩
          have hRl : 18 + rs.length = RS.length := by rw [← hRS, List.length_append]; rfl
          rw [hRS, hRl] at hown9'
          rw [hRS] at HR32
          rw [hRl]
          have hRC : ∀ j (h : j < RS.length), w9.cell? ⟨g9, j, none⟩ = some (.int .i32 RS[j]) := fun j h => by
            rw [hown9'.cellAt j (by omega), rv_get h]
          have HRC := Lib.hid hRC
          have hRl2 : RS.length ≤ 218 := by omega
          have hRl1 : 18 ≤ RS.length := by omega
          have HB9 := Lib.hid (HB3.out.trans (hb9.mono HB3.out.size))
          clear hRC hown9' hgrow9 hown9 hbl9 hm1 hm2 hRl hRS hcr hbel hwl8 hb9
          go_wp2_with fail
          go_loopw [20] (fun i wq => ∃ (p : Nat), p ≤ 40 ∧ p ≤ RS.length ∧ i = .int .i64 p ∧ Below w9.heap.size w9 wq) (fun i _ => 40 - (RowKit.intOf i).toNat)
          case atStart => exact ⟨0, by omega, by omega, rfl, Below.refl _ _⟩
          case round =>
            obtain ⟨p, hp8, hpN, rfl, hbp⟩ := hrel
            by_cases hlp : p < RS.length ∧ p < 40
            · obtain ⟨hp1, hp2⟩ := hlp
              have hp2i : (p : Int) < 40 := by omega
              obtain ⟨m, hm⟩ : ∃ m, (p + 1) % RS.length = m := ⟨_, rfl⟩
              have hmR : m < RS.length := by rw [← hm]; exact Nat.mod_lt _ (by omega)
              have hmod : ((p : Int) + 1).tmod (RS.length : Int) = (m : Int) := by
                rw [Int.tmod_eq_emod_of_nonneg (by omega), ← hm]; simp
              have HMD := Lib.hid hmod
              have hcp := (hbp.cell (p := ⟨g9, p, none⟩) hg9).trans (HRC.out p hp1)
              have hcm := (hbp.cell (p := ⟨g9, m, none⟩) hg9).trans (HRC.out m hmR)
              have hr1 := HR32.out RS[p] (List.getElem_mem hp1)
              have hr2 := HR32.out RS[m] (List.getElem_mem hmR)
              have HCP := Lib.hid (HRC.out p hp1)
              have HCM := Lib.hid (HRC.out m hmR)
              clear hm hmod
              generalize RS[p] = r at *
              generalize RS[m] = r2 at *
              have hq := errR_ok r
              have hgp := cell_regrown hcp
              have hgm := cell_regrown hcm
              clear hcp hcm
              go_wp2_with fail
              refine wp_region_quiet_below (by kernel_rfl) (by kernel_rfl) ?_
              repeat (first | go_big_quiet_step (first | exact Calls.regrown_of (num_below _ _) | exact Calls.regrown_of (tRune_below _ _) | exact Calls.regrown_of (rRune_below _ _)) | quiet_step (first | exact Calls.regrown_of (num_below _ _) | exact Calls.regrown_of (tRune_below _ _) | exact Calls.regrown_of (rRune_below _ _)))
              refine wpQuiet_nil ?_
              intro _ hw'
              obtain ⟨⟨dq, osq⟩, hw''⟩ := hw'
              subst hw''
              have hbv := hbp.trans ((below_regrown wr dq osq).mono hbp.size)
              have hcp6 := hgp dq osq
              have hcm6 := hgm dq osq
              clear hgp hgm hbp hq
              generalize Sort.grow (redrawn wr dq) osq = wv at *
              obtain ⟨out, err, hMK, hME⟩ := Make_3ex [r, 97, r2] rfl
              have HMK := Lib.hid hMK
              have HME := Lib.hid hME
              clear hMK hME
              go_upto_region 36 with fail
              go_cut [21, 22] (fun s21 s22 wx => s21 = S out ∧ s22 = .int .i64 err ∧ Below w9.heap.size w9 wx)
              case first =>
                have hmod := HMD.out
                have hRne : RS ≠ [] := by intro h; rw [h] at hRl1; simp at hRl1
                have hw1 : IntKind.i64.wrap ((p : Int) + 1) = (p : Int) + 1 := IntWalk.i64_in _ (by omega)
                have HM3 := Lib.hid (HMK.out wv.heap.size 3 _ (three_drew wv r 97 r2 hr1 (by decide) hr2))
                have HBE := Lib.hid ((hbv.alloc hbv.size (.cells #[.int .i32 r, .int .i32 97, .int .i32 r2] 21)).drew)
                clear hbv
                all_goals
                  go_region_with (go_at_call 16; refine HM3.out.mono ?_; rintro e w10 ⟨rfl, hb10⟩)
                  all_goals
                    go_wp2_with fail
                    go_meet
                    exact ⟨rfl, rfl, HBE.out.trans (hb10.mono HBE.out.size)⟩
              case rest =>
                obtain ⟨rfl, rfl, hbf⟩ := hcut
                clear hcp6 hcm6 hbv HMK
                generalize hw10 : wc = w10 at *
                clear hw10
                have hcp7 := (hbf.cell (p := ⟨g9, p, none⟩) hg9).trans HCP.out
                have hcm7 := (hbf.cell (p := ⟨g9, m, none⟩) hg9).trans HCM.out
                go_wp2_with fail
                have hmod := HMD.out
                have hRne : RS ≠ [] := by intro h; rw [h] at hRl1; simp at hRl1
                have hw1 : IntKind.i64.wrap ((p : Int) + 1) = (p : Int) + 1 := IntWalk.i64_in _ (by omega)
                refine wp_region_still_tail 12 (by kernel_rfl) (by kernel_rfl) ?_
                simp only [List.take_succ_cons, List.take_zero, List.drop_succ_cons, List.drop_zero]
                repeat still_step
                refine wpStill_nil ?_
                clear hmod hRne hw1
                change wpList _ _ _ _ _ w10.drew
                have hbg := hbf.drew
                clear hcp7 hcm7 hbf
                generalize w10.drew = we at *
                have HA3 := Lib.hid (three_at we r 97 r2 hr1 (by decide) hr2)
                have hbh := hbg.alloc hbg.size (.cells #[.int .i32 r, .int .i32 97, .int .i32 r2] 21)
                go_wp2_with fail
                generalize we.alloc (.cells #[.int .i32 r, .int .i32 97, .int .i32 r2] 21) = wf at *
                rcases HME.out with ⟨h3, rfl, rfl⟩ | ⟨h3, rfl, rfl⟩
                · have H3 := Lib.hid h3
                  clear h3
                  as_aux_lemma =>
                    refine (rAll_3 we.heap.size 3 [r, 97, r2] true wf HA3.out rfl H3.out).mono ?_
                    rintro e w11 ⟨rfl, rfl⟩
                    go_wp2_with fail
                    refine (rMake_m (some ⟨we.heap.size, 0, none⟩) 3 3 [r, 97, r2] wf HA3.out rfl (by decide)).mono ?_
                    rintro e w11 ⟨rfl, rfl⟩
                    go_wp2_with fail
                    refine (num_any _ _).mono ?_
                    rintro e w11 ⟨rfl, rfl⟩
                    go_wp2_with fail
                    go_roundw
                    case rel => exact ⟨p + 1, by omega, by omega, by go_num, hbh⟩
                    case measure => simp [RowKit.intOf]; omega
                · have H3 := Lib.hid h3
                  clear h3
                  as_aux_lemma =>
                    refine (rAll_3 we.heap.size 3 [r, 97, r2] false wf HA3.out rfl H3.out).mono ?_
                    rintro e w11 ⟨rfl, rfl⟩
                    go_wp2_with fail
                    refine (num_any _ _).mono ?_
                    rintro e w11 ⟨rfl, rfl⟩
                    go_wp2_with fail
                    go_roundw
                    case rel => exact ⟨p + 1, by omega, by omega, by go_num, hbh⟩
                    case measure => simp [RowKit.intOf]; omega
            · have hcase : (decide (p < RS.length) = false) ∨ (p < RS.length ∧ decide ((p : Int) < 40) = false) := by
                by_cases h1 : p < RS.length
                · right; exact ⟨h1, by simp; omega⟩
                · left; simp; omega
              clear hlp
              as_aux_lemma =>
                rcases hcase with hd | ⟨hd0, hd⟩
                all_goals
                  go_wp2_with fail
                  refine (wakes_any _).mono ?_
                  rintro e w10 ⟨rfl, hb10⟩
                  go_wp2
                  go_ret
                  exact ⟨rfl, hb0.trans ((HB9.out.trans ((hbp.trans (hb10.mono hbp.size)).mono HB9.out.size)).mono hb0.size)⟩
end Go.Proofs.YtppaiajligakpaaDoor
