/- The law NumberExact: the walk. -/
import Derived.Test.YtanegkjmalbhcaaLawExactA
namespace Go.Proofs.Ytanegkjmalbhcaa
open Go.RowKit Go.Lib

set_option maxRecDepth 100000 in
set_option maxHeartbeats 4000000 in
theorem exact_walk (a0 : Option Addr) (c0 : Nat) (zs : List Int) (a1 : Option Addr) (c1 : Nat) (ss : List ByteArray) (w : World) (hz : IntsAt w a0 zs) (hs : StrsAt w a1 ss)
    (hn0 : a0 = none → zs.length = 0 ∧ c0 = 0) (hn1 : a1 = none → ss.length = 0 ∧ c1 = 0) :
    Calls Try.prog 3 #[.agg #[.slice a0 zs.length c0, .slice a1 ss.length c1]] w fun e w' => e = .returned (.bool true) ∧ Below w.heap.size w w' := by
  have hb0 : Below w.heap.size w (w.alloc (.cells #[.slice a0 zs.length c0, .slice a1 ss.length c1] 25)) := (Below.refl _ _).alloc (Nat.le_refl _) _
  have hcN : (w.alloc (.cells #[.slice a0 zs.length c0, .slice a1 ss.length c1] 25)).cell? ⟨w.heap.size, 0, none⟩ = some (.slice a0 zs.length c0) := by simp
  have hcS : (w.alloc (.cells #[.slice a0 zs.length c0, .slice a1 ss.length c1] 25)).cell? ⟨w.heap.size, 1, none⟩ = some (.slice a1 ss.length c1) := by simp
  have hz0 : (w.alloc (.cells #[.slice a0 zs.length c0, .slice a1 ss.length c1] 25)).heap.size = w.heap.size + 1 := by simp
  have HZS := Lib.hid (hz.below hb0)
  have HSS := Lib.hid (hs.below hb0)
  have HN0 := Lib.hid hn0
  have HN1 := Lib.hid hn1
  have hzl := hz.len
  clear hz hs hn0 hn1
  go_enter Try.func3, Try.ntmps3
  go_wp2_with fail
  generalize w.alloc (.cells #[.slice a0 zs.length c0, .slice a1 ss.length c1] 25) = W0 at *
  have HZ := Lib.hid hz0
  clear hz0
  refine (Heavy_any a0 c0 zs a1 c1 ss _ hzl HSS.out).mono ?_
  rintro e w1 ⟨hv, rfl, hlight, hb1⟩
  cases hv with
  | true =>
    go_wp2
    go_ret
    exact ⟨rfl, hb0.trans (hb1.mono hb0.size)⟩
  | false =>
    obtain ⟨hn200, htot⟩ := hlight rfl
    clear hlight hzl
    obtain ⟨i3, hi3, hz30, hz31, hz32⟩ := info_parts Try.info3
    obtain ⟨i9, hi9, hz90, hz91, hz92⟩ := info_parts Try.info9
    have hN1 : w1.cell? ⟨w.heap.size, 0, none⟩ = some (.slice a0 zs.length c0) := (hb1.cell (by have := HZ.out; simp; omega)).trans hcN
    have hown1 : (w1.alloc (.cells #[.int .i64 0, .int .i64 1, .int .i64 127, .int .i64 128, .int .i64 16383, .int .i64 16384, .int .i64 268435456, .int .i64 268435457, .int .i64 (-1), .int .i64 4611686018427387904] 3)).ownsRow w1.heap.size 3 1 (.slice (some ⟨w1.heap.size, 0, none⟩) 10 10) 10 (lawNs.map (Value.int .i64)) :=
      World.ownsRow_lit (e := 3) (size := 1) (base := w1.heap.size) w1 #[.int .i64 0, .int .i64 1, .int .i64 127, .int .i64 128, .int .i64 16383, .int .i64 16384, .int .i64 268435456, .int .i64 268435457, .int .i64 (-1), .int .i64 4611686018427387904] 10 (Nat.le_refl _) (by decide) rfl
    have hbl := (hb1.alloc hb1.size (.cells #[.int .i64 0, .int .i64 1, .int .i64 127, .int .i64 128, .int .i64 16383, .int .i64 16384, .int .i64 268435456, .int .i64 268435457, .int .i64 (-1), .int .i64 4611686018427387904] 3))
    have hm1 : 10 + zs.length ≤ maxLen := by unfold maxLen; omega
    have hm2 : (10 + zs.length) * 8 ≤ 140737488355328 := by omega
    have hwl : w.heap.size < w1.heap.size := by have := HZ.out; have := hb1.size; omega
    go_wp2_with (first | (at_builtin; (refine wpList_append_from rfl _ _ 22 rfl w1.heap.size 3 i3 (.int .i64 0) 8 Try.underlying22 hi3 hz30 hz31 hz32 rfl _ _ _ rfl hown1 a0 zs.length c0 (zs.map (Value.int .i64)) rfl (by simp) HN0.out (ints_news (HZS.out.below hbl)) (ints_oneCell _ _) hm1 hm2 (by simp) ?_)) | fail)
    intro v3 w3 hown3 hgrow3
    have hb3 : Below W0.heap.size W0 w3 := hbl.grown hgrow3 hbl.size (fun q hq => Nat.le_trans hb1.size (own_ge hown1 q hq))
    obtain ⟨g3, cap3, hv3, _, hg3⟩ := hown3.form (by omega)
    subst hv3
    rw [← List.map_append] at hown3
    obtain ⟨NS, hNS⟩ : ∃ NS, lawNs ++ zs = NS := ⟨_, rfl⟩
    have hNl : 10 + zs.length = NS.length := by rw [← hNS, List.length_append]; rfl
    rw [hNS, hNl] at hown3
    rw [hNl]
    have hcells3 : ∀ j (h : j < NS.length), w3.cell? ⟨g3, j, none⟩ = some (.int .i64 NS[j]) := fun j h => by
      rw [hown3.cellAt j (by omega)]; simp [h]
    have HC3 := Lib.hid hcells3
    have hNS2 : NS.length ≤ 210 := by omega
    have hwl3 : w.heap.size < w3.heap.size := by have := HZ.out; have := hb3.size; omega
    have hS3 : w3.cell? ⟨w.heap.size, 1, none⟩ = some (.slice a1 ss.length c1) := (hb3.cell (by have := HZ.out; simp; omega)).trans hcS
    have hssl : ss.length ≤ 3000 := by unfold total at htot; omega
    clear hcells3 hown3 hgrow3 hown1 hm1 hm2 hNl hNS hbl hN1 hwl
    have hown4 : (w3.alloc (.cells #[.string ⟨#[]⟩, .string ⟨#[128]⟩, .string ⟨#[128, 0]⟩, .string ⟨#[255, 255, 255, 255, 127]⟩, .string ⟨#[128, 128, 128, 128, 1]⟩] 9)).ownsRow w3.heap.size 9 1 (.slice (some ⟨w3.heap.size, 0, none⟩) 5 5) 5 (lawTs.map Value.string) :=
      World.ownsRow_lit (e := 9) (size := 1) (base := w3.heap.size) w3 #[.string ⟨#[]⟩, .string ⟨#[128]⟩, .string ⟨#[128, 0]⟩, .string ⟨#[255, 255, 255, 255, 127]⟩, .string ⟨#[128, 128, 128, 128, 1]⟩] 5 (Nat.le_refl _) (by decide) rfl
    have hbl3 := hb3.alloc hb3.size (.cells #[.string ⟨#[]⟩, .string ⟨#[128]⟩, .string ⟨#[128, 0]⟩, .string ⟨#[255, 255, 255, 255, 127]⟩, .string ⟨#[128, 128, 128, 128, 1]⟩] 9)
    have hbl4 := (Below.refl w3.heap.size w3).alloc (Nat.le_refl _) (.cells #[.string ⟨#[]⟩, .string ⟨#[128]⟩, .string ⟨#[128, 0]⟩, .string ⟨#[255, 255, 255, 255, 127]⟩, .string ⟨#[128, 128, 128, 128, 1]⟩] 9)
    have hm1 : 5 + ss.length ≤ maxLen := by unfold maxLen; omega
    have hm2 : (5 + ss.length) * 16 ≤ 140737488355328 := by omega
    go_wp2_with (first | (at_builtin; (refine wpList_append_from rfl _ _ 23 rfl w3.heap.size 9 i9 (.string ⟨#[]⟩) 16 Try.underlying23 hi9 hz90 hz91 hz92 rfl _ _ _ rfl hown4 a1 ss.length c1 (ss.map Value.string) rfl (by simp) HN1.out (strs_news (HSS.out.below hbl3)) (strs_one _) hm1 hm2 (by simp) ?_)) | fail)
    intro v4 w4 hown5 hgrow4
    have hb4 : Below w3.heap.size w3 w4 := hbl4.grown hgrow4 hbl4.size (own_ge hown4)
    rw [← List.map_append] at hown5
    obtain ⟨ts0, hts0⟩ : ∃ ts, lawTs ++ ss = ts := ⟨_, rfl⟩
    have hsm0 : ∀ t ∈ ts0, t.size ≤ 3000 := by
      intro t ht
      rw [← hts0] at ht
      rcases List.mem_append.1 ht with h | h
      · simp [lawTs] at h; rcases h with rfl | rfl | rfl | rfl | rfl <;> decide
      · exact Nat.le_trans (total_mem h) htot
    have htl0 : 5 + ss.length = ts0.length := by rw [← hts0, List.length_append]; rfl
    rw [hts0, htl0] at hown5
    have HSM0 := Lib.hid hsm0
    clear hsm0 hts0 hown4 hgrow4 hbl3 hbl4 hm1 hm2 hS3
    have htl1 : ts0.length ≤ 3005 := by omega
    have htl2 : 5 ≤ ts0.length := by omega
    clear htl0
    go_wp2_with fail
    go_loopw [4, 5] (fun v i wr => ∃ (k : Nat) (ts : List ByteArray), k ≤ 30 ∧ k ≤ NS.length ∧ i = .int .i64 k ∧ wr.ownsRow w3.heap.size 9 1 v ts.length (ts.map Value.string) ∧ (∀ t ∈ ts, t.size ≤ 3000) ∧ 5 ≤ ts.length ∧ ts.length ≤ 3005 + 2 * k ∧ Below w3.heap.size w3 wr) (fun _ i _ => 30 - (intOf i).toNat)
    case atStart => exact ⟨0, ts0, by omega, by omega, rfl, hown5, HSM0.out, htl2, by omega, hb4⟩
    case round =>
      clear hown5 HSM0 htl1 htl2 hb4
      obtain ⟨k, ts, hk30, hkN, rfl, hown, hsm, htl5, htl, hbel⟩ := hrel
      have HSM := Lib.hid hsm
      clear hsm
      by_cases hlt : k < NS.length ∧ k < 30
      · obtain ⟨h1, h2⟩ := hlt
        have hc := (hbel.cell (p := ⟨g3, k, none⟩) hg3).trans (HC3.out k h1)
        generalize NS[k] = n at *
        have h2i : (k : Int) < 30 := by omega
        cases hok : okB n with
        | false =>
          have HOK := Lib.hid hok
          clear hok
          as_aux_lemma =>
            go_wp2_with (first | (go_at_call 12; refine (num_any _ _).mono ?_; rintro e w9 ⟨rfl, rfl⟩) | (go_at_call 8; refine (Put_bad n _ HOK.out).mono ?_; rintro e w9 ⟨rfl, rfl⟩) | (go_at_call 9; refine (Size_bad n _ HOK.out).mono ?_; rintro e w9 ⟨rfl, rfl⟩) | (go_at_call 10; refine (rNum_no n _ HOK.out).mono ?_; rintro e w9 ⟨rfl, rfl⟩))
            go_roundw
            case rel => exact ⟨k + 1, ts, by omega, by omega, by go_num, hown, HSM.out, htl5, by omega, hbel⟩
            case measure => simp [intOf]; omega
        | true =>
          have hp := Put_ok n
          have hsz := fun w => Size_ok n w hok
          have hrp := fun w => rPut_ok n w (okB_of hok).1 (okB_of hok).2
          have hu5 : (uvarint n.toNat).length ≤ 5 := uvarint_length 4 _ (by have := okB_of hok; simp; omega)
          have hu1 := uvarint_pos n.toNat
          generalize uvarint n.toNat = U at *
          have HP := Lib.hid hp
          have HSZ := Lib.hid hsz
          have HRP := Lib.hid hrp
          have HOK := Lib.hid hok
          clear hp hsz hrp hok
          as_aux_lemma =>
            go_wp2_with fail
            refine (HP.out _ HOK.out).mono ?_
            rintro e w5 ⟨rfl, hb5⟩
            have hc5 : w5.cell? ⟨g3, k, none⟩ = some (.int .i64 n) := (hb5.cell (p := ⟨g3, k, none⟩) (Nat.lt_of_lt_of_le hg3 hbel.size)).trans hc
            have hbw5 : Below w3.heap.size w3 w5 := hbel.trans (hb5.mono hbel.size)
            have hown5 := owns_below hown hb5
            clear hc hown hbel hb5
            go_wp2_with (first | (go_at_call 9; refine (HSZ.out _).mono ?_; rintro e w9 ⟨rfl, rfl⟩) | (go_at_call 10; refine (rNum_yes n _ HOK.out).mono ?_; rintro e w9 ⟨rfl, rfl⟩))
            refine (HRP.out _).mono ?_
            rintro e w6 ⟨rfl, hb6⟩
            have hc6 : w6.cell? ⟨g3, k, none⟩ = some (.int .i64 n) := (hb6.cell (p := ⟨g3, k, none⟩) (Nat.lt_of_lt_of_le hg3 hbw5.size)).trans hc5
            have hbw6 : Below w3.heap.size w3 w6 := hbw5.trans (hb6.mono hbw5.size)
            have hown6 := owns_below hown5 hb6
            clear hc5 hown5 hbw5 hb6
            have hm1 : ts.length + 2 ≤ maxLen := by unfold maxLen; omega
            have hm2 : (ts.length + 2) * 16 ≤ 140737488355328 := by omega
            have hUi : (1 : Int) ≤ (U.length : Int) := by omega
            go_wp2_with (first | (at_builtin; (refine wpList_append_own _ rfl _ _ 23 rfl w3.heap.size 9 i9 (.string ⟨#[]⟩) 1 16 Try.underlying23 hi9 hz90 hz91 hz92 rfl (by decide) _ _ _ rfl (hown6.alloc _) ⟨w6.heap.size, 0, none⟩ 2 2 [.string (⟨U.toArray⟩ ++ ⟨#[1]⟩), .string ((⟨U.toArray⟩ : ByteArray).extract 0 (U.length - 1))] rfl rfl (cell_two_new _ _ _ _) (two_str _ _) hm1 hm2 (alloc_le hbw6 (Nat.le_refl _) _) ?_)) | fail)
            intro v7 w7 hown7 hgrow7 _
            have hb7 : Below w3.heap.size w3 w7 := (hbw6.alloc hbw6.size _).grown hgrow7 (alloc_le hbw6 (Nat.le_refl _) _) (own_ge hown6)
            clear hown6 hgrow7 hbw6 hc6
            go_wp2_with (go_at_call 12; refine (num_any _ _).mono ?_; rintro e w9 ⟨rfl, rfl⟩)
            go_roundw
            case rel =>
              refine ⟨k + 1, ts ++ [⟨U.toArray⟩ ++ ⟨#[1]⟩, (⟨U.toArray⟩ : ByteArray).extract 0 (U.length - 1)], by omega, by omega, by go_num, ?_, two_more HSM.out hu5, by simp; omega, by simp; omega, hb7⟩
              rw [List.map_append, List.length_append]
              exact hown7
            case measure => simp [intOf]; omega
      · have hcase : (decide (k < NS.length) = false) ∨ (k < NS.length ∧ decide ((k : Int) < 30) = false) := by
          by_cases h1 : k < NS.length
          · right; exact ⟨h1, by simp; omega⟩
          · left; simp; omega
        clear hlt
        have hb9 : Below W0.heap.size W0 wr := hb3.trans (hbel.mono hb3.size)
        obtain ⟨g4, cap4, hv4, _, hg4⟩ := hown.form (by omega)
        subst hv4
        have hcells4 : ∀ j (h : j < ts.length), wr.cell? ⟨g4, j, none⟩ = some (.string ts[j]) := fun j h => by
          rw [hown.cellAt j (by omega)]; simp [h]
        have HC4 := Lib.hid hcells4
        clear hcells4 hown hbel
        generalize hwE : wr = wE at *
        clear hwE
        rcases hcase with hd | ⟨hd0, hd⟩
        all_goals
          go_wp2_with fail
          go_loopw [12] (fun i wq => ∃ (j : Nat), j ≤ ts.length ∧ i = .int .i64 j ∧ Below wE.heap.size wE wq) (fun i _ => ts.length - (intOf i).toNat)
          case atStart => exact ⟨0, by omega, rfl, Below.refl _ _⟩
          case round =>
            obtain ⟨j, hj, rfl, hbq⟩ := hrel
            by_cases hjl : j < ts.length
            · have hcell : wr.cell? ⟨g4, j, none⟩ = some (.string ts[j]) := (hbq.cell hg4).trans (HC4.out j hjl)
              have hmx := HSM.out ts[j] (List.getElem_mem hjl)
              generalize ts[j] = t at *
              have hmx2 : t.size ≤ maxLen := by unfold maxLen; omega
              have hx := fun w => Text_any t w (by omega)
              have hrx := fun w => rText_any t w (by omega)
              generalize uvarint t.size ++ t.data.toList = T at *
              have HX := Lib.hid hx
              have HRX := Lib.hid hrx
              clear hx hrx
              have hk := fun w => Take_any t w hmx2
              have hrk := fun w => rTake_any t w hmx2
              have htt := fun w => TakeText_any t w hmx2
              have hrtt := fun w => rTakeText_any t w hmx2
              clear hmx2
              cases hT : tk 0 0 t.data.toList with
              | none =>
                have hTT := tkText_none hT
                simp only [hT, hTT, takeV, rtakeV, ttV, rttV] at hk hrk htt hrtt
                clear hT hTT
                have HK := Lib.hid hk
                have HRK := Lib.hid hrk
                have HTT := Lib.hid htt
                have HRTT := Lib.hid hrtt
                clear hk hrk htt hrtt
                as_aux_lemma =>
                  go_wp2_with fail
                  refine (HK.out _).mono ?_
                  rintro e w5 ⟨rfl, hb5⟩
                  have hc5 : w5.cell? ⟨g4, j, none⟩ = some (.string t) := (hb5.cell (p := ⟨g4, j, none⟩) (Nat.lt_of_lt_of_le hg4 hbq.size)).trans hcell
                  have hbw5 : Below wE.heap.size wE w5 := hbq.trans (hb5.mono hbq.size)
                  clear hcell hbq hb5
                  go_wp2_with fail
                  refine (HRK.out _).mono ?_
                  rintro e w6 ⟨rfl, hb6⟩
                  have hc6 : w6.cell? ⟨g4, j, none⟩ = some (.string t) := (hb6.cell (p := ⟨g4, j, none⟩) (Nat.lt_of_lt_of_le hg4 hbw5.size)).trans hc5
                  have hbw6 : Below wE.heap.size wE w6 := hbw5.trans (hb6.mono hbw5.size)
                  clear hc5 hbw5 hb6
                  go_wp2_with fail
                  refine (HTT.out _).mono ?_
                  rintro e w7 ⟨rfl, hb7⟩
                  have hc7 : w7.cell? ⟨g4, j, none⟩ = some (.string t) := (hb7.cell (p := ⟨g4, j, none⟩) (Nat.lt_of_lt_of_le hg4 hbw6.size)).trans hc6
                  have hbw7 : Below wE.heap.size wE w7 := hbw6.trans (hb7.mono hbw6.size)
                  clear hc6 hbw6 hb7
                  go_wp2_with fail
                  refine (HRTT.out _).mono ?_
                  rintro e w8 ⟨rfl, hb8⟩
                  have hc8 : w8.cell? ⟨g4, j, none⟩ = some (.string t) := (hb8.cell (p := ⟨g4, j, none⟩) (Nat.lt_of_lt_of_le hg4 hbw7.size)).trans hc7
                  have hbw8 : Below wE.heap.size wE w8 := hbw7.trans (hb8.mono hbw7.size)
                  clear hc7 hbw7 hb8
                  have hcr := cell_regrown hc8
                  go_wp2_with fail
                  refine wp_region_quiet_below (by kernel_rfl) (by kernel_rfl) ?_
                  repeat (first | go_big_quiet_step (first | exact Calls.regrown_of (num_below _ _) | exact Calls.regrown_of (HX.out _) | exact Calls.regrown_of (HRX.out _)) | quiet_step (first | exact Calls.regrown_of (num_below _ _) | exact Calls.regrown_of (HX.out _) | exact Calls.regrown_of (HRX.out _)))
                  refine wpQuiet_nil ?_
                  intro _ hw'
                  obtain ⟨⟨dq, osq⟩, hw''⟩ := hw'
                  subst hw''
                  have hb9' := hbw8.trans ((below_regrown w8 dq osq).mono hbw8.size)
                  clear hcr hc8
                  generalize Sort.grow (redrawn w8 dq) osq = w9 at *
                  go_wp2_with fail
                  go_roundw
                  case rel => exact ⟨j + 1, by omega, by go_num, hb9'⟩
                  case measure => simp [intOf]; omega
              | some pr =>
                obtain ⟨m, r⟩ := pr
                cases hTT : tkText t.data.toList with
                | none =>
                  simp only [hT, hTT, takeV, rtakeV, ttV, rttV] at hk hrk htt hrtt
                  clear hT hTT
                  have HK := Lib.hid hk
                  have HRK := Lib.hid hrk
                  have HTT := Lib.hid htt
                  have HRTT := Lib.hid hrtt
                  clear hk hrk htt hrtt
                  as_aux_lemma =>
                    go_wp2_with fail
                    refine (HK.out _).mono ?_
                    rintro e w5 ⟨rfl, hb5⟩
                    have hc5 : w5.cell? ⟨g4, j, none⟩ = some (.string t) := (hb5.cell (p := ⟨g4, j, none⟩) (Nat.lt_of_lt_of_le hg4 hbq.size)).trans hcell
                    have hbw5 : Below wE.heap.size wE w5 := hbq.trans (hb5.mono hbq.size)
                    clear hcell hbq hb5
                    go_wp2_with fail
                    refine (HRK.out _).mono ?_
                    rintro e w6 ⟨rfl, hb6⟩
                    have hc6 : w6.cell? ⟨g4, j, none⟩ = some (.string t) := (hb6.cell (p := ⟨g4, j, none⟩) (Nat.lt_of_lt_of_le hg4 hbw5.size)).trans hc5
                    have hbw6 : Below wE.heap.size wE w6 := hbw5.trans (hb6.mono hbw5.size)
                    clear hc5 hbw5 hb6
                    go_wp2_with fail
                    refine (HTT.out _).mono ?_
                    rintro e w7 ⟨rfl, hb7⟩
                    have hc7 : w7.cell? ⟨g4, j, none⟩ = some (.string t) := (hb7.cell (p := ⟨g4, j, none⟩) (Nat.lt_of_lt_of_le hg4 hbw6.size)).trans hc6
                    have hbw7 : Below wE.heap.size wE w7 := hbw6.trans (hb7.mono hbw6.size)
                    clear hc6 hbw6 hb7
                    go_wp2_with fail
                    refine (HRTT.out _).mono ?_
                    rintro e w8 ⟨rfl, hb8⟩
                    have hc8 : w8.cell? ⟨g4, j, none⟩ = some (.string t) := (hb8.cell (p := ⟨g4, j, none⟩) (Nat.lt_of_lt_of_le hg4 hbw7.size)).trans hc7
                    have hbw8 : Below wE.heap.size wE w8 := hbw7.trans (hb8.mono hbw7.size)
                    clear hc7 hbw7 hb8
                    have hcr := cell_regrown hc8
                    go_wp2_with fail
                    refine wp_region_quiet_below (by kernel_rfl) (by kernel_rfl) ?_
                    repeat (first | go_big_quiet_step (first | exact Calls.regrown_of (num_below _ _) | exact Calls.regrown_of (HX.out _) | exact Calls.regrown_of (HRX.out _)) | quiet_step (first | exact Calls.regrown_of (num_below _ _) | exact Calls.regrown_of (HX.out _) | exact Calls.regrown_of (HRX.out _)))
                    refine wpQuiet_nil ?_
                    intro _ hw'
                    obtain ⟨⟨dq, osq⟩, hw''⟩ := hw'
                    subst hw''
                    have hb9' := hbw8.trans ((below_regrown w8 dq osq).mono hbw8.size)
                    clear hcr hc8
                    generalize Sort.grow (redrawn w8 dq) osq = w9 at *
                    go_wp2_with fail
                    go_roundw
                    case rel => exact ⟨j + 1, by omega, by go_num, hb9'⟩
                    case measure => simp [intOf]; omega
                | some pr =>
                  obtain ⟨x, y⟩ := pr
                  simp only [hT, hTT, takeV, rtakeV, ttV, rttV] at hk hrk htt hrtt
                  clear hT hTT
                  have HK := Lib.hid hk
                  have HRK := Lib.hid hrk
                  have HTT := Lib.hid htt
                  have HRTT := Lib.hid hrtt
                  clear hk hrk htt hrtt
                  as_aux_lemma =>
                    go_wp2_with fail
                    refine (HK.out _).mono ?_
                    rintro e w5 ⟨rfl, hb5⟩
                    have hc5 : w5.cell? ⟨g4, j, none⟩ = some (.string t) := (hb5.cell (p := ⟨g4, j, none⟩) (Nat.lt_of_lt_of_le hg4 hbq.size)).trans hcell
                    have hbw5 : Below wE.heap.size wE w5 := hbq.trans (hb5.mono hbq.size)
                    clear hcell hbq hb5
                    go_wp2_with fail
                    refine (HRK.out _).mono ?_
                    rintro e w6 ⟨rfl, hb6⟩
                    have hc6 : w6.cell? ⟨g4, j, none⟩ = some (.string t) := (hb6.cell (p := ⟨g4, j, none⟩) (Nat.lt_of_lt_of_le hg4 hbw5.size)).trans hc5
                    have hbw6 : Below wE.heap.size wE w6 := hbw5.trans (hb6.mono hbw5.size)
                    clear hc5 hbw5 hb6
                    go_wp2_with fail
                    refine (HTT.out _).mono ?_
                    rintro e w7 ⟨rfl, hb7⟩
                    have hc7 : w7.cell? ⟨g4, j, none⟩ = some (.string t) := (hb7.cell (p := ⟨g4, j, none⟩) (Nat.lt_of_lt_of_le hg4 hbw6.size)).trans hc6
                    have hbw7 : Below wE.heap.size wE w7 := hbw6.trans (hb7.mono hbw6.size)
                    clear hc6 hbw6 hb7
                    go_wp2_with fail
                    refine (HRTT.out _).mono ?_
                    rintro e w8 ⟨rfl, hb8⟩
                    have hc8 : w8.cell? ⟨g4, j, none⟩ = some (.string t) := (hb8.cell (p := ⟨g4, j, none⟩) (Nat.lt_of_lt_of_le hg4 hbw7.size)).trans hc7
                    have hbw8 : Below wE.heap.size wE w8 := hbw7.trans (hb8.mono hbw7.size)
                    clear hc7 hbw7 hb8
                    have hcr := cell_regrown hc8
                    go_wp2_with fail
                    refine wp_region_quiet_below (by kernel_rfl) (by kernel_rfl) ?_
                    repeat (first | go_big_quiet_step (first | exact Calls.regrown_of (num_below _ _) | exact Calls.regrown_of (HX.out _) | exact Calls.regrown_of (HRX.out _)) | quiet_step (first | exact Calls.regrown_of (num_below _ _) | exact Calls.regrown_of (HX.out _) | exact Calls.regrown_of (HRX.out _)))
                    refine wpQuiet_nil ?_
                    intro _ hw'
                    obtain ⟨⟨dq, osq⟩, hw''⟩ := hw'
                    subst hw''
                    have hb9' := hbw8.trans ((below_regrown w8 dq osq).mono hbw8.size)
                    clear hcr hc8
                    generalize Sort.grow (redrawn w8 dq) osq = w9 at *
                    go_wp2_with fail
                    go_roundw
                    case rel => exact ⟨j + 1, by omega, by go_num, hb9'⟩
                    case measure => simp [intOf]; omega
            · go_wp2_with fail
              refine (wakes_any _).mono ?_
              rintro e w5 ⟨rfl, hb5⟩
              go_wp2
              go_ret
              exact ⟨rfl, hb0.trans (((hb9.trans (hbq.mono hb9.size)).trans (hb5.mono (Nat.le_trans hb9.size hbq.size))).mono hb0.size)⟩
end Go.Proofs.Ytanegkjmalbhcaa
