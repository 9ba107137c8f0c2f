/- The law SealExact: the walk. -/
import Derived.Test.YtijggjgdepjjgaaCWakes2
import Derived.Test.YtijggjgdepjjgaaCHeavy
import Derived.Test.YtijggjgdepjjgaaCBytes
import Derived.Deep.RegionLaw
import Derived.Deep.AppendLies
import Derived.Lib.QuietBelow
namespace Go.Proofs.Ytijggjgdepjjgaa
open Go.RowKit Go.Lib

theorem Try.info9 : (Try.prog.info? 9).map (fun i => (i.zero, i.size, i.bytes)) = some (some (.string ⟨#[]⟩), 1, 16) := by kernel_rfl
theorem strs_one (ss : List ByteArray) : ∀ u ∈ ss.map Value.string, u.oneCell' = true := by
  intro u hu
  obtain ⟨_, _, rfl⟩ := List.mem_map.1 hu
  rfl
theorem two_str (a b : ByteArray) : ∀ u ∈ [Value.string a, Value.string b], u.oneCell' = true := strs_one [a, b]
theorem own_two {w4 : World} {base : Nat} {v : Value} {n : Nat} {xs : List Value} (h : w4.ownsRow base 9 1 v n xs) (A B : ByteArray) : (w4.alloc (.cells #[.string A, .string B] 9)).drew.ownsRow base 9 1 v n xs := (h.alloc (.cells #[.string A, .string B] 9)).drew
theorem cell_two_drew (w4 : World) (A B : ByteArray) : ∀ j u, [Value.string A, Value.string B][j]? = some u → (w4.alloc (.cells #[.string A, .string B] 9)).drew.cell? ((⟨w4.heap.size, 0, none⟩ : Addr).add j) = some u := cell_two_new w4 (.string A) (.string B) 9
theorem size_two {w4 : World} {b : Nat} (h : b ≤ w4.heap.size) (A B : ByteArray) : b ≤ (w4.alloc (.cells #[.string A, .string B] 9)).drew.heap.size := by simp; omega
theorem Of_below (s : ByteArray) (w : World) (hs : s.size ≤ maxLen) : Calls Try.prog 9 #[.string s] w fun e w' => e = .returned (.int .u32 (chk 1 s.data.toList : Nat)) ∧ Below w.heap.size w w' :=
  (Of_any s w hs).mono fun _ _ ⟨he, hw⟩ => ⟨he, by subst hw; exact Below.refl _ _⟩
theorem rCheck_below (s : ByteArray) (w : World) (hs : s.size ≤ maxLen) : Calls Try.prog 10 #[.string s] w fun e w' => e = .returned (.int .u32 (chk 1 s.data.toList : Nat)) ∧ Below w.heap.size w w' :=
  (rCheck_any s w hs).mono fun _ _ ⟨he, hw⟩ => ⟨he, by subst hw; exact Below.refl _ _⟩

theorem bits_byte (op : BinOp) (x y : Int) : ∃ c : UInt8, bits op .u8 x y = (c.toNat : Int) := by
  have h : 0 ≤ bits op .u8 x y ∧ bits op .u8 x y < 256 := by
    unfold bits
    have hw : ∀ z : Int, 0 ≤ IntKind.u8.wrap z ∧ IntKind.u8.wrap z < 256 := fun z => by rw [IntKind.wrap_u8]; omega
    first | exact hw _ | (split <;> first | exact hw _ | omega)
  refine ⟨UInt8.ofNat (bits op .u8 x y).toNat, ?_⟩
  simp [UInt8.toNat_ofNat']; omega
theorem four_small (s : ByteArray) (F : List UInt8) (h : s.size ≤ 3000) (hF : F.length ≤ 706) : ∀ t ∈ ([s, ⟨F.toArray⟩ ++ s, ⟨F.toArray⟩ ++ ⟨F.toArray⟩, ⟨#[]⟩] : List ByteArray), t.size ≤ 6000 := by
  intro t ht
  have e : (⟨F.toArray⟩ : ByteArray).size = F.length := rfl
  have e0 : (⟨#[]⟩ : ByteArray).size = 0 := rfl
  simp only [List.mem_cons, List.not_mem_nil, or_false] at ht
  rcases ht with rfl | rfl | rfl | rfl
  · omega
  · rw [ByteArray.size_append]; omega
  · rw [ByteArray.size_append]; omega
  · omega
theorem at_nat (j k n : Nat) (hn : 0 < n) : ∃ A : Nat, ((j : Int) * (n : Int) / 10 + (k : Int)) % (n : Int) = (A : Int) ∧ A < n :=
  ⟨(j * n / 10 + k) % n, by simp, Nat.mod_lt _ hn⟩
theorem at_mul {j n : Nat} (hj : j ≤ 10) (hn : n ≤ 706) : (0 : Int) ≤ (j : Int) * (n : Int) ∧ (j : Int) * (n : Int) ≤ 7060 := by
  have h : j * n ≤ 10 * 706 := Nat.mul_le_mul hj hn
  have e : (j : Int) * (n : Int) = ((j * n : Nat) : Int) := by simp
  rw [e]; omega
theorem two_more2 {ts : List ByteArray} {F2 F : List UInt8} (h : ∀ t ∈ ts, t.size ≤ 6000) (h2 : F2.length ≤ 706) (h1 : F.length ≤ 706) (A : Nat) : ∀ t ∈ ts ++ [⟨F2.toArray⟩, (⟨F.toArray⟩ : ByteArray).extract 0 A], t.size ≤ 6000 := by
  intro t ht
  have e : (⟨F.toArray⟩ : ByteArray).size = F.length := rfl
  have e2 : (⟨F2.toArray⟩ : ByteArray).size = F2.length := rfl
  rcases List.mem_append.1 ht with h3 | h3
  · exact h t h3
  · simp only [List.mem_cons, List.not_mem_nil, or_false] at h3
    rcases h3 with rfl | rfl
    · omega
    · rw [ByteArray.size_extract]; omega

theorem made_zero (n : Nat) : (madeCells #[Value.int .u8 0] n).toList = (List.replicate n (0 : UInt8)).map u8v := by
  apply List.ext_getElem
  · simp [madeCells]
  · intro i h1 h2
    simp [madeCells, u8v, Nat.mod_one]
theorem Add_zeros (w : World) : Calls Try.prog 8 #[S (List.replicate 701 0)] w fun e w' => e = .returned (S []) ∧ Below w.heap.size w w' := by
  have hz : (⟨(List.replicate 701 (0 : UInt8)).toArray⟩ : ByteArray).size = 701 := by show (List.replicate 701 (0 : UInt8)).toArray.size = 701; rw [List.size_toArray, List.length_replicate]
  have h := Add_any ⟨(List.replicate 701 0).toArray⟩ w (by rw [hz]; decide)
  rw [frameOf_no (by rw [len_size, hz]; decide)] at h
  exact h

set_option maxRecDepth 100000 in
set_option maxHeartbeats 4000000 in
theorem sexact_walk (a0 : Option Addr) (c0 : Nat) (zs : List Int) (a1 : Option Addr) (c1 : Nat) (ss : List ByteArray) (w : World) (hz : IntsAt w a0 zs) (hs : StrsAt w a1 ss) :
    Calls Try.prog 3 #[.agg #[.slice a0 zs.length c0, .slice a1 ss.length c1]] w fun e w' => e = .returned (.bool true) ∧ Below w.heap.size w w' := by
  have hb0 : Below w.heap.size w (w.alloc (.cells #[.slice a0 zs.length c0, .slice a1 ss.length c1] 25)) := (Below.refl _ _).alloc (Nat.le_refl _) _
  have hcN : (w.alloc (.cells #[.slice a0 zs.length c0, .slice a1 ss.length c1] 25)).cell? ⟨w.heap.size, 0, none⟩ = some (.slice a0 zs.length c0) := by simp
  have hcS : (w.alloc (.cells #[.slice a0 zs.length c0, .slice a1 ss.length c1] 25)).cell? ⟨w.heap.size, 1, none⟩ = some (.slice a1 ss.length c1) := by simp
  have hz0 : (w.alloc (.cells #[.slice a0 zs.length c0, .slice a1 ss.length c1] 25)).heap.size = w.heap.size + 1 := by simp
  have HSS := Lib.hid (hs.below hb0)
  have hzl := hz.len
  clear hs hz
  obtain ⟨i5, hi5, hz50, hz51, hz52⟩ := info_parts Try.info5
  obtain ⟨i9, hi9, hz90, hz91, hz92⟩ := info_parts Try.info9
  go_enter Try.func3, Try.ntmps3
  go_wp2_with fail
  generalize w.alloc (.cells #[.slice a0 zs.length c0, .slice a1 ss.length c1] 25) = W0 at *
  have HZ := Lib.hid hz0
  clear hz0
  refine (Heavy_any a0 c0 zs a1 c1 ss _ hzl HSS.out).mono ?_
  rintro e w1 ⟨hv, rfl, himp, hb1⟩
  cases hv with
  | true =>
    clear himp
    go_wp2
    go_ret
    exact ⟨rfl, hb0.trans (hb1.mono hb0.size)⟩
  | false =>
    obtain ⟨hz200, htot⟩ := himp rfl
    clear himp hzl
    have hsl : ss.length ≤ 3000 := by unfold total at htot; omega
    have HTT := Lib.hid htot
    clear htot
    go_wp2_with fail
    go_loopw [3] (fun i wr => ∃ (k : Nat), k ≤ 8 ∧ k ≤ ss.length ∧ i = .int .i64 k ∧ Below W0.heap.size W0 wr) (fun i _ => 8 - (intOf i).toNat)
    case atStart => exact ⟨0, by omega, by omega, rfl, hb1⟩
    case round =>
      clear hb1
      obtain ⟨k, hk8, hks, rfl, hbel⟩ := hrel
      have hS : wr.cell? ⟨w.heap.size, 1, none⟩ = some (.slice a1 ss.length c1) := (hbel.cell (by have := HZ.out; simp; omega)).trans hcS
      by_cases hlt : k < ss.length ∧ k < 8
      · obtain ⟨h1, h2⟩ := hlt
        obtain ⟨b, off, ha, hbz, hcz⟩ := HSS.out.cell k h1
        have hcr : wr.cell? ⟨b, off + k, none⟩ = some (.string ss[k]) := (hbel.cell hbz).trans hcz
        have hsz : ss[k].size ≤ 3000 := Nat.le_trans (total_mem (List.getElem_mem h1)) HTT.out
        clear hcz
        generalize ss[k] = s at *
        subst ha
        have h2i : (k : Int) < 8 := by omega
        have hA := fun w => Add_any s w (by unfold maxLen; omega)
        have hO := fun w => Of_below s w (by unfold maxLen; omega)
        have hC := fun w => rCheck_below s w (by unfold maxLen; omega)
        have hR := fun w => rFrame_any s w (by unfold maxLen; omega)
        have hFl := frameOf_le s.data.toList
        generalize frameOf s.data.toList = F at *
        generalize chk 1 s.data.toList = H at *
        have HA := Lib.hid hA
        have HO := Lib.hid hO
        have HC := Lib.hid hC
        have HRF := Lib.hid hR
        clear hA hO hC hR
        go_wp2_with fail
        refine (HA.out _).mono ?_
        rintro e w2 ⟨rfl, hb2⟩
        have hbw2 : Below W0.heap.size W0 w2 := hbel.trans (hb2.mono hbel.size)
        have hcr2 : w2.cell? ⟨b, off + k, none⟩ = some (.string s) := (hb2.cell (p := ⟨b, off + k, none⟩) (Nat.lt_of_lt_of_le hbz hbel.size)).trans hcr
        have hS2 : w2.cell? ⟨w.heap.size, 1, none⟩ = some (.slice (some ⟨b, off, none⟩) ss.length c1) := (hbw2.cell (by have := HZ.out; simp; omega)).trans hcS
        clear hcr hS hb2 hbel
        have hg1 := cell_regrown hcr2
        have hg2 := cell_regrown hS2
        go_wp2_with fail
        as_aux_lemma =>
          refine wp_region_quiet_below (by kernel_rfl) (by kernel_rfl) ?_
          repeat (first | go_big_quiet_step (first | exact Calls.regrown_of (HO.out _) | exact Calls.regrown_of (HC.out _) | exact Calls.regrown_of (HRF.out _)) | quiet_step (first | exact Calls.regrown_of (HO.out _) | exact Calls.regrown_of (HC.out _) | exact Calls.regrown_of (HRF.out _)))
          refine wpQuiet_nil ?_
          intro _ hw'
          obtain ⟨⟨dq, osq⟩, hw''⟩ := hw'
          subst hw''
          have hbw3 := hbw2.trans ((below_regrown w2 dq osq).mono hbw2.size)
          have hcr3 : (Sort.grow (redrawn w2 dq) osq).cell? ⟨b, off + k, none⟩ = some (.string s) := hg1 _ _
          have hS3 : (Sort.grow (redrawn w2 dq) osq).cell? ⟨w.heap.size, 1, none⟩ = some (.slice (some ⟨b, off, none⟩) ss.length c1) := hg2 _ _
          clear hg1 hg2 hcr2 hS2 HO HC HRF HA
          generalize Sort.grow (redrawn w2 dq) osq = w3 at *
          clear hbw2
          go_wp2_with fail
          have hcat1 := fun wx => run_string_add (P := Try.prog) wx ⟨F.toArray⟩ s (by show (F.length : Int) ≤ _; omega) (by omega)
          have hcat2 := fun wx => run_string_add (P := Try.prog) wx ⟨F.toArray⟩ ⟨F.toArray⟩ (by show (F.length : Int) ≤ _; omega) (by show (F.length : Int) ≤ _; omega)
          refine wp_region_still_tail 15 (by kernel_rfl) (by kernel_rfl) ?_
          simp only [List.take_succ_cons, List.take_zero, List.drop_succ_cons, List.drop_zero]
          repeat still_step
          refine wpStill_nil ?_
          change wpList _ _ _ _ _ w3.drew
          have hbw4 : Below W0.heap.size W0 w3.drew := hbw3.drew
          clear hbw3 hcr3 hS3 hcat1 hcat2
          generalize w3.drew = w4 at *
          have hown4 : (w4.alloc (.cells #[.string s, .string (⟨F.toArray⟩ ++ s), .string (⟨F.toArray⟩ ++ ⟨F.toArray⟩), .string ⟨#[]⟩] 9)).ownsRow w4.heap.size 9 1 (.slice (some ⟨w4.heap.size, 0, none⟩) 4 4) 4 (([s, ⟨F.toArray⟩ ++ s, ⟨F.toArray⟩ ++ ⟨F.toArray⟩, ⟨#[]⟩] : List ByteArray).map Value.string) :=
            World.ownsRow_lit (e := 9) (size := 1) (base := w4.heap.size) w4 #[.string s, .string (⟨F.toArray⟩ ++ s), .string (⟨F.toArray⟩ ++ ⟨F.toArray⟩), .string ⟨#[]⟩] 4 (Nat.le_refl _) (by decide) rfl
          have hbl4 := (Below.refl w4.heap.size w4).alloc (Nat.le_refl _) (.cells #[.string s, .string (⟨F.toArray⟩ ++ s), .string (⟨F.toArray⟩ ++ ⟨F.toArray⟩), .string ⟨#[]⟩] 9)
          have hsm4 := four_small s F hsz hFl
          go_wp2_with fail
          go_loopw [5, 6] (fun v i wr => ∃ (j : Nat) (ts : List ByteArray), j ≤ 10 ∧ i = .int .i64 j ∧ wr.ownsRow w4.heap.size 9 1 v ts.length (ts.map Value.string) ∧ (∀ t ∈ ts, t.size ≤ 6000) ∧ 4 ≤ ts.length ∧ ts.length ≤ 4 + 2 * j ∧ Below w4.heap.size w4 wr) (fun _ i _ => 10 - (intOf i).toNat)
          case atStart => exact ⟨0, _, by omega, rfl, hown4, hsm4, by simp, by simp, hbl4⟩
          case round =>
            clear hown4 hbl4 hsm4
            obtain ⟨j, ts, hj10, rfl, hown, hsm, htl4, htl, hbq⟩ := hrel
            have HSM := Lib.hid hsm
            clear hsm
            by_cases hjl : j < 10 ∧ 0 < F.length
            · obtain ⟨h3, h4⟩ := hjl
              have h3i : (j : Int) < 10 := by omega
              have h4i : (0 : Int) < (F.length : Int) := by omega
              obtain ⟨A, hAe, hAl⟩ := at_nat j k F.length h4
              obtain ⟨hm0, hm1⟩ := at_mul (j := j) (n := F.length) (by omega) hFl
              have hcv := Lib.run_convert_string_bytes (P := Try.prog) wr 9 30 5 ⟨F.toArray⟩ Try.underlying9 Try.underlying30 Try.underlying5
              obtain ⟨hba, hbb⟩ := bytes_made wr 5 F
              as_aux_lemma =>
                go_wp2_with fail
                simp only [hAe]
                generalize bytesWorld wr 5 ⟨F.toArray⟩ = wB at *
                clear hcv
                have hcj := hba.cell A hAl
                have hfj := hba.free A hAl
                have HBA := Lib.hid hba
                have hFj := F[A].toNat_lt
                generalize F[A] = fb at *
                clear hba hAe hm0 hm1
                have hmod : IntKind.i64.wrap ((j : Int).tmod 8) = ((j % 8 : Nat) : Int) := by rw [IntWalk.i64_in _ (by rw [Int.tmod_eq_emod_of_nonneg (by omega)]; omega), Int.tmod_eq_emod_of_nonneg (by omega)]; omega
                have hmod2 : (j : Int).tmod 8 = ((j % 8 : Nat) : Int) := by rw [Int.tmod_eq_emod_of_nonneg (by omega)]; omega
                refine wp_region_still_tail 11 (by kernel_rfl) (by kernel_rfl) ?_
                simp only [List.take_succ_cons, List.take_zero, List.drop_succ_cons, List.drop_zero]
                repeat still_step
                refine wpStill_nil ?_
                clear hmod hmod2
                change wpList _ _ _ _ _ wB.drew
                have hbd : Below wr.heap.size wr wB.drew := hbb.drew
                have HBD := Lib.hid (bytes_drew HBA.out)
                have hcd : wB.drew.cell? ⟨wr.heap.size, A, none⟩ = some (.int .u8 (fb.toNat : Int)) := hcj
                have hfd : wB.drew.frozen? ⟨wr.heap.size, A, none⟩ = false := hfj
                clear hcj hfj HBA hbb
                generalize wB.drew = w5 at *
                go_wp2_with fail
                obtain ⟨c, hc⟩ := bits_byte .xor (fb.toNat : Int) (2 ^ (j % 8) % 256)
                have HBS := Lib.hid (bytes_set HBD.out A hAl _ c hc)
                have hb6 : Below w4.heap.size w4 (w5.setCell ⟨wr.heap.size, A, none⟩ (.int .u8 (bits .xor .u8 (fb.toNat : Int) (2 ^ (j % 8) % 256)))) := (hbq.trans (hbd.mono hbq.size)).setCell hbq.size _
                have hown6 : (w5.setCell ⟨wr.heap.size, A, none⟩ (.int .u8 (bits .xor .u8 (fb.toNat : Int) (2 ^ (j % 8) % 256)))).ownsRow w4.heap.size 9 1 u5 ts.length (ts.map Value.string) := owns_below hown (hbd.setCell (Nat.le_refl _) _)
                generalize w5.setCell ⟨wr.heap.size, A, none⟩ (.int .u8 (bits .xor .u8 (fb.toNat : Int) (2 ^ (j % 8) % 256))) = w6 at *
                obtain ⟨F2, hF2⟩ : ∃ F2, F.set A c = F2 := ⟨_, rfl⟩
                have hF2l : F2.length = F.length := by rw [← hF2, List.length_set]
                rw [hF2] at HBS
                have hcv2 := fun wx (hx : BytesAt wx wr.heap.size F2) => bytes_conv (P := Try.prog) hx 30 9 5 F.length (grownCap wr F.length 0 5) hF2l.symm Try.underlying30 Try.underlying5 Try.underlying9
                have hcv6 := hcv2 _ (bytes_drew HBS.out)
                have HF2l := Lib.hid hF2l
                clear hF2 hF2l hc hcd hfd hbd hbq hown HBD hcv2
                have hsl := fun wx => run_slice_string_h (P := Try.prog) wx 9 ⟨F.toArray⟩ Try.underlying9 .i64 (A : Int) (by omega) (by show (A : Int) ≤ (F.length : Int); omega)
                simp only [Int.toNat_natCast] at hsl
                have ho := own_two hown6 ⟨F2.toArray⟩ ((⟨F.toArray⟩ : ByteArray).extract 0 A)
                have hnw := cell_two_drew w6 ⟨F2.toArray⟩ ((⟨F.toArray⟩ : ByteArray).extract 0 A)
                have hbs := size_two hb6.size ⟨F2.toArray⟩ ((⟨F.toArray⟩ : ByteArray).extract 0 A)
                have hm1 : ts.length + 2 ≤ maxLen := by unfold maxLen; omega
                have hm2 : (ts.length + 2) * 16 ≤ 140737488355328 := by omega
                have HO := Lib.hid ho
                have HN := Lib.hid hnw
                have HS := Lib.hid hbs
                have HGE := Lib.hid (own_ge hown6)
                clear ho hnw hbs hown6
                go_region_law ((refine step_append_lies _ (by rfl) _ _ _ (by rfl) w4.heap.size 9 i9 (.string ⟨#[]⟩) 1 16 Try.underlying23 hi9 hz90 hz91 hz92 (by rfl) (by decide) u5 ts.length _ (by rfl) HO.out ⟨w6.heap.size, 0, none⟩ 2 2 [.string ⟨F2.toArray⟩, .string ((⟨F.toArray⟩ : ByteArray).extract 0 A)] (by rfl) (by rfl) HN.out (two_str _ _) (by omega) hm1 hm2 HS.out _ rfl ?_; intro g8 cap8 w8 hown8 hgrow8 hat8 hlt8))
                have hb8 : Below w4.heap.size w4 w8 := ((hb6.alloc hb6.size _).drew).grown hgrow8 HS.out HGE.out
                clear hgrow8 hb6 HO HN HS HGE hcv6 hsl HBS hat8 hlt8
                go_wp2_with fail
                go_roundw
                case rel =>
                  refine ⟨j + 1, ts ++ [⟨F2.toArray⟩, (⟨F.toArray⟩ : ByteArray).extract 0 A], by omega, by go_num, ?_, two_more2 HSM.out (by rw [HF2l.out]; exact hFl) hFl A, by simp; omega, by simp; omega, hb8⟩
                  rw [List.map_append, List.length_append]
                  exact hown8
                case measure => simp [intOf]; omega
            · have hcase : (decide ((j : Int) < 10) = false) ∨ ((j : Int) < 10 ∧ decide (0 < F.length) = false) := by
                by_cases h1 : j < 10
                · right; exact ⟨by omega, decide_eq_false (by omega)⟩
                · left; exact decide_eq_false (by omega)
              clear hjl
              have hb9 : Below W0.heap.size W0 wr := hbw4.trans (hbq.mono hbw4.size)
              obtain ⟨g4, cap4, hv4, _, hg4⟩ := hown.form (by omega)
              subst hv4
              have hcells4 : ∀ j (h : j < ts.length), wr.cell? ⟨g4, j, none⟩ = some (.string ts[j]) := fun j h => by
                rw [hown.cellAt j (by omega)]; simp [h]
              have HC4 := Lib.hid hcells4
              clear hcells4 hown hbq hbw4
              generalize hwE : wr = wE at *
              clear hwE
              rcases hcase with hd | ⟨hd0, hd⟩
              all_goals
                go_wp2_with fail
                go_loopw [9] (fun i wq => ∃ (m : Nat), m ≤ ts.length ∧ i = .int .i64 m ∧ Below wE.heap.size wE wq) (fun i _ => ts.length - (intOf i).toNat)
                case atStart => exact ⟨0, by omega, rfl, Below.refl _ _⟩
                case round =>
                  obtain ⟨m, hm, rfl, hbq⟩ := hrel
                  by_cases hml : m < ts.length
                  · have hcell : wr.cell? ⟨g4, m, none⟩ = some (.string ts[m]) := (hbq.cell hg4).trans (HC4.out m hml)
                    have hmx := HSM.out ts[m] (List.getElem_mem hml)
                    generalize ts[m] = t at *
                    have hk := fun w => sTake_any t w (by unfold maxLen; omega)
                    have hrk := fun w => rUnframe_any t w (by unfold maxLen; omega)
                    cases hT : unf t.data.toList with
                    | none =>
                      simp only [hT, rttV] at hk hrk
                      clear hT
                      have HK := Lib.hid hk
                      have HRK := Lib.hid hrk
                      clear hk hrk
                      as_aux_lemma =>
                        go_wp2_with fail
                        refine (HK.out _).mono ?_
                        rintro e w5 ⟨rfl, hb5⟩
                        have hc5 : w5.cell? ⟨g4, m, none⟩ = some (.string t) := (hb5.cell (p := ⟨g4, m, none⟩) (Nat.lt_of_lt_of_le hg4 hbq.size)).trans hcell
                        have hbw5 : Below wE.heap.size wE w5 := hbq.trans (hb5.mono hbq.size)
                        clear hcell hbq hb5
                        go_wp2_with fail
                        refine (HRK.out _).mono ?_
                        rintro e w6 ⟨rfl, hb6⟩
                        have hbw6 : Below wE.heap.size wE w6 := hbw5.trans (hb6.mono hbw5.size)
                        clear hc5 hbw5 hb6
                        go_wp2_with fail
                        go_roundw
                        case rel => exact ⟨m + 1, by omega, by go_num, hbw6⟩
                        case measure => simp [intOf]; omega
                    | some p =>
                      obtain ⟨px, py⟩ := p
                      simp only [hT, rttV] at hk hrk
                      clear hT
                      have HK := Lib.hid hk
                      have HRK := Lib.hid hrk
                      clear hk hrk
                      as_aux_lemma =>
                        go_wp2_with fail
                        refine (HK.out _).mono ?_
                        rintro e w5 ⟨rfl, hb5⟩
                        have hc5 : w5.cell? ⟨g4, m, none⟩ = some (.string t) := (hb5.cell (p := ⟨g4, m, none⟩) (Nat.lt_of_lt_of_le hg4 hbq.size)).trans hcell
                        have hbw5 : Below wE.heap.size wE w5 := hbq.trans (hb5.mono hbq.size)
                        clear hcell hbq hb5
                        go_wp2_with fail
                        refine (HRK.out _).mono ?_
                        rintro e w6 ⟨rfl, hb6⟩
                        have hbw6 : Below wE.heap.size wE w6 := hbw5.trans (hb6.mono hbw5.size)
                        clear hc5 hbw5 hb6
                        go_wp2_with fail
                        go_roundw
                        case rel => exact ⟨m + 1, by omega, by go_num, hbw6⟩
                        case measure => simp [intOf]; omega
                  · have hdm : decide (m < ts.length) = false := decide_eq_false hml
                    go_wp2_with fail
                    go_roundw
                    case rel => exact ⟨k + 1, by omega, by omega, by go_num, hb9.trans (hbq.mono hb9.size)⟩
                    case measure => simp [intOf]; omega
      · have hcase : (decide (k < ss.length) = false) ∨ (k < ss.length ∧ decide ((k : Int) < 8) = false) := by
          by_cases h1 : k < ss.length
          · right; exact ⟨h1, by simp; omega⟩
          · left; simp; omega
        clear hlt
        rcases hcase with hd | ⟨hd0, hd⟩
        all_goals
          go_wp2_with (first | (at_make; refine wpList_make_full _ rfl _ _ 30 rfl wr.heap.size 5 i5 (.int .u8 0) 1 Try.underlying30 hi5 hz50 hz51 _ _ _ _ 701 rfl rfl rfl rfl (by rw [hz52]; decide) (by decide) (Nat.le_refl _) ?_) | fail)
          intro w2 hown2 hgrow2
          rw [made_zero] at hown2
          have hb2 : Below wr.heap.size wr w2 := (Below.refl _ _).grown hgrow2 (Nat.le_refl _) (by simp)
          have hcv := conv_owned w2 30 9 5 _ _ _ _ _ Try.underlying30 Try.underlying5 Try.underlying9 hown2
          have hZ := fun w => Add_zeros w
          generalize List.replicate 701 (0 : UInt8) = Z at *
          have HZZ := Lib.hid hZ
          have hbw2 := hbel.trans (hb2.mono hbel.size)
          clear hown2 hgrow2 hZ hb2 hbel
          go_wp2_with fail
          refine (HZZ.out _).mono ?_
          rintro e w3 ⟨rfl, hb3⟩
          have hbw3 := hbw2.trans (hb3.mono hbw2.size)
          clear hcv hb3 hbw2
          go_wp2_with fail
          refine (wakes_any _).mono ?_
          rintro e w4 ⟨rfl, hb4⟩
          have hbw4 := hbw3.trans (hb4.mono hbw3.size)
          go_wp2
          go_ret
          exact ⟨rfl, hb0.trans (hbw4.mono hb0.size)⟩
end Go.Proofs.Ytijggjgdepjjgaa
