/- The law SealBack: the walk. -/
import Derived.Test.YtijggjgdepjjgaaCWakes2
import Derived.Test.YtijggjgdepjjgaaCHeavy
import Derived.Test.YtijggjgdepjjgaaCBytes
namespace Go.Proofs.Ytijggjgdepjjgaa
open Go.RowKit Go.Lib

theorem Within_255 (i : Int) (w : World) (h0 : 0 ≤ i) (hi : i ≤ 1000000) : Calls Try.prog 15 #[.int .i64 i, .int .i64 255] w fun e w' => e = .returned (.int .i64 (i % 255)) ∧ w = w' := by
  go_enter Try.func15, Try.ntmps15
  go_wp2
  go_ret
  exact ⟨rfl, rfl⟩

theorem sealed_hurt (s r : ByteArray) (F : List UInt8) (k : Nat) (c : UInt8) (w : World) (hF : frameOf s.data.toList = F) (hs : s.size ≤ 700) (hr : r.size ≤ 268435456) (hk0 : F.length - s.size - 4 ≤ k) (hk : k < F.length) (hc : c ≠ F[k]) :
    Calls Try.prog 12 #[.string ((⟨(F.set k c).toArray⟩ : ByteArray) ++ r)] w fun e w' => e = .returned (.tuple #[S [], S [], .bool false]) ∧ Below w.heap.size w w' := by
  subst hF
  have hl := frameOf_le s.data.toList
  have h := sTake_any ((⟨((frameOf s.data.toList).set k c).toArray⟩ : ByteArray) ++ r) w (by rw [joined_size, List.length_set]; unfold maxLen; omega)
  rw [joined_list, unf_hurt (by rw [len_size]; omega) _ k c (by rw [len_size]; exact hk0) hk hc] at h
  exact h
theorem hurt_ne (b : UInt8) (x : Nat) (h1 : 1 ≤ x) (h2 : x ≤ 255) : ((b.toNat + x) % 256).toUInt8 ≠ b := by
  intro e
  have := congrArg UInt8.toNat e
  have hb := b.toNat_lt
  simp [UInt8.toNat_ofNat'] at this
  omega

set_option maxRecDepth 100000 in
set_option maxHeartbeats 2000000 in
theorem sback_walk (a0 : Option Addr) (c0 : Nat) (zs : List Int) (a1 : Option Addr) (c1 : Nat) (ss : List ByteArray) (w : World) (hz : IntsAt w a0 zs) (hs : StrsAt w a1 ss) :
    Calls Try.prog 4 #[.agg #[.slice a0 zs.length c0, .slice a1 ss.length c1]] w fun e w' => e = .returned (.bool true) ∧ Below w.heap.size w w' := by
  have hb0 : Below w.heap.size w (w.alloc (.cells #[.slice a0 zs.length c0, .slice a1 ss.length c1] 25)) := (Below.refl _ _).alloc (Nat.le_refl _) _
  have hcN : (w.alloc (.cells #[.slice a0 zs.length c0, .slice a1 ss.length c1] 25)).cell? ⟨w.heap.size, 0, none⟩ = some (.slice a0 zs.length c0) := by simp
  have hcS : (w.alloc (.cells #[.slice a0 zs.length c0, .slice a1 ss.length c1] 25)).cell? ⟨w.heap.size, 1, none⟩ = some (.slice a1 ss.length c1) := by simp
  have hz0 : (w.alloc (.cells #[.slice a0 zs.length c0, .slice a1 ss.length c1] 25)).heap.size = w.heap.size + 1 := by simp
  have HSS := Lib.hid (hs.below hb0)
  have hzl := hz.len
  clear hs hz
  go_enter Try.func4, Try.ntmps4
  go_wp2_with fail
  generalize w.alloc (.cells #[.slice a0 zs.length c0, .slice a1 ss.length c1] 25) = W0 at *
  have HZ := Lib.hid hz0
  clear hz0
  refine (Heavy_any a0 c0 zs a1 c1 ss _ hzl HSS.out).mono ?_
  rintro e w1 ⟨hv, rfl, himp, hb1⟩
  cases hv with
  | true =>
    clear himp
    go_wp2
    go_ret
    exact ⟨rfl, hb0.trans (hb1.mono hb0.size)⟩
  | false =>
    obtain ⟨hz200, htot⟩ := himp rfl
    clear himp hzl
    have hsl : ss.length ≤ 3000 := by unfold total at htot; omega
    have HTT := Lib.hid htot
    clear htot
    go_wp2_with fail
    go_loopw [3] (fun i wr => ∃ (k : Nat), k ≤ 8 ∧ k ≤ ss.length ∧ i = .int .i64 k ∧ Below W0.heap.size W0 wr) (fun i _ => 8 - (intOf i).toNat)
    case atStart => exact ⟨0, by omega, by omega, rfl, hb1⟩
    case round =>
      clear hb1
      obtain ⟨k, hk8, hks, rfl, hbel⟩ := hrel
      have hS : wr.cell? ⟨w.heap.size, 1, none⟩ = some (.slice a1 ss.length c1) := (hbel.cell (by have := HZ.out; simp; omega)).trans hcS
      by_cases hlt : k < ss.length ∧ k < 8
      · obtain ⟨h1, h2⟩ := hlt
        obtain ⟨b, off, ha, hbz, hcz⟩ := HSS.out.cell k h1
        have hcr : wr.cell? ⟨b, off + k, none⟩ = some (.string ss[k]) := (hbel.cell hbz).trans hcz
        have hsz : ss[k].size ≤ 3000 := Nat.le_trans (total_mem (List.getElem_mem h1)) HTT.out
        clear hcz
        generalize ss[k] = s at *
        subst ha
        have h2i : (k : Int) < 8 := by omega
        by_cases hbig : 700 < s.size
        · have hd : decide ((700 : Int) < (s.size : Int)) = true := by simp; omega
          go_wp2
          go_roundw
          case rel => exact ⟨k + 1, by omega, by omega, by go_num, hbel⟩
          case measure => simp [intOf]; omega
        · have hd : decide ((700 : Int) < (s.size : Int)) = false := by simp; omega
          have hA := fun w => Add_yes s w (by omega)
          have hFl := frameOf_le s.data.toList
          have hFg := frameOf_len (l := s.data.toList) (by rw [len_size]; omega)
          rw [len_size] at hFg
          have hup := uvarint_pos s.size
          obtain ⟨F, hF⟩ : ∃ F, frameOf s.data.toList = F := ⟨_, rfl⟩
          simp only [hF] at hA
          rw [hF] at hFl hFg
          have hFs : s.size + 5 ≤ F.length := by omega
          have hdF : decide ((F.length : Int) < (s.size : Int) + 5) = false := by simp; omega
          have HF := Lib.hid hF
          clear hF hFg hup
          go_wp2_with fail
          refine (hA _).mono ?_
          rintro e w2 ⟨rfl, hb2⟩
          have hbw2 : Below W0.heap.size W0 w2 := hbel.trans (hb2.mono hbel.size)
          clear hb2 hA
          go_wp2_with fail
          refine (sealed_yes s ⟨#[98, 101, 104, 105, 110, 100]⟩ F w2 HF.out (by omega) (by decide)).mono ?_
          rintro e w3 ⟨rfl, hb3⟩
          have hbw3 : Below W0.heap.size W0 w3 := hbw2.trans (hb3.mono hbw2.size)
          have hcr3 : w3.cell? ⟨b, off + k, none⟩ = some (.string s) := (hbw3.cell (p := ⟨b, off + k, none⟩) hbz).trans (((hbel.cell (p := ⟨b, off + k, none⟩) hbz).symm).trans hcr)
          have hS3 : w3.cell? ⟨w.heap.size, 1, none⟩ = some (.slice (some ⟨b, off, none⟩) ss.length c1) := (hbw3.cell (by have := HZ.out; simp; omega)).trans hcS
          clear hcr hS hb3 hbw2 hbel
          go_wp2_with fail
          go_loopw [8] (fun i wq => ∃ (j : Nat), j ≤ F.length ∧ F.length - s.size - 4 ≤ j ∧ i = .int .i64 j ∧ Below W0.heap.size W0 wq) (fun i _ => F.length - (intOf i).toNat)
          case atStart => exact ⟨F.length - s.size - 4, by omega, by omega, by go_num, hbw3⟩
          case round =>
            clear hbw3 hcr3 hS3
            obtain ⟨j, hj, hj0, rfl, hbq⟩ := hrel
            by_cases hjl : j < F.length
            · have hcv := Lib.run_convert_string_bytes (P := Try.prog) wr 9 30 5 ⟨F.toArray⟩ Try.underlying9 Try.underlying30 Try.underlying5
              obtain ⟨hba, hbb⟩ := bytes_made wr 5 F
              go_wp2_with fail
              generalize bytesWorld wr 5 ⟨F.toArray⟩ = wB at *
              clear hcv
              have hcj := hba.cell j hjl
              have hfj := hba.free j hjl
              have HBA := Lib.hid hba
              have HFJ := Lib.hid (hurt_ne F[j] (1 + (j * 31 + k) % 255) (by omega) (by omega))
              have hFj := F[j].toNat_lt
              obtain ⟨fb, hfb⟩ : ∃ fb, F[j] = fb := ⟨_, rfl⟩
              rw [hfb] at hcj HFJ hFj
              have HFB := Lib.hid hfb
              clear hfb
              clear hba
              have hw0 : (0 : Int) ≤ (j : Int) * 31 + (k : Int) := by omega
              have hw9 : (j : Int) * 31 + (k : Int) ≤ 1000000 := by omega
              have hw1 : IntKind.i64.wrap ((j : Int) * 31) = (j : Int) * 31 := IntWalk.i64_in _ (by omega)
              have hw2 : IntKind.i64.wrap ((j : Int) * 31 + (k : Int)) = (j : Int) * 31 + (k : Int) := IntWalk.i64_in _ (by omega)
              refine wp_region_still_tail 15 (by kernel_rfl) (by kernel_rfl) ?_
              simp only [List.take_succ_cons, List.take_zero, List.drop_succ_cons, List.drop_zero]
              repeat still_step
              still_call ((Within_255 _ _ hw0 hw9).mono fun e w9 h => ⟨h.1, h.2.symm⟩)
              repeat still_step
              refine wpStill_nil ?_
              clear hw1 hw2
              change wpList _ _ _ _ _ wB.drew
              have hbd : Below wr.heap.size wr wB.drew := hbb.drew
              have HBD := Lib.hid (bytes_drew HBA.out)
              have hcd : wB.drew.cell? ⟨wr.heap.size, j, none⟩ = some (.int .u8 (fb.toNat : Int)) := hcj
              have hfd : wB.drew.frozen? ⟨wr.heap.size, j, none⟩ = false := hfj
              clear hcj hfj HBA hbb
              generalize wB.drew = w5 at *
              have HBS := Lib.hid (bytes_set HBD.out j hjl (((fb.toNat : Int) + (1 + ((j : Int) * 31 + (k : Int)) % 255)) % 256) ((fb.toNat + (1 + (j * 31 + k) % 255)) % 256).toUInt8 (by simp [UInt8.toNat_ofNat']))
              have hcv2 := bytes_conv (P := Try.prog) HBS.out 30 9 5 F.length (grownCap wr F.length 0 5) (by rw [List.length_set]) Try.underlying30 Try.underlying5 Try.underlying9
              have hlt2 := sealed_hurt s ⟨#[98, 101, 104, 105, 110, 100]⟩ F j ((fb.toNat + (1 + (j * 31 + k) % 255)) % 256).toUInt8 (w5.setCell ⟨wr.heap.size, j, none⟩ (.int .u8 (((fb.toNat : Int) + (1 + ((j : Int) * 31 + (k : Int)) % 255)) % 256))) HF.out (by omega) (by decide) hj0 hjl (by rw [HFB.out]; exact HFJ.out)
              have hFsl : (F.set j ((fb.toNat + (1 + (j * 31 + k) % 255)) % 256).toUInt8).length ≤ 706 := by rw [List.length_set]; exact hFl
              generalize F.set j ((fb.toNat + (1 + (j * 31 + k) % 255)) % 256).toUInt8 = F2 at *
              have HH := Lib.hid hlt2
              clear hlt2 HFJ HFB
              go_wp2_with fail
              refine HH.out.mono ?_
              rintro e w6 ⟨rfl, hb6⟩
              clear hcv2
              go_wp2
              go_roundw
              case rel =>
                have h5 : Below W0.heap.size W0 w5 := hbq.trans (hbd.mono hbq.size)
                have h6 : Below W0.heap.size W0 (w5.setCell ⟨wr.heap.size, j, none⟩ (.int .u8 (((fb.toNat : Int) + (1 + ((j : Int) * 31 + (k : Int)) % 255)) % 256))) := h5.setCell hbq.size _
                exact ⟨j + 1, by omega, by omega, by go_num, h6.trans (hb6.mono h6.size)⟩
              case measure => simp [intOf]; omega
            · go_wp2
              go_roundw
              case rel => exact ⟨k + 1, by omega, by omega, by go_num, hbq⟩
              case measure => simp [intOf]; omega
      · have hcase : (decide (k < ss.length) = false) ∨ (k < ss.length ∧ decide ((k : Int) < 8) = false) := by
          by_cases h1 : k < ss.length
          · right; exact ⟨h1, by simp; omega⟩
          · left; simp; omega
        clear hlt
        rcases hcase with hd | ⟨hd0, hd⟩
        all_goals
          go_wp2_with fail
          refine (wakes_any _).mono ?_
          rintro e w2 ⟨rfl, hb2⟩
          go_wp2
          go_ret
          exact ⟨rfl, hb0.trans ((hbel.trans (hb2.mono hbel.size)).mono hb0.size)⟩
end Go.Proofs.Ytijggjgdepjjgaa
