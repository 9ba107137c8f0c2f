/- The law SealTorn: the walk. -/
import Derived.Test.YtijggjgdepjjgaaCWakes2
import Derived.Test.YtijggjgdepjjgaaCHeavy
namespace Go.Proofs.Ytijggjgdepjjgaa
open Go.RowKit Go.Lib

theorem sealed_torn (s : ByteArray) (F : List UInt8) (j : Nat) (w : World) (hF : frameOf s.data.toList = F) (hs : s.size ≤ 700) (hj : j < F.length) :
    Calls Try.prog 12 #[.string ((⟨F.toArray⟩ : ByteArray).extract 0 j)] w fun e w' => e = .returned (.tuple #[S [], S [], .bool false]) ∧ Below w.heap.size w w' := by
  have hl := frameOf_le s.data.toList
  rw [hF] at hl
  have h := sTake_any ((⟨F.toArray⟩ : ByteArray).extract 0 j) w (by
    have := len_size ((⟨F.toArray⟩ : ByteArray).extract 0 j)
    rw [cut_list, List.length_take] at this
    unfold maxLen; omega)
  rw [cut_list, ← hF, unf_torn (by rw [len_size]; omega) j (by rw [hF]; exact hj)] at h
  rw [hF] at h
  exact h
theorem torn_const (w : World) : Calls Try.prog 12 #[.string ⟨#[255, 255, 255, 127]⟩] w fun e w' => e = .returned (.tuple #[S [], S [], .bool false]) ∧ Below w.heap.size w w' := by
  have h := sTake_any ⟨#[255, 255, 255, 127]⟩ w (by decide)
  have e : tk 0 0 (⟨#[255, 255, 255, 127]⟩ : ByteArray).data.toList = some (268435455, []) := by decide
  rw [unf_not e (unfB_long (.inl (by decide)))] at h
  exact h

set_option maxRecDepth 100000 in
set_option maxHeartbeats 1000000 in
theorem torn_walk (v0 : Value) (a1 : Option Addr) (c1 : Nat) (ss : List ByteArray) (w : World) (hs : StrsAt w a1 ss) :
    Calls Try.prog 6 #[.agg #[v0, .slice a1 ss.length c1]] w fun e w' => e = .returned (.bool true) ∧ Below w.heap.size w w' := by
  have hb0 : Below w.heap.size w (w.alloc (.cells #[v0, .slice a1 ss.length c1] 25)) := (Below.refl _ _).alloc (Nat.le_refl _) _
  have hcS : (w.alloc (.cells #[v0, .slice a1 ss.length c1] 25)).cell? ⟨w.heap.size, 1, none⟩ = some (.slice a1 ss.length c1) := by simp
  have hz0 : (w.alloc (.cells #[v0, .slice a1 ss.length c1] 25)).heap.size = w.heap.size + 1 := by simp
  have HSS := Lib.hid (hs.below hb0)
  have hsl := hs.len
  unfold BIG at hsl
  clear hs
  go_enter Try.func6, Try.ntmps6
  go_wp2
  generalize w.alloc (.cells #[v0, .slice a1 ss.length c1] 25) = W0 at *
  have HZ := Lib.hid hz0
  clear hz0
  go_loopw [3] (fun i wr => ∃ (k : Nat), k ≤ 8 ∧ k ≤ ss.length ∧ i = .int .i64 k ∧ Below W0.heap.size W0 wr) (fun i _ => 8 - (intOf i).toNat)
  case atStart => exact ⟨0, by omega, by omega, rfl, Below.refl _ _⟩
  case round =>
    obtain ⟨k, hk8, hks, rfl, hbel⟩ := hrel
    have hS : wr.cell? ⟨w.heap.size, 1, none⟩ = some (.slice a1 ss.length c1) := (hbel.cell (by have := HZ.out; simp; omega)).trans hcS
    by_cases hlt : k < ss.length ∧ k < 8
    · obtain ⟨h1, h2⟩ := hlt
      obtain ⟨b, off, ha, hbz, hcz⟩ := HSS.out.cell k h1
      have hcr : wr.cell? ⟨b, off + k, none⟩ = some (.string ss[k]) := (hbel.cell hbz).trans hcz
      have hsz : ss[k].size ≤ 140737488351232 := HSS.out.size k h1
      clear hcz
      generalize ss[k] = s at *
      subst ha
      have h2i : (k : Int) < 8 := by omega
      have hx : (s.extract 0 200).size ≤ 200 := by simp [ByteArray.size_extract]; omega
      by_cases hcase : 200 < s.size
      all_goals
        first
          | (have hd : decide ((200 : Int) < (s.size : Int)) = true := by simp; omega)
          | (have hd : decide ((200 : Int) < (s.size : Int)) = false := by simp; omega)
        go_wp2_with fail
        first
          | (have hmark : 200 < s.size := hcase
             generalize s.extract 0 200 = T at *; clear hd hcase hmark)
          | (clear hx; have hx : s.size ≤ 200 := by omega
             clear hd hcase hsz; generalize s = T at *)
        have hA := fun w => Add_any T w (by unfold maxLen; omega)
        have hFl := frameOf_le T.data.toList
        obtain ⟨F, hF⟩ : ∃ F, frameOf T.data.toList = F := ⟨_, rfl⟩
        simp only [hF] at hA
        rw [hF] at hFl
        have HF := Lib.hid hF
        clear hF
        refine (hA _).mono ?_
        rintro e w1 ⟨rfl, hb1⟩
        have hbw1 : Below W0.heap.size W0 w1 := hbel.trans (hb1.mono hbel.size)
        clear hA hb1 hbel hS hcr
        go_wp2_with fail
        go_loopw [6] (fun i wq => ∃ (j : Nat), j ≤ F.length ∧ i = .int .i64 j ∧ Below W0.heap.size W0 wq) (fun i _ => F.length - (intOf i).toNat)
        case atStart => exact ⟨0, by omega, rfl, hbw1⟩
        case round =>
          clear hbw1
          obtain ⟨j, hj, rfl, hbq⟩ := hrel
          by_cases hjl : j < F.length
          · go_wp2_with fail
            refine (sealed_torn T F j _ HF.out (by omega) hjl).mono ?_
            rintro e w5 ⟨rfl, hb5⟩
            go_wp2
            go_roundw
            case rel => exact ⟨j + 1, by omega, by go_num, hbq.trans (hb5.mono hbq.size)⟩
            case measure => simp [intOf]; omega
          · go_wp2
            go_roundw
            case rel => exact ⟨k + 1, by omega, by omega, by go_num, hbq⟩
            case measure => simp [intOf]; omega
    · have hcase : (decide (k < ss.length) = false) ∨ (k < ss.length ∧ decide ((k : Int) < 8) = false) := by
        by_cases h1 : k < ss.length
        · right; exact ⟨h1, by simp; omega⟩
        · left; simp; omega
      clear hlt
      rcases hcase with hd | ⟨hd0, hd⟩
      all_goals
        go_wp2_with fail
        refine (torn_const _).mono ?_
        rintro e w1 ⟨rfl, hb1⟩
        go_wp2_with fail
        refine (wakes_any _).mono ?_
        rintro e w2 ⟨rfl, hb2⟩
        go_wp2
        go_ret
        have h12 := hbel.trans (hb1.mono hbel.size)
        exact ⟨rfl, hb0.trans ((h12.trans (hb2.mono h12.size)).mono hb0.size)⟩
end Go.Proofs.Ytijggjgdepjjgaa
