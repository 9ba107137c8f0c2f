/- Contracts of the page's own Check, Frame and Unframe. -/
import Derived.Test.YtijggjgdepjjgaaCRPut
import Derived.Test.YtijggjgdepjjgaaCRTake
import Derived.Test.YtijggjgdepjjgaaCSealTake
namespace Go.Proofs.Ytijggjgdepjjgaa
open Go.RowKit Go.Lib

set_option maxHeartbeats 400000 in
theorem rCheck_any (s : ByteArray) (w : World) (hs : s.size ≤ maxLen) : Calls Try.prog 10 #[.string s] w fun e w' => e = .returned (.int .u32 (chk 1 s.data.toList : Nat)) ∧ w = w' := by
  unfold maxLen at hs
  go_enter Try.func10, Try.ntmps10
  go_wp2
  go_loop [3, 4] (fun v i => ∃ (k a : Nat), k ≤ s.size ∧ v = .int .u64 a ∧ i = .int .i64 k ∧ a < 4294967291 ∧ chk 1 s.data.toList = chk a (s.data.toList.drop k)) (fun _ i => s.size - (intOf i).toNat)
  case atStart => exact ⟨0, 1, by omega, rfl, rfl, by omega, rfl⟩
  case round =>
    obtain ⟨k, a, hk, rfl, rfl, ha, hd⟩ := hrel
    have HD := Lib.hid hd
    clear hd
    by_cases hlt : k < s.size
    · have HL := Lib.hid (chk_drop s.data.toList a k (by simpa using hlt))
      have hc := s[k].toNat_lt
      have HC := Lib.hid (show s.data.toList[k]'(by simpa using hlt) = s[k] from rfl)
      go_wp2
      go_round
      case rel => exact ⟨k + 1, (a * 263 + s[k].toNat + 7) % 4294967291, by omega, by go_num, by go_num, by omega, by rw [HD.out, HL.out, HC.out]⟩
      case measure => simp [intOf]; omega
    · have HE := Lib.hid (show s.data.toList.drop k = [] from by apply List.drop_eq_nil_of_le; simp; omega)
      go_wp2
      go_ret
      refine ⟨?_, rfl⟩
      rw [HD.out, HE.out]; rfl

theorem rFrame_yes (s : ByteArray) (w : World) (h : s.size ≤ 700) : Calls Try.prog 11 #[.string s] w fun e w' => e = .returned (S (frameOf s.data.toList)) ∧ Below w.heap.size w w' := by
  have hu := uv700 h
  have hl := len_size s
  have HF := Lib.hid (frameOf_yes (l := s.data.toList) (by omega))
  have hp := rPut_nat s.size w (by omega)
  obtain ⟨U, hU⟩ : ∃ U, uvarint s.size = U := ⟨_, rfl⟩
  have HU := Lib.hid hU
  rw [hU] at hu hp
  have hck := fun w => rCheck_any ((⟨U.toArray⟩ : ByteArray) ++ s) w (by rw [joined_size]; unfold maxLen; omega)
  have hfc : chk 1 ((⟨U.toArray⟩ : ByteArray) ++ s).data.toList = fchk s.data.toList := by rw [joined_list, chk_append]; unfold fchk; rw [hl, HU.out]
  simp only [hfc] at hck
  have hH := fchk_lt s.data.toList
  have hB4 := be4_len (fchk s.data.toList)
  generalize fchk s.data.toList = H at *
  have hcv := fun w => conv_four w 30 9 5 ((H : Int) / 16777216) ((H : Int) / 65536 % 256) ((H : Int) / 256 % 256) ((H : Int) % 256) Try.underlying30 Try.underlying5 Try.underlying9 (by omega) (by omega) (by omega) (by omega)
  simp only [be4_S (h := H) (x0 := (H : Int) / 16777216) (by omega) rfl rfl rfl] at hcv
  obtain ⟨B, hB⟩ : ∃ B, be4 H = B := ⟨_, rfl⟩
  simp only [hB] at hcv hB4
  have hB4a : B.length ≤ 4 := by omega
  have HBe := Lib.hid hB
  have HL := Lib.hid hl
  have HCK := Lib.hid hck
  have HP := Lib.hid hp
  have HJ := Lib.hid (S_three U B s)
  clear hU hl hfc hB hB4 hck hp
  go_enter Try.func11, Try.ntmps11
  go_wp2_with fail
  refine HP.out.mono ?_
  rintro e w1 ⟨rfl, hb⟩
  go_wp2_with fail
  refine (HCK.out _).mono ?_
  rintro e w2 ⟨rfl, rfl⟩
  have hcv1 := hcv w1
  clear hcv
  go_wp2
  go_ret
  refine ⟨?_, hb.alloc hb.size _⟩
  rw [HF.out, HL.out, HU.out, HBe.out, ← HJ.out]
  rfl

theorem rFrame_no (s : ByteArray) (w : World) (hs : s.size ≤ maxLen) (h : 700 < s.size) : Calls Try.prog 11 #[.string s] w fun e w' => e = .returned (S (frameOf s.data.toList)) ∧ Below w.heap.size w w' := by
  unfold maxLen at hs
  have HF := Lib.hid (frameOf_no (l := s.data.toList) (by rw [len_size]; omega))
  have hd : decide ((700 : Int) < (s.size : Int)) = true := by simp; omega
  go_enter Try.func11, Try.ntmps11
  go_wp2
  go_ret
  exact ⟨by rw [HF.out]; rfl, Below.refl _ _⟩

theorem rFrame_any (s : ByteArray) (w : World) (hs : s.size ≤ maxLen) : Calls Try.prog 11 #[.string s] w fun e w' => e = .returned (S (frameOf s.data.toList)) ∧ Below w.heap.size w w' := by
  by_cases h : s.size ≤ 700
  · exact rFrame_yes s w h
  · exact rFrame_no s w hs (by omega)

end Go.Proofs.Ytijggjgdepjjgaa
