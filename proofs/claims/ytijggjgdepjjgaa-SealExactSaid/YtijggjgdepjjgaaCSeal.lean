/- Contracts of package seal. -/
import Derived.Test.YtijggjgdepjjgaaCPut
import Derived.Test.YtijggjgdepjjgaaCTake
import Derived.Test.YtijggjgdepjjgaaSPlain
import Derived.IntWalk
namespace Go.Proofs.Ytijggjgdepjjgaa
open Go.RowKit Go.Lib

set_option maxHeartbeats 400000 in
theorem follow_any (h : Nat) (s : ByteArray) (w : World) (hh : h < 4294967291) (hs : s.size ≤ maxLen) : Calls Try.prog 19 #[.int .u64 h, .string s] w fun e w' => e = .returned (.int .u64 (chk h s.data.toList : Nat)) ∧ w = w' := by
  unfold maxLen at hs
  go_enter Try.func19, Try.ntmps19
  go_wp2
  go_loop [0, 8] (fun v i => ∃ (k a : Nat), k ≤ s.size ∧ v = .int .u64 a ∧ i = .int .i64 k ∧ a < 4294967291 ∧ chk h s.data.toList = chk a (s.data.toList.drop k)) (fun _ i => s.size - (intOf i).toNat)
  case atStart => exact ⟨0, h, by omega, rfl, rfl, hh, rfl⟩
  case round =>
    obtain ⟨k, a, hk, rfl, rfl, ha, hd⟩ := hrel
    have HD := Lib.hid hd
    clear hd
    by_cases hlt : k < s.size
    · have HL := Lib.hid (chk_drop s.data.toList a k (by simpa using hlt))
      have hc := s[k].toNat_lt
      have HC := Lib.hid (show s.data.toList[k]'(by simpa using hlt) = s[k] from rfl)
      go_wp2
      go_round
      case rel => exact ⟨k + 1, (a * 263 + s[k].toNat + 7) % 4294967291, by omega, by go_num, by go_num, by omega, by rw [HD.out, HL.out, HC.out]⟩
      case measure => simp [intOf]; omega
    · have HE := Lib.hid (show s.data.toList.drop k = [] from by apply List.drop_eq_nil_of_le; simp; omega)
      go_wp2
      go_ret
      refine ⟨?_, rfl⟩
      rw [HD.out, HE.out]; rfl

theorem Of_any (s : ByteArray) (w : World) (hs : s.size ≤ maxLen) : Calls Try.prog 9 #[.string s] w fun e w' => e = .returned (.int .u32 (chk 1 s.data.toList : Nat)) ∧ w = w' := by
  have hlt := chk_lt s.data.toList 1 (by decide)
  have hf := follow_any 1 s w (by decide) hs
  generalize chk 1 s.data.toList = H at *
  go_enter Try.func9, Try.ntmps9
  go_wp2_with fail
  refine hf.mono ?_
  rintro e w' ⟨rfl, rfl⟩
  go_wp2
  go_ret
  exact ⟨by first | rfl | go_num, rfl⟩

set_option maxHeartbeats 400000 in
theorem checkBytes_any (a b : ByteArray) (w : World) (ha : a.size ≤ maxLen) (hb : b.size ≤ maxLen) : Calls Try.prog 18 #[.string a, .string b] w fun e w' => e = .returned (S (be4 (chk (chk 1 a.data.toList) b.data.toList))) ∧ Below w.heap.size w w' := by
  have h1 := chk_lt a.data.toList 1 (by decide)
  have hf1 := follow_any 1 a w (by decide) ha
  generalize chk 1 a.data.toList = H1 at *
  have h2 := chk_lt b.data.toList H1 h1
  have hf2 := follow_any H1 b w h1 hb
  generalize chk H1 b.data.toList = H at *
  have hcv := conv_four w 30 9 5 ((H : Int) / 16777216) ((H : Int) / 65536 % 256) ((H : Int) / 256 % 256) ((H : Int) % 256) Try.underlying30 Try.underlying5 Try.underlying9 (by omega) (by omega) (by omega) (by omega)
  rw [be4_S (h := H) (by omega) rfl rfl rfl] at hcv
  go_enter Try.func18, Try.ntmps18
  go_wp2_with fail
  refine hf1.mono ?_
  rintro e w' ⟨rfl, rfl⟩
  go_wp2_with fail
  refine hf2.mono ?_
  rintro e w' ⟨rfl, rfl⟩
  go_wp2
  go_ret
  exact ⟨rfl, (Below.refl _ _).alloc (Nat.le_refl _) _⟩

theorem S_three (a b : List UInt8) (s : ByteArray) : Value.string ((⟨a.toArray⟩ : ByteArray) ++ (⟨b.toArray⟩ : ByteArray) ++ s) = S (a ++ (b ++ s.data.toList)) := by
  congr 1
  apply ByteArray.ext
  simp
theorem Add_yes (s : ByteArray) (w : World) (h : s.size ≤ 700) : Calls Try.prog 8 #[.string s] w fun e w' => e = .returned (S (frameOf s.data.toList)) ∧ Below w.heap.size w w' := by
  have hu := uv700 h
  have hl := len_size s
  have HF := Lib.hid (frameOf_yes (l := s.data.toList) (by omega))
  have hp := Put_nat s.size w (by omega)
  obtain ⟨U, hU⟩ : ∃ U, uvarint s.size = U := ⟨_, rfl⟩
  have HU := Lib.hid hU
  rw [hU] at hu hp
  have hcb := fun w => checkBytes_any ⟨U.toArray⟩ s w (by show U.length ≤ _; unfold maxLen; omega) (by unfold maxLen; omega)
  have hfc : chk (chk 1 U) s.data.toList = fchk s.data.toList := by unfold fchk; rw [hl, HU.out]
  have ecb : chk (chk 1 (⟨U.toArray⟩ : ByteArray).data.toList) s.data.toList = fchk s.data.toList := hfc
  simp only [ecb] at hcb
  have HB := Lib.hid (be4_len (fchk s.data.toList))
  obtain ⟨B, hB⟩ : ∃ B, be4 (fchk s.data.toList) = B := ⟨_, rfl⟩
  have hB4 : B.length = 4 := by rw [← hB]; exact HB.out
  simp only [hB] at hcb
  have hB4a : B.length ≤ 4 := by omega
  have HBe := Lib.hid hB
  have HL := Lib.hid hl
  have HCB := Lib.hid hcb
  have HP := Lib.hid hp
  have HJ := Lib.hid (S_three U B s)
  clear hU hl hfc ecb hB hB4 HB hcb hp
  go_enter Try.func8, Try.ntmps8
  go_wp2_with fail
  refine HP.out.mono ?_
  rintro e w1 ⟨rfl, hb⟩
  go_wp2_with fail
  refine (HCB.out _).mono ?_
  rintro e w2 ⟨rfl, hb2⟩
  go_wp2
  go_ret
  refine ⟨?_, hb.trans (hb2.mono hb.size)⟩
  rw [HF.out, HL.out, HU.out, HBe.out, ← HJ.out]
  rfl

theorem Add_no (s : ByteArray) (w : World) (hs : s.size ≤ maxLen) (h : 700 < s.size) : Calls Try.prog 8 #[.string s] w fun e w' => e = .returned (S (frameOf s.data.toList)) ∧ Below w.heap.size w w' := by
  unfold maxLen at hs
  have HF := Lib.hid (frameOf_no (l := s.data.toList) (by rw [len_size]; omega))
  have hd : decide ((700 : Int) < (s.size : Int)) = true := by simp; omega
  go_enter Try.func8, Try.ntmps8
  go_wp2
  go_ret
  exact ⟨by rw [HF.out]; rfl, Below.refl _ _⟩

theorem Add_any (s : ByteArray) (w : World) (hs : s.size ≤ maxLen) : Calls Try.prog 8 #[.string s] w fun e w' => e = .returned (S (frameOf s.data.toList)) ∧ Below w.heap.size w w' := by
  by_cases h : s.size ≤ 700
  · exact Add_yes s w h
  · exact Add_no s w hs (by omega)

end Go.Proofs.Ytijggjgdepjjgaa
