/- Contract of number.Take. -/
import Derived.Test.YtijggjgdepjjgaaCBase
import Derived.Deep.QuietTactic
import Derived.BigQuiet
namespace Go.Proofs.Ytijggjgdepjjgaa
open Go.RowKit Go.Lib

set_option maxRecDepth 100000 in
set_option maxHeartbeats 1000000 in
theorem Take_any (s : ByteArray) (w : World) (hs : s.size ≤ maxLen) : Calls Try.prog 21 #[.string s] w fun e w' => e = .returned (takeV (tk 0 0 s.data.toList)) ∧ Below w.heap.size w w' := by
  unfold maxLen at hs
  go_enter Try.func21, Try.ntmps21
  go_wp2
  all_goals
    go_loopw [5, 11] (fun v i wr => ∃ (k acc : Nat), k ≤ 5 ∧ k ≤ s.size ∧ v = .int .u64 acc ∧ i = .int .i64 k ∧ acc < 2 ^ (7 * k) ∧ tk 0 0 s.data.toList = tk k acc (s.data.toList.drop k) ∧ Below w.heap.size w wr) (fun _ i _ => 5 - (intOf i).toNat)
    case atStart => exact ⟨0, 0, by omega, by omega, rfl, rfl, by decide, rfl, Below.refl _ _⟩
    case round =>
      obtain ⟨k, acc, hk5, hks, rfl, rfl, hacc, hd, hbel⟩ := hrel
      have HD := Lib.hid hd
      clear hd
      by_cases hlt : k < s.size ∧ k < 5
      · obtain ⟨h1, h2⟩ := hlt
        have HL := Lib.hid (drop_byte s k h1)
        have hc256 := s[k].toNat_lt
        obtain ⟨c, hsk⟩ : ∃ c, s[k].toNat = c := ⟨_, rfl⟩
        rw [hsk] at hc256
        have hX := join_u64 (acc := acc) (c := c) h2 hacc (by omega)
        have hXl := acc_le (c := c) h2 hacc
        have HXn := Lib.hid (acc_lt (c := c) h2 hacc)
        clear hacc
        obtain ⟨X, hXe⟩ : ∃ X, acc + c % 128 * 2 ^ (7 * k) = X := ⟨_, rfl⟩
        rw [hXe] at hX hXl HXn
        have HX := Lib.hid hXe
        clear hXe
        by_cases hc : 128 ≤ c
        · go_wp2
          have hk2 : tk 0 0 s.data.toList = tk (k + 1) X (s.data.toList.drop (k + 1)) := by rw [HD.out, HL.out, tk_more h2 (by omega), hsk, HX.out]
          go_roundw
          case rel => exact ⟨k + 1, X, by omega, by omega, rfl, by go_num, HXn.out, hk2, hbel⟩
          case measure => simp [intOf]; omega
        · have hcl : c < 128 := by omega
          by_cases hX8 : X ≤ 268435456
          · by_cases hc0 : c = 0 ∧ 0 < k
            · obtain ⟨hc1, hk1⟩ := hc0
              have hc1' : ((c : Int) == 0) = true := by simp [hc1]
              have hr : takeV (tk 0 0 s.data.toList) = takeV none := by rw [HD.out, HL.out, tk_bad h2 (by omega) (.inr ⟨by omega, hk1⟩)]
              have HR := Lib.hid hr
              clear hr hc1
              go_wp2
              go_ret3
              exact ⟨by rw [HR.out]; rfl, hbel⟩
            · have hr : takeV (tk 0 0 s.data.toList) = takeV (some (X, s.data.toList.drop (k + 1))) := by
                rw [HD.out, HL.out, tk_done h2 (by omega) (by rw [hsk, HX.out]; exact hX8) (by omega), hsk, HX.out]
              have HR := Lib.hid hr
              clear hr
              have hw : IntKind.i64.wrap (X : Int) = (X : Int) := IntWalk.i64_in _ ⟨by omega, by omega⟩
              have ht := S_tail s (k + 1)
              have HT := Lib.hid ht
              clear ht
              by_cases hcz : c = 0
              · have hk0 : k = 0 := by omega
                have hcz' : ((c : Int) == 0) = true := by simp [hcz]
                have hkz : decide (0 < k) = false := by simp [hk0]
                clear hcz hk0 hc0
                go_wp2
                go_quiet (fail)
                go_wp2
                go_ret3
                refine ⟨?_, ?_⟩
                · rw [HR.out]; show _ = Ending.returned (.tuple #[_, S _, _]); rw [← HT.out]; rfl
                · exact below_drewN hbel _
              · have hcz' : ((c : Int) == 0) = false := by simp [hcz]
                clear hcz hc0
                go_wp2
                go_quiet (fail)
                go_wp2
                go_ret3
                refine ⟨?_, ?_⟩
                · rw [HR.out]; show _ = Ending.returned (.tuple #[_, S _, _]); rw [← HT.out]; rfl
                · exact below_drewN hbel _
          · have hX8' : 268435456 < X := by omega
            have hr : takeV (tk 0 0 s.data.toList) = takeV none := by rw [HD.out, HL.out, tk_bad h2 (by omega) (.inl (by rw [hsk, HX.out]; exact hX8'))]
            have HR := Lib.hid hr
            clear hr
            go_wp2
            go_ret3
            exact ⟨by rw [HR.out]; rfl, hbel⟩
      · have hr : takeV (tk 0 0 s.data.toList) = takeV none := by
          rw [HD.out, tk_end]
          by_cases h5 : 5 ≤ k
          · exact .inr h5
          · left; apply List.drop_eq_nil_of_le; simp; omega
        have HR := Lib.hid hr
        clear hr
        go_wp2
        go_ret3
        exact ⟨by rw [HR.out]; rfl, hbel⟩

end Go.Proofs.Ytijggjgdepjjgaa
