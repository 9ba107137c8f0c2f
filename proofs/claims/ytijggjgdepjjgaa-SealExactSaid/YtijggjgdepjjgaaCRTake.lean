/- Contract of the page own Take. -/
import Derived.Test.YtijggjgdepjjgaaCRPut
import Derived.Deep.QuietTactic
import Derived.BigQuiet
import Derived.Lib.QuietBelow
namespace Go.Proofs.Ytijggjgdepjjgaa
open Go.RowKit Go.Lib

set_option maxRecDepth 100000 in
set_option maxHeartbeats 1000000 in
theorem rTake_any (s : ByteArray) (w : World) (hs : s.size ≤ maxLen) : Calls Try.prog 22 #[.string s] w fun e w' => e = .returned (rtakeV (tk 0 0 s.data.toList)) ∧ Below w.heap.size w w' := by
  unfold maxLen at hs
  go_enter Try.func22, Try.ntmps22
  go_wp2
  go_loopw [5, 6] (fun v i wr => ∃ (k acc : Nat), k ≤ 5 ∧ k ≤ s.size ∧ v = .int .i64 acc ∧ i = .int .i64 k ∧ acc < 2 ^ (7 * k) ∧ acc = val (s.data.toList.take k) ∧ (∀ b ∈ s.data.toList.take k, 128 ≤ b.toNat) ∧ tk 0 0 s.data.toList = tk k acc (s.data.toList.drop k) ∧ Below w.heap.size w wr) (fun _ i _ => 5 - (intOf i).toNat)
  case atStart => exact ⟨0, 0, by omega, by omega, rfl, rfl, by decide, by simp [val], by simp, rfl, Below.refl _ _⟩
  case round =>
    obtain ⟨k, acc, hk5, hks, rfl, rfl, hacc, hval, hall, hd, hbel⟩ := hrel
    have HD := Lib.hid hd
    have HV := Lib.hid hval
    have HA := Lib.hid hall
    clear hd hval hall
    by_cases hlt : k < s.size ∧ k < 5
    · obtain ⟨h1, h2⟩ := hlt
      have HL := Lib.hid (drop_byte s k h1)
      have hc256 := s[k].toNat_lt
      obtain ⟨c, hsk⟩ : ∃ c, s[k].toNat = c := ⟨_, rfl⟩
      rw [hsk] at hc256
      have hX := join_i64 (acc := acc) (c := c) h2 hacc (by omega)
      have hXl := acc_le (c := c) h2 hacc
      have HXn := Lib.hid (acc_lt (c := c) h2 hacc)
      have hvs := val_step s k acc h1 HV.out
      rw [hsk] at hvs
      clear hacc
      obtain ⟨X, hXe⟩ : ∃ X, acc + c % 128 * 2 ^ (7 * k) = X := ⟨_, rfl⟩
      rw [hXe] at hX hXl HXn hvs
      have HX := Lib.hid hXe
      have HVs := Lib.hid hvs
      clear hXe hvs
      have h3 : (k : Int) < s.size := by omega
      by_cases hc : 128 ≤ c
      · have HAs := Lib.hid (all_step s k h1 HA.out (by omega))
        go_wp2
        have hk2 : tk 0 0 s.data.toList = tk (k + 1) X (s.data.toList.drop (k + 1)) := by rw [HD.out, HL.out, tk_more h2 (by omega), hsk, HX.out]
        go_roundw
        case rel => exact ⟨k + 1, X, by omega, by omega, rfl, by go_num, HXn.out, HVs.out, HAs.out, hk2, hbel⟩
        case measure => simp [intOf]; omega
      · have hcl : c < 128 := by omega
        by_cases hX8 : X ≤ 268435456
        · have hd8 : decide ((268435456 : Int) < (X : Int)) = false := by simp; omega
          by_cases hc0 : c = 0 ∧ 0 < k
          · have hq : (uvarint X == (s.extract 0 (k + 1)).toList) = false := by
              have := put_off s k X h1 (by omega)
              rw [extract_toList]; simpa using this
            have hr : rtakeV (tk 0 0 s.data.toList) = rtakeV none := by rw [HD.out, HL.out, tk_bad h2 (by omega) (.inr (by omega))]
            have HR := Lib.hid hr
            clear hr hc0
            go_wp2_with fail
            refine wp_region_quiet_below (by kernel_rfl) (by kernel_rfl) ?_
            repeat (first | go_big_quiet_step (exact Calls.regrown_of (rPut_nat X _ hX8)) | quiet_step (exact Calls.regrown_of (rPut_nat X _ hX8)))
            refine wpQuiet_nil ?_
            intro _ hw'
            obtain ⟨⟨dq, osq⟩, hw''⟩ := hw'
            subst hw''
            have hb2 := hbel.trans ((below_regrown wr dq osq).mono hbel.size)
            generalize Sort.grow (redrawn wr dq) osq = w2 at *
            go_wp2
            go_ret3
            exact ⟨by rw [HR.out]; rfl, hb2⟩
          · have hq : (uvarint X == (s.extract 0 (k + 1)).toList) = true := by
              have := put_back s k acc h1 HV.out HA.out (by omega) (by omega)
              rw [hsk, HX.out] at this
              rw [extract_toList, this]; simp
            have hr : rtakeV (tk 0 0 s.data.toList) = rtakeV (some (X, s.data.toList.drop (k + 1))) := by
              rw [HD.out, HL.out, tk_done h2 (by omega) (by rw [hsk, HX.out]; exact hX8) (by omega), hsk, HX.out]
            have HR := Lib.hid hr
            have HT := Lib.hid (S_tail s (k + 1))
            clear hr hc0
            go_wp2_with fail
            refine wp_region_quiet_below (by kernel_rfl) (by kernel_rfl) ?_
            repeat (first | go_big_quiet_step (exact Calls.regrown_of (rPut_nat X _ hX8)) | quiet_step (exact Calls.regrown_of (rPut_nat X _ hX8)))
            refine wpQuiet_nil ?_
            intro _ hw'
            obtain ⟨⟨dq, osq⟩, hw''⟩ := hw'
            subst hw''
            have hb2 := hbel.trans ((below_regrown wr dq osq).mono hbel.size)
            generalize Sort.grow (redrawn wr dq) osq = w2 at *
            go_wp2
            go_quiet (fail)
            go_wp2
            go_ret3
            refine ⟨?_, below_drewN hb2 _⟩
            rw [HR.out]; show _ = Ending.returned (.tuple #[_, S _, _]); rw [← HT.out]; rfl
        · have hX8' : 268435456 < X := by omega
          have hd8 : decide ((268435456 : Int) < (X : Int)) = true := by simp; omega
          have hr : rtakeV (tk 0 0 s.data.toList) = rtakeV none := by rw [HD.out, HL.out, tk_bad h2 (by omega) (.inl (by rw [hsk, HX.out]; exact hX8'))]
          have HR := Lib.hid hr
          clear hr
          go_wp2
          go_quiet (fail)
          go_wp2
          go_ret3
          exact ⟨by rw [HR.out]; rfl, below_drewN hbel _⟩
    · have hr : rtakeV (tk 0 0 s.data.toList) = rtakeV none := by
        rw [HD.out, tk_end]
        by_cases h5 : 5 ≤ k
        · exact .inr h5
        · left; apply List.drop_eq_nil_of_le; simp; omega
      have HR := Lib.hid hr
      clear hr
      by_cases h5 : k < 5
      · have hnd : decide (k < s.size) = false := by simp; omega
        go_wp2
        go_ret3
        exact ⟨by rw [HR.out]; rfl, hbel⟩
      · have hnd : decide ((k : Int) < 5) = false := by simp; omega
        go_wp2
        go_ret3
        exact ⟨by rw [HR.out]; rfl, hbel⟩

end Go.Proofs.Ytijggjgdepjjgaa
