/- contracts of the readers and writers of texts -/
import Derived.Test.YtanegkjmalbhcaaNumB
import Derived.Test.YtanegkjmalbhcaaNumC
namespace Go.Proofs.Ytanegkjmalbhcaa
open Go.RowKit Go.Lib

set_option maxRecDepth 100000 in
theorem TakeText_any (s : ByteArray) (w : World) (hs : s.size ≤ maxLen) : Calls Try.prog 15 #[.string s] w fun e w' => e = .returned (ttV (tkText s.data.toList)) ∧ Below w.heap.size w w' := by
  have hT := Take_any s w hs
  unfold maxLen at hs
  cases hk : tk 0 0 s.data.toList with
  | none =>
    rw [hk] at hT
    have HR := Lib.hid (tkText_none hk)
    have HT := Lib.hid hT
    clear hk hT
    go_enter Try.func15, Try.ntmps15
    go_wp2_with fail
    refine HT.out.mono ?_
    rintro e w1 ⟨rfl, hb⟩
    simp only [takeV]
    go_wp2
    go_ret3
    exact ⟨by rw [HR.out]; rfl, hb⟩
  | some p =>
    obtain ⟨n, r⟩ := p
    rw [hk] at hT
    have hl := tk_len _ _ _ _ _ hk
    have hz : s.data.toList.length = s.size := by simp
    rw [hz] at hl
    clear hz
    have HK := Lib.hid hk
    have HT := Lib.hid hT
    clear hk hT
    by_cases hn : n ≤ r.length
    · have HR := Lib.hid (tkText_some HK.out hn)
      have hn' : decide ((r.length : Int) < (n : Int)) = false := by simp; omega
      go_enter Try.func15, Try.ntmps15
      go_wp2_with fail
      refine HT.out.mono ?_
      rintro e w1 ⟨rfl, hb⟩
      simp only [takeV]
      go_wp2
      go_quiet (fail)
      go_wp2
      go_ret3
      refine ⟨?_, below_drewN hb _⟩
      rw [HR.out]
      exact S_cut r n _
    · have HR := Lib.hid (tkText_short HK.out hn)
      have hn' : decide ((r.length : Int) < (n : Int)) = true := by simp; omega
      go_enter Try.func15, Try.ntmps15
      go_wp2_with fail
      refine HT.out.mono ?_
      rintro e w1 ⟨rfl, hb⟩
      simp only [takeV]
      go_wp2
      go_ret3
      exact ⟨by rw [HR.out]; rfl, hb⟩
set_option maxRecDepth 100000 in
theorem rTakeText_any (s : ByteArray) (w : World) (hs : s.size ≤ maxLen) : Calls Try.prog 16 #[.string s] w fun e w' => e = .returned (rttV (tkText s.data.toList)) ∧ Below w.heap.size w w' := by
  have hT := rTake_any s w hs
  unfold maxLen at hs
  cases hk : tk 0 0 s.data.toList with
  | none =>
    rw [hk] at hT
    have HR := Lib.hid (tkText_none hk)
    have HT := Lib.hid hT
    clear hk hT
    go_enter Try.func16, Try.ntmps16
    go_wp2_with fail
    refine HT.out.mono ?_
    rintro e w1 ⟨rfl, hb⟩
    simp only [rtakeV]
    go_wp2
    go_ret3
    exact ⟨by rw [HR.out]; rfl, hb⟩
  | some p =>
    obtain ⟨n, r⟩ := p
    rw [hk] at hT
    have hl := tk_len _ _ _ _ _ hk
    have hz : s.data.toList.length = s.size := by simp
    rw [hz] at hl
    clear hz
    have HK := Lib.hid hk
    have HT := Lib.hid hT
    clear hk hT
    by_cases hn : n ≤ r.length
    · have HR := Lib.hid (tkText_some HK.out hn)
      have hn' : decide ((r.length : Int) < (n : Int)) = false := by simp; omega
      go_enter Try.func16, Try.ntmps16
      go_wp2_with fail
      refine HT.out.mono ?_
      rintro e w1 ⟨rfl, hb⟩
      simp only [rtakeV]
      go_wp2
      go_quiet (fail)
      go_wp2
      go_ret3
      refine ⟨?_, below_drewN hb _⟩
      rw [HR.out]
      exact S_cut r n _
    · have HR := Lib.hid (tkText_short HK.out hn)
      have hn' : decide ((r.length : Int) < (n : Int)) = true := by simp; omega
      go_enter Try.func16, Try.ntmps16
      go_wp2_with fail
      refine HT.out.mono ?_
      rintro e w1 ⟨rfl, hb⟩
      simp only [rtakeV]
      go_wp2
      go_ret3
      exact ⟨by rw [HR.out]; rfl, hb⟩

theorem Text_long (s : ByteArray) (w : World) (hs : s.size ≤ maxLen) (h : 268435456 < s.size) : Calls Try.prog 17 #[.string s] w fun e w' => e = .returned (S []) ∧ w = w' := by
  unfold maxLen at hs
  go_enter Try.func17, Try.ntmps17
  go_wp2_with fail
  refine (Put_bad _ _ (okB_no (by omega))).mono ?_
  rintro e w1 ⟨rfl, rfl⟩
  go_wp2
  go_ret
  exact ⟨rfl, rfl⟩

theorem Text_any (s : ByteArray) (w : World) (h : s.size ≤ 268435456) : Calls Try.prog 17 #[.string s] w fun e w' => e = .returned (S (uvarint s.size ++ s.data.toList)) ∧ Below w.heap.size w w' := by
  have hu : (uvarint s.size).length ≤ 5 := uvarint_length 4 s.size (by simp; omega)
  have HJ := Lib.hid (S_join (uvarint s.size) s)
  go_enter Try.func17, Try.ntmps17
  go_wp2_with fail
  refine (Put_nat _ _ h).mono ?_
  rintro e w1 ⟨rfl, hb⟩
  go_wp2
  go_ret
  refine ⟨?_, hb⟩
  rw [← HJ.out]
  rfl

theorem rText_any (s : ByteArray) (w : World) (h : s.size ≤ 268435456) : Calls Try.prog 18 #[.string s] w fun e w' => e = .returned (S (uvarint s.size ++ s.data.toList)) ∧ Below w.heap.size w w' := by
  have hu : (uvarint s.size).length ≤ 5 := uvarint_length 4 s.size (by simp; omega)
  have HJ := Lib.hid (S_join (uvarint s.size) s)
  go_enter Try.func18, Try.ntmps18
  go_wp2_with fail
  refine (rPut_nat _ _ h).mono ?_
  rintro e w1 ⟨rfl, hb⟩
  go_wp2
  go_ret
  refine ⟨?_, hb⟩
  rw [← HJ.out]
  rfl

theorem rNum_yes (n : Int) (w : World) (h : okB n = true) : Calls Try.prog 10 #[.int .i64 n, .int .i64 268435456] w fun e w' => e = .returned (.bool true) ∧ w = w' := by
  obtain ⟨h0, h1⟩ := okB_of h
  go_enter Try.func10, Try.ntmps10
  go_wp2
  go_ret
  exact ⟨rfl, rfl⟩
theorem rNum_no (n : Int) (w : World) (h : okB n = false) : Calls Try.prog 10 #[.int .i64 n, .int .i64 268435456] w fun e w' => e = .returned (.bool false) ∧ w = w' := by
  have h0 := okB_not h
  by_cases h1 : 0 ≤ n
  · have h2 : decide (n ≤ 268435456) = false := by simp; omega
    go_enter Try.func10, Try.ntmps10
    go_wp2
    go_ret
    exact ⟨rfl, rfl⟩
  · have h2 : n < 0 := by omega
    go_enter Try.func10, Try.ntmps10
    go_wp2
    go_ret
    exact ⟨rfl, rfl⟩

end Go.Proofs.Ytanegkjmalbhcaa
