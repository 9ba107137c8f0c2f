/- Contract of the page's own Unframe. -/
import Derived.Test.YtijggjgdepjjgaaCRSeal
namespace Go.Proofs.Ytijggjgdepjjgaa
open Go.RowKit Go.Lib

theorem cut_any (s : ByteArray) (a : Nat) : s.extract 0 a = ⟨(s.data.toList.take a).toArray⟩ := Value.string.inj (S_head s a)
theorem frame_eq {n : Nat} {r : List UInt8} (h1 : n ≤ 700) (h2 : n + 4 ≤ r.length) :
    ((uvarint n ++ r).take (frameOf ((r.drop 4).take n)).length == frameOf ((r.drop 4).take n)) = (r.take 4 == be4 (chk (chk 1 (uvarint n)) ((r.drop 4).take n))) := by
  have hl : ((r.drop 4).take n).length = n := by rw [List.length_take, List.length_drop]; omega
  have hr : r.take (4 + n) = r.take 4 ++ (r.drop 4).take n := List.take_add
  rw [frameOf_len (by omega), frameOf_yes (by omega), hl]
  have e1 : (uvarint n ++ r).take ((uvarint n).length + 4 + n) = uvarint n ++ (r.take 4 ++ (r.drop 4).take n) := by
    rw [List.take_append, List.take_of_length_le (by omega), ← hr]
    congr 2; omega
  rw [e1]
  have e2 : fchk ((r.drop 4).take n) = chk (chk 1 (uvarint n)) ((r.drop 4).take n) := by unfold fchk; rw [hl]
  rw [e2, Bool.eq_iff_iff]
  simp

set_option maxRecDepth 100000 in
set_option maxHeartbeats 1000000 in
theorem rUnframe_any (s : ByteArray) (w : World) (hs : s.size ≤ maxLen) : Calls Try.prog 13 #[.string s] w fun e w' => e = .returned (rttV (unf s.data.toList)) ∧ Below w.heap.size w w' := by
  have hT := rTake_any s w hs
  unfold maxLen at hs
  cases hk : tk 0 0 s.data.toList with
  | none =>
    rw [hk] at hT
    have HR := Lib.hid (unf_none hk)
    have HT := Lib.hid hT
    clear hk hT
    go_enter Try.func13, Try.ntmps13
    go_wp2_with fail
    refine HT.out.mono ?_
    rintro e w1 ⟨rfl, hb⟩
    simp only [rtakeV]
    go_wp2
    go_ret3
    exact ⟨by rw [HR.out]; rfl, hb⟩
  | some p =>
    obtain ⟨n, r⟩ := p
    rw [hk] at hT
    have hl := tk_len _ _ _ _ _ hk
    rw [len_size] at hl
    obtain ⟨_, hz⟩ := take_uv s hk
    have hsp := tk_uv hk
    have HK := Lib.hid hk
    have HT := Lib.hid hT
    clear hk hT
    by_cases hn : n ≤ 700
    · have hd7 : decide ((700 : Int) < (n : Int)) = false := by simp; omega
      by_cases hr : n + 4 ≤ r.length
      · have hu := uv700 hn
        have hX : ((r.drop 4).take n).length = n := by rw [List.length_take, List.length_drop]; omega
        have hfr := fun w => rFrame_any ⟨((r.drop 4).take n).toArray⟩ w (by show ((r.drop 4).take n).length ≤ _; rw [hX]; unfold maxLen; omega)
        have hfl := frameOf_len (l := (r.drop 4).take n) (by omega)
        rw [hX] at hfl
        simp only at hfr
        have hB := (unfB_check hn hr).trans (frame_eq hn hr).symm
        rw [← hsp] at hB
        have e4 := cut_any s (frameOf ((r.drop 4).take n)).length
        have e2 := cut_mid r 4 (4 + n)
        rw [show 4 + n - 4 = n from by omega] at e2
        have e3 := cut_last r (4 + n)
        have hyes := fun h => unf_some (n := n) HK.out h
        have hno := fun h => unf_not (n := n) HK.out h
        rw [hB] at hyes hno
        generalize frameOf ((r.drop 4).take n) = F at *
        generalize hXX : (r.drop 4).take n = X at *
        generalize hR : r.drop (4 + n) = R at *
        generalize hC : s.data.toList.take F.length = C at *
        have hF1 : F.length ≤ s.size := by omega
        have HY := Lib.hid hyes
        have HN := Lib.hid hno
        have HFR := Lib.hid hfr
        clear hXX hR hC hyes hno hfr hB hfl hsp hX
        have hdr : decide ((r.length : Int) < 4 + (n : Int)) = false := by simp; omega
        have hzl : r.length ≤ s.size := by omega
        have HZ := Lib.hid hz
        clear hz
        have h4i : (4 : Int) + (n : Int) ≤ (r.length : Int) := by omega
        have E2 := Lib.hid e2
        have E3 := Lib.hid e3
        have hw4 : IntKind.i64.wrap (4 + (n : Int)) = 4 + (n : Int) := IntWalk.i64_in _ (by omega)
        have hw5 : (4 + (n : Int)).toNat = 4 + n := by omega
        have hw6 : (0 : Int) ≤ 4 + (n : Int) := by omega
        have hsl := fun wx => run_slice_string (P := Try.prog) wx 9 ⟨r.toArray⟩ .i64 .i64 4 (4 + (n : Int)) Try.underlying9 (by omega) (by omega) h4i
        rw [show (4 : Int).toNat = 4 from rfl, hw5, E2.out] at hsl
        clear e2 e3
        by_cases hq : C = F
        · have hq' : (C == F) = true := by simp [hq]
          have HR := Lib.hid (HY.out hq')
          have HCF := Lib.hid hq
          clear hq
          go_enter Try.func13, Try.ntmps13
          go_wp2_with fail
          refine HT.out.mono ?_
          rintro e w1 ⟨rfl, hb⟩
          simp only [rtakeV]
          go_wp2_with fail
          refine (HFR.out _).mono ?_
          rintro e w2 ⟨rfl, hb2⟩
          clear hsl
          go_wp2
          go_quiet (fail)
          rw [E3.out]
          go_wp2
          go_ret3
          refine ⟨?_, below_drewN (hb.trans (hb2.mono hb.size)) _⟩
          rw [HR.out]
          rfl
        · have hq' : (C == F) = false := by simp [hq]
          have HR := Lib.hid (HN.out hq')
          clear hq
          go_enter Try.func13, Try.ntmps13
          go_wp2_with fail
          refine HT.out.mono ?_
          rintro e w1 ⟨rfl, hb⟩
          simp only [rtakeV]
          go_wp2_with fail
          refine (HFR.out _).mono ?_
          rintro e w2 ⟨rfl, hb2⟩
          clear hsl
          go_wp2
          go_ret3
          refine ⟨?_, hb.trans (hb2.mono hb.size)⟩
          rw [HR.out]
          rfl
      · have HR := Lib.hid (unf_not HK.out (unfB_long (.inr (by omega))))
        have hdr : decide ((r.length : Int) < 4 + (n : Int)) = true := by simp; omega
        clear hz hsp
        go_enter Try.func13, Try.ntmps13
        go_wp2_with fail
        refine HT.out.mono ?_
        rintro e w1 ⟨rfl, hb⟩
        simp only [rtakeV]
        go_wp2
        go_ret3
        exact ⟨by rw [HR.out]; rfl, hb⟩
    · have HR := Lib.hid (unf_not HK.out (unfB_long (.inl (by omega))))
      have hdn : decide ((700 : Int) < (n : Int)) = true := by simp; omega
      clear hz hsp
      go_enter Try.func13, Try.ntmps13
      go_wp2_with fail
      refine HT.out.mono ?_
      rintro e w1 ⟨rfl, hb⟩
      simp only [rtakeV]
      go_wp2
      go_ret3
      exact ⟨by rw [HR.out]; rfl, hb⟩
end Go.Proofs.Ytijggjgdepjjgaa
