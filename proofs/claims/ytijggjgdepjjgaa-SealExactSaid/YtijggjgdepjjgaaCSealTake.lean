/- Contract of seal.Take. -/
import Derived.Test.YtijggjgdepjjgaaCSeal
import Derived.Deep.QuietTactic
import Derived.BigQuiet
namespace Go.Proofs.Ytijggjgdepjjgaa
open Go.RowKit Go.Lib

theorem take_uv (s : ByteArray) {n : Nat} {r : List UInt8} (h : tk 0 0 s.data.toList = some (n, r)) : s.extract 0 (s.size - r.length) = ⟨(uvarint n).toArray⟩ ∧ s.size = (uvarint n).length + r.length := by
  have e := tk_uv h
  have hz : s.size = (uvarint n).length + r.length := by rw [← len_size, e, List.length_append]
  refine ⟨?_, hz⟩
  have h1 := S_head s (s.size - r.length)
  have h2 : s.data.toList.take (s.size - r.length) = uvarint n := by rw [e, hz]; exact List.take_left' (by omega)
  rw [h2] at h1
  exact Value.string.inj h1
theorem cut_mid (r : List UInt8) (a b : Nat) : (⟨r.toArray⟩ : ByteArray).extract a b = ⟨((r.drop a).take (b - a)).toArray⟩ := by
  rw [Lib.extract_eq]
theorem cut_first (r : List UInt8) (a : Nat) : (⟨r.toArray⟩ : ByteArray).extract 0 a = ⟨(r.take a).toArray⟩ := by
  rw [cut_mid]; simp
theorem cut_last (r : List UInt8) (a : Nat) : (⟨r.toArray⟩ : ByteArray).extract a r.length = ⟨(r.drop a).toArray⟩ := by
  rw [cut_mid, List.take_of_length_le (by simp)]

set_option maxRecDepth 100000 in
set_option maxHeartbeats 1000000 in
theorem sTake_any (s : ByteArray) (w : World) (hs : s.size ≤ maxLen) : Calls Try.prog 12 #[.string s] w fun e w' => e = .returned (rttV (unf s.data.toList)) ∧ Below w.heap.size w w' := by
  have hT := Take_any s w hs
  unfold maxLen at hs
  cases hk : tk 0 0 s.data.toList with
  | none =>
    rw [hk] at hT
    have HR := Lib.hid (unf_none hk)
    have HT := Lib.hid hT
    clear hk hT
    go_enter Try.func12, Try.ntmps12
    go_wp2_with fail
    refine HT.out.mono ?_
    rintro e w1 ⟨rfl, hb⟩
    simp only [takeV]
    go_wp2
    go_ret3
    exact ⟨by rw [HR.out]; rfl, hb⟩
  | some p =>
    obtain ⟨n, r⟩ := p
    rw [hk] at hT
    have hl := tk_len _ _ _ _ _ hk
    rw [len_size] at hl
    obtain ⟨hx, hz⟩ := take_uv s hk
    have HK := Lib.hid hk
    have HT := Lib.hid hT
    clear hk hT
    by_cases hn : n ≤ 700
    · have hd7 : decide ((700 : Int) < (n : Int)) = false := by simp; omega
      by_cases hr : n + 4 ≤ r.length
      · have hu := uv700 hn
        have hcb := fun w => checkBytes_any ⟨(uvarint n).toArray⟩ ⟨((r.drop 4).take n).toArray⟩ w (by show (uvarint n).length ≤ _; unfold maxLen; omega) (by show ((r.drop 4).take n).length ≤ _; rw [List.length_take]; unfold maxLen; omega)
        simp only at hcb
        have hB := unfB_check hn hr
        have e1 := cut_first r 4
        have e2 := cut_mid r 4 (4 + n)
        rw [show 4 + n - 4 = n from by omega] at e2
        have e3 := cut_last r (4 + n)
        have hyes := fun h => unf_some (n := n) HK.out h
        have hno := fun h => unf_not (n := n) HK.out h
        rw [hB] at hyes hno
        generalize be4 (chk (chk 1 (uvarint n)) ((r.drop 4).take n)) = B at *
        generalize hU : uvarint n = U at *
        generalize hX : (r.drop 4).take n = X at *
        generalize hR : r.drop (4 + n) = R at *
        generalize hC : r.take 4 = C at *
        have HU := Lib.hid hU
        have HX := Lib.hid hX
        have HRR := Lib.hid hR
        have HC := Lib.hid hC
        have HY := Lib.hid hyes
        have HN := Lib.hid hno
        have HCB := Lib.hid hcb
        clear hU hX hR hC hyes hno hcb hB
        have hdr : decide ((r.length : Int) < 4 + (n : Int)) = false := by simp; omega
        have hzl : r.length ≤ s.size := by omega
        have HZ := Lib.hid hz
        clear hz
        have h4 : 4 ≤ r.length := by omega
        have h4z : (4 : Int) ≤ (r.length : Int) := by omega
        have h4n : 4 + n ≤ r.length := by omega
        have h4i : (4 : Int) + (n : Int) ≤ (r.length : Int) := by omega
        have E1 := Lib.hid e1
        have E2 := Lib.hid e2
        have E3 := Lib.hid e3
        have hw4 : IntKind.i64.wrap (4 + (n : Int)) = 4 + (n : Int) := IntWalk.i64_in _ (by omega)
        have hw5 : (4 + (n : Int)).toNat = 4 + n := by omega
        have hw6 : (0 : Int) ≤ 4 + (n : Int) := by omega
        have hsl := fun wx => run_slice_string (P := Try.prog) wx 9 ⟨r.toArray⟩ .i64 .i64 4 (4 + (n : Int)) Try.underlying9 (by omega) (by omega) h4i
        rw [show (4 : Int).toNat = 4 from rfl, hw5] at hsl
        clear e1 e2 e3
        by_cases hq : C = B
        · have hq' : (C == B) = true := by simp [hq]
          have HQ := Lib.hid hq
          have HR := Lib.hid (HY.out hq')
          clear hq
          go_enter Try.func12, Try.ntmps12
          go_wp2_with fail
          refine HT.out.mono ?_
          rintro e w1 ⟨rfl, hb⟩
          simp only [takeV]
          go_wp2
          go_quiet (fail)
          clear hsl
          rw [E1.out, E2.out, E3.out]
          go_wp2_with fail
          refine (HCB.out _).mono ?_
          rintro e w2 ⟨rfl, hb2⟩
          go_wp2
          go_ret3
          refine ⟨?_, (below_drewN hb _).trans (hb2.mono (below_drewN hb _).size)⟩
          rw [HR.out]
          rfl
        · have hq' : (C == B) = false := by simp [hq]
          have HR := Lib.hid (HN.out hq')
          clear hq
          go_enter Try.func12, Try.ntmps12
          go_wp2_with fail
          refine HT.out.mono ?_
          rintro e w1 ⟨rfl, hb⟩
          simp only [takeV]
          go_wp2
          go_quiet (fail)
          clear hsl
          rw [E1.out, E2.out, E3.out]
          go_wp2_with fail
          refine (HCB.out _).mono ?_
          rintro e w2 ⟨rfl, hb2⟩
          go_wp2
          go_ret3
          refine ⟨?_, (below_drewN hb _).trans (hb2.mono (below_drewN hb _).size)⟩
          rw [HR.out]
          rfl
      · have HR := Lib.hid (unf_not HK.out (unfB_long (.inr (by omega))))
        have hdr : decide ((r.length : Int) < 4 + (n : Int)) = true := by simp; omega
        clear hx hz
        go_enter Try.func12, Try.ntmps12
        go_wp2_with fail
        refine HT.out.mono ?_
        rintro e w1 ⟨rfl, hb⟩
        simp only [takeV]
        go_wp2
        go_ret3
        exact ⟨by rw [HR.out]; rfl, hb⟩
    · have HR := Lib.hid (unf_not HK.out (unfB_long (.inl (by omega))))
      have hdn : decide ((700 : Int) < (n : Int)) = true := by simp; omega
      clear hx hz
      go_enter Try.func12, Try.ntmps12
      go_wp2_with fail
      refine HT.out.mono ?_
      rintro e w1 ⟨rfl, hb⟩
      simp only [takeV]
      go_wp2
      go_ret3
      exact ⟨by rw [HR.out]; rfl, hb⟩
end Go.Proofs.Ytijggjgdepjjgaa
