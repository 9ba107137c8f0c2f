/- Contracts of number.mayBe and number.Put. -/
import Derived.Test.YtijggjgdepjjgaaCBase
namespace Go.Proofs.Ytijggjgdepjjgaa
open Go.RowKit Go.Lib

theorem mayBe_yes (n : Int) (w : World) (h : okB n = true) : Calls Try.prog 23 #[.int .i64 n] w fun e w' => e = .returned (.bool true) ∧ w = w' := by
  obtain ⟨h0, h1⟩ := okB_of h
  go_enter Try.func23, Try.ntmps23
  go_wp2
  go_ret
  exact ⟨rfl, rfl⟩

theorem mayBe_no (n : Int) (w : World) (h : okB n = false) : Calls Try.prog 23 #[.int .i64 n] w fun e w' => e = .returned (.bool false) ∧ w = w' := by
  have h0 := okB_not h
  by_cases h1 : 0 ≤ n
  · have h2 : decide (n ≤ 268435456) = false := by simp; omega
    go_enter Try.func23, Try.ntmps23
    go_wp2
    go_ret
    exact ⟨rfl, rfl⟩
  · have h2 : n < 0 := by omega
    go_enter Try.func23, Try.ntmps23
    go_wp2
    go_ret
    exact ⟨rfl, rfl⟩

set_option maxHeartbeats 400000 in
theorem Put_ok (n : Int) (w : World) (h : okB n = true) : Calls Try.prog 17 #[.int .i64 n] w fun e w' => e = .returned (.tuple #[S (uvarint n.toNat), .int .i64 0]) ∧ Below w.heap.size w w' := by
  obtain ⟨h0, h1⟩ := okB_of h
  obtain ⟨i0, hi, hz0, hz1, hz2⟩ := info_parts Try.info5
  go_enter Try.func17, Try.ntmps17
  go_wp2_with fail
  refine (mayBe_yes _ _ h).mono ?_
  rintro e w' ⟨rfl, rfl⟩
  go_wp2_with (first | (at_make; refine wpList_make_own _ rfl _ _ 30 rfl w.heap.size 5 i0 (.int .u8 0) 1 Try.underlying30 hi hz0 hz1 _ _ _ 5 rfl rfl rfl (by rw [hz2]; decide) (by decide) (Nat.le_refl _) ?_) | fail)
  intro w1 hown hgrow
  obtain ⟨N, rfl⟩ := Int.eq_ofNat_of_zero_le h0
  have hb1 : Below w.heap.size w w1 := (Below.refl _ _).grown hgrow (Nat.le_refl _) (by simp)
  have hlen : (uvarint N).length ≤ 5 := uvarint_length 4 N (by simp; omega)
  clear h hgrow
  go_wp2
  go_loopw [0, 4] (fun v b wr => ∃ (k cur : Nat) (pre : List UInt8), cur ≤ N ∧ pre.length = k ∧ v = .int .i64 cur ∧ b = .slice (some ⟨w.heap.size, 0, none⟩) k 5 ∧ wr.ownsRow w.heap.size 5 1 (.slice (some ⟨w.heap.size, 0, none⟩) k 5) k (pre.map u8v) ∧ pre ++ uvarint cur = uvarint N ∧ Below w.heap.size w wr) (fun v _ _ => (intOf v).toNat)
  case atStart => exact ⟨0, N, [], Nat.le_refl _, rfl, rfl, rfl, hown, rfl, hb1⟩
  case round =>
    obtain ⟨k, cur, pre, hcN, hk, rfl, rfl, hown, hpre, hbel⟩ := hrel
    have hk5 : k + (uvarint cur).length ≤ 5 := by rw [← hpre] at hlen; simp at hlen; omega
    have Hpre := Lib.hid hpre
    clear hpre
    have Hk := Lib.hid hk
    clear hk
    by_cases hc : cur < 128
    · have hu := uvarint_pos cur
      go_wp2_with (first | (at_builtin; (refine wpList_append_fits _ rfl _ _ 30 rfl w.heap.size 5 i0 1 Try.underlying30 hi hz1 w.heap.size k 5 _ rfl (hown.alloc _) ⟨wr.heap.size, 0, none⟩ 1 1 [.int .u8 cur] rfl rfl (cell_one_new _ _ _) (oneInt _ _) (by omega) ?_)) | fail)
      intro w2 hown2 hgrow2
      rw [u8v_small hc, ← List.map_singleton, ← List.map_append] at hown2
      have hb2 : Below w.heap.size w w2 := (hbel.alloc hbel.size _).grown hgrow2 (by have := hbel.size; simp; omega) (by simp)
      have hcv := conv_owned w2 30 9 5 _ _ _ _ _ Try.underlying30 Try.underlying5 Try.underlying9 hown2
      clear hown hgrow2 hbel
      go_wp2
      go_ret2
      refine ⟨?_, hb2⟩
      rw [← uvarint_small hc, Hpre.out]
      rfl
    · have e1 : bits .and .i64 (cur : Int) 127 = (cur : Int) % 128 := and127_i64 _ (by omega) (by omega)
      have e3 : ((cur : Int) % 128 + 128) % 256 = (cur : Int) % 128 + 128 := by omega
      have e2 : bits .or .i64 ((cur : Int) % 128) 128 = (cur : Int) % 128 + 128 := or128_i64 _ (by omega) (by omega)
      have hu := uvarint_two (x := cur) (by omega)
      go_wp2_with (first | (at_builtin; (refine wpList_append_fits _ rfl _ _ 30 rfl w.heap.size 5 i0 1 Try.underlying30 hi hz1 w.heap.size k 5 _ rfl (hown.alloc _) ⟨wr.heap.size, 0, none⟩ 1 1 [.int .u8 ((cur : Int) % 128 + 128)] rfl rfl (cell_one_new _ _ _) (oneInt _ _) (by omega) ?_)) | fail)
      intro w2 hown2 hgrow2
      rw [u8v_big, ← List.map_singleton, ← List.map_append] at hown2
      have hb2 : Below w.heap.size w w2 := (hbel.alloc hbel.size _).grown hgrow2 (by have := hbel.size; simp; omega) (by simp)
      clear e1 e2 e3 hown hgrow2 hbel
      go_wp2
      go_roundw
      case rel => exact ⟨k + 1, cur / 128, pre ++ [(cur % 128 + 128).toUInt8], by omega, by simp [Hk.out], by go_num, rfl, hown2, by rw [← Hpre.out, uvarint_big (x := cur) (by omega)]; simp, hb2⟩
      case measure => simp [intOf]; omega

theorem Put_bad (n : Int) (w : World) (h : okB n = false) : Calls Try.prog 17 #[.int .i64 n] w fun e w' => e = .returned (.tuple #[S [], .int .i64 1]) ∧ w = w' := by
  go_enter Try.func17, Try.ntmps17
  go_wp2_with fail
  refine (mayBe_no _ _ h).mono ?_
  rintro e w' ⟨rfl, rfl⟩
  go_wp2
  go_ret2
  exact ⟨rfl, rfl⟩

theorem Put_nat (n : Nat) (w : World) (h1 : n ≤ 268435456) : Calls Try.prog 17 #[.int .i64 n] w fun e w' => e = .returned (.tuple #[S (uvarint n), .int .i64 0]) ∧ Below w.heap.size w w' := by
  have := Put_ok n w (okB_yes (by omega) (by omega))
  rwa [Int.toNat_natCast] at this

end Go.Proofs.Ytijggjgdepjjgaa
