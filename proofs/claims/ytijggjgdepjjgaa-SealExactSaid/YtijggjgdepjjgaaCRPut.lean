/- Contracts of the page own Put. -/
import Derived.Test.YtijggjgdepjjgaaCBase
namespace Go.Proofs.Ytijggjgdepjjgaa
open Go.RowKit Go.Lib

set_option maxRecDepth 100000 in
set_option maxHeartbeats 400000 in
theorem rPut_ok (n : Int) (w : World) (h0 : 0 ≤ n) (h1 : n ≤ 268435456) : Calls Try.prog 20 #[.int .i64 n] w fun e w' => e = .returned (S (uvarint n.toNat)) ∧ Below w.heap.size w w' := by
  obtain ⟨i0, hi, hz0, hz1, hz2⟩ := info_parts Try.info5
  obtain ⟨N, rfl⟩ := Int.eq_ofNat_of_zero_le h0
  have hlen : (uvarint N).length ≤ 5 := uvarint_length 4 N (by simp; omega)
  go_enter Try.func20, Try.ntmps20
  go_wp2
  go_loopw [0, 3] (fun v b wr => ∃ (k cur : Nat) (pre : List UInt8), cur ≤ N ∧ pre.length = k ∧ v = .int .i64 cur ∧ wr.ownsRow w.heap.size 5 1 b k (pre.map u8v) ∧ pre ++ uvarint cur = uvarint N ∧ Below w.heap.size w wr) (fun v _ _ => (intOf v).toNat)
  case atStart => exact ⟨0, N, [], Nat.le_refl _, rfl, rfl, World.ownsRow_nil _ _ _ _, rfl, Below.refl _ _⟩
  case round =>
    obtain ⟨k, cur, pre, hcN, hk, rfl, hown, hpre, hbel⟩ := hrel
    have hk5 : k + (uvarint cur).length ≤ 5 := by rw [← hpre] at hlen; simp at hlen; omega
    have Hpre := Lib.hid hpre
    clear hpre
    have Hk := Lib.hid hk
    clear hk
    have c1 : k ≤ 4 := by have := uvarint_pos cur; omega
    have c2 : k + 1 ≤ maxLen := by unfold maxLen; omega
    have c3 : (k + 1) * 1 ≤ 140737488355328 := by omega
    by_cases hc : cur < 128
    · go_wp2_with (first | (at_builtin; refine wpList_append_own _ rfl _ _ 30 rfl w.heap.size 5 i0 (.int .u8 0) 1 1 Try.underlying30 hi hz0 hz1 hz2 rfl (by decide) _ _ _ rfl (hown.alloc _) ⟨wr.heap.size, 0, none⟩ 1 1 [.int .u8 cur] rfl rfl (cell_one_new _ _ _) (oneInt _ _) c2 c3 (alloc_le hbel (Nat.le_refl _) _) ?_) | fail)
      intro v2 w2 hown2 hgrow2 _
      rw [u8v_small hc, ← List.map_singleton, ← List.map_append] at hown2
      have hb2 : Below w.heap.size w w2 := (hbel.alloc hbel.size _).grown hgrow2 (alloc_le hbel (Nat.le_refl _) _) (own_ge hown)
      obtain ⟨g, cap, hv⟩ : ∃ g cap, v2 = .slice (some ⟨g, 0, none⟩) (k + 1) cap := by
        obtain ⟨g, cap, hv, _⟩ := hown2.form (by omega)
        exact ⟨g, cap, hv⟩
      subst hv
      have hcv := conv_owned w2 30 9 5 _ _ _ _ _ Try.underlying30 Try.underlying5 Try.underlying9 hown2
      clear hown hgrow2 hbel
      go_wp2
      go_ret
      refine ⟨?_, hb2⟩
      rw [← uvarint_small hc, Hpre.out]
      rfl
    · have e1 : bits .and .i64 (cur : Int) 127 = (cur : Int) % 128 := and127_i64 _ (by omega) (by omega)
      have e3 : ((cur : Int) % 128 + 128) % 256 = (cur : Int) % 128 + 128 := by omega
      have e2 : bits .or .i64 ((cur : Int) % 128) 128 = (cur : Int) % 128 + 128 := or128_i64 _ (by omega) (by omega)
      go_wp2_with (first | (at_builtin; refine wpList_append_own _ rfl _ _ 30 rfl w.heap.size 5 i0 (.int .u8 0) 1 1 Try.underlying30 hi hz0 hz1 hz2 rfl (by decide) _ _ _ rfl (hown.alloc _) ⟨wr.heap.size, 0, none⟩ 1 1 [.int .u8 ((cur : Int) % 128 + 128)] rfl rfl (cell_one_new _ _ _) (oneInt _ _) c2 c3 (alloc_le hbel (Nat.le_refl _) _) ?_) | fail)
      intro v2 w2 hown2 hgrow2 _
      rw [u8v_big, ← List.map_singleton, ← List.map_append] at hown2
      have hb2 : Below w.heap.size w w2 := (hbel.alloc hbel.size _).grown hgrow2 (alloc_le hbel (Nat.le_refl _) _) (own_ge hown)
      clear e1 e2 e3 hown hgrow2 hbel
      go_wp2
      go_roundw
      case rel => exact ⟨k + 1, cur / 128, pre ++ [(cur % 128 + 128).toUInt8], by omega, by simp [Hk.out], by go_num, hown2, by rw [← Hpre.out, uvarint_big (x := cur) (by omega)]; simp, hb2⟩
      case measure => simp [intOf]; omega

theorem rPut_nat (n : Nat) (w : World) (h1 : n ≤ 268435456) : Calls Try.prog 20 #[.int .i64 n] w fun e w' => e = .returned (S (uvarint n)) ∧ Below w.heap.size w w' := by
  have := rPut_ok n w (by omega) (by omega)
  rwa [Int.toNat_natCast] at this

end Go.Proofs.Ytijggjgdepjjgaa
