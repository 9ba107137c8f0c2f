/- The law NumberTexts: the walk. -/
import Derived.Test.YtanegkjmalbhcaaNumE
namespace Go.Proofs.Ytanegkjmalbhcaa
open Go.RowKit Go.Lib


theorem S_self (s : ByteArray) : S s.data.toList = .string s := by unfold S; congr 1
theorem text_yes (s : ByteArray) (T : List UInt8) (r : ByteArray) (w : World) (hs : s.size ≤ 268435456) (hT : uvarint s.size ++ s.data.toList = T) (hr : r.size ≤ 268435456) :
    Calls Try.prog 15 #[.string ((⟨T.toArray⟩ : ByteArray) ++ r)] w fun e w' => e = .returned (.tuple #[.string s, .string r, .int .i64 0]) ∧ Below w.heap.size w w' := by
  have hu : (uvarint s.size).length ≤ 5 := uvarint_length 4 s.size (by simp; omega)
  have hl := len_size s
  have h := TakeText_any ((⟨T.toArray⟩ : ByteArray) ++ r) w (by rw [joined_size, ← hT, List.length_append, hl]; unfold maxLen; omega)
  rw [joined_list, ← hT, ← hl, tkText_put (by omega)] at h
  simp only [ttV, S_self] at h
  rw [hl, hT] at h
  exact h
theorem text_torn (s : ByteArray) (T : List UInt8) (j : Nat) (w : World) (hs : s.size ≤ 268435456) (hT : uvarint s.size ++ s.data.toList = T) (hj : j < T.length) :
    Calls Try.prog 15 #[.string ((⟨T.toArray⟩ : ByteArray).extract 0 j)] w fun e w' => e = .returned (.tuple #[S [], S [], .int .i64 7]) ∧ Below w.heap.size w w' := by
  have hu : (uvarint s.size).length ≤ 5 := uvarint_length 4 s.size (by simp; omega)
  have hl := len_size s
  have h := TakeText_any ((⟨T.toArray⟩ : ByteArray).extract 0 j) w (by
    have := len_size ((⟨T.toArray⟩ : ByteArray).extract 0 j)
    rw [cut_list, List.length_take] at this
    have h2 : T.length = (uvarint s.size).length + s.size := by rw [← hT, List.length_append, hl]
    unfold maxLen; omega)
  have e : tkText ((⟨T.toArray⟩ : ByteArray).extract 0 j).data.toList = none := by
    rw [cut_list, ← hT, ← hl]
    exact tkText_torn (by omega) j (by rw [hl, hT]; exact hj)
  rw [e] at h
  exact h

set_option maxRecDepth 100000 in
set_option maxHeartbeats 1000000 in
theorem texts_walk (v0 : Value) (a1 : Option Addr) (l1 c1 : Nat) (w : World) :
    Calls Try.prog 6 #[.agg #[v0, .slice a1 l1 c1]] w fun e w' => e = .returned (.bool true) ∧ Below w.heap.size w w' := by
  have hb0 : Below w.heap.size w (w.alloc (.cells #[v0, .slice a1 l1 c1] 25)) := (Below.refl _ _).alloc (Nat.le_refl _) _
  have hc0 : (w.alloc (.cells #[v0, .slice a1 l1 c1] 25)).cell? ⟨w.heap.size, 1, none⟩ = some (.slice a1 l1 c1) := by simp
  have hz0 : (w.alloc (.cells #[v0, .slice a1 l1 c1] 25)).heap.size = w.heap.size + 1 := by simp
  go_enter Try.func6, Try.ntmps6
  go_wp2
  generalize w.alloc (.cells #[v0, .slice a1 l1 c1] 25) = W0 at *
  have HZ := Lib.hid hz0
  clear hz0
  go_loopw [3, 4] (fun v i wr => ∃ (k : Nat) (s : ByteArray), k ≤ 140 ∧ i = .int .i64 k ∧ v = .string s ∧ s.size = k ∧ Below W0.heap.size W0 wr) (fun _ i _ => 140 - (intOf i).toNat)
  case atStart => exact ⟨0, ⟨#[]⟩, by omega, rfl, rfl, rfl, Below.refl _ _⟩
  case round =>
    obtain ⟨k, s, hk, rfl, rfl, hsz, hbel⟩ := hrel
    have HS := Lib.hid hsz
    have hs1 : s.size ≤ 140 := by omega
    clear hsz
    by_cases hlt : k < 140
    · go_wp2_with fail
      refine (Text_any s _ (by omega)).mono ?_
      rintro e w1 ⟨rfl, hb1⟩
      have hu : (uvarint s.size).length ≤ 5 := uvarint_length 4 s.size (by simp; omega)
      have hll := len_size s
      obtain ⟨T, hT⟩ : ∃ T, uvarint s.size ++ s.data.toList = T := ⟨_, rfl⟩
      have hTl : T.length ≤ 145 := by rw [← hT, List.length_append, hll]; omega
      have hTg : s.size + 1 ≤ T.length := by have := uvarint_pos s.size; rw [← hT, List.length_append, hll]; omega
      have HT := Lib.hid hT
      have HL := Lib.hid hll
      rw [hT]
      have hd : decide ((T.length : Int) < (s.size : Int) + 1) = false := by simp; omega
      clear hT hll hu
      go_wp2_with fail
      refine (text_yes s T ⟨#[121]⟩ w1 (by omega) HT.out (by decide)).mono ?_
      rintro e w2 ⟨rfl, hb2⟩
      go_wp2_with (go_at_call 12; refine (num_any _ _).mono ?_; rintro e w3 ⟨rfl, rfl⟩)
      go_loopw [9] (fun i wq => ∃ (j : Nat), j ≤ 400 ∧ i = .int .i64 j ∧ Below W0.heap.size W0 wq) (fun i _ => T.length - (intOf i).toNat)
      case atStart => exact ⟨0, by omega, rfl, (hbel.trans (hb1.mono hbel.size)).trans (hb2.mono (Nat.le_trans hbel.size hb1.size))⟩
      case round =>
        clear hbel hb1 hb2
        obtain ⟨j, hj, rfl, hbq⟩ := hrel
        by_cases hjl : j < T.length
        · go_wp2_with fail
          refine (text_torn s T j _ (by omega) HT.out hjl).mono ?_
          rintro e w5 ⟨rfl, hb5⟩
          go_wp2_with (go_at_call 12; refine (num_any _ _).mono ?_; rintro e w3 ⟨rfl, rfl⟩)
          go_roundw
          case rel => exact ⟨j + 1 + T.length / 7, by omega, by go_num, hbq.trans (hb5.mono hbq.size)⟩
          case measure => simp [intOf]; omega
        · have hcell : wr.cell? ⟨w.heap.size, 1, none⟩ = some (.slice a1 l1 c1) := (hbq.cell (by have := HZ.out; simp; omega)).trans hc0
          have hcv := conv_one wr 45 9 5 (wrap64 ((k : Int) + (l1 : Int)) % 256) Try.underlying45 Try.underlying5 Try.underlying9 (by omega) (by omega)
          obtain ⟨c, hc⟩ : ∃ c, UInt8.ofNat (wrap64 ((k : Int) + (l1 : Int)) % 256).toNat = c := ⟨_, rfl⟩
          rw [hc] at hcv
          clear hc
          go_wp2
          go_roundw
          case rel => exact ⟨k + 1, _, by omega, by go_num, rfl, by rw [ByteArray.size_append, HS.out]; rfl, hbq.alloc hbq.size _⟩
          case measure => simp [intOf]; omega
    · go_wp2_with fail
      refine (wakes_any _).mono ?_
      rintro e w1 ⟨rfl, hb1⟩
      go_wp2
      go_ret
      exact ⟨rfl, hb0.trans ((hbel.trans (hb1.mono hbel.size)).mono hb0.size)⟩
end Go.Proofs.Ytanegkjmalbhcaa
