/- The law SealEdges: the walk. -/
import Derived.Test.YtijggjgdepjjgaaCWakes2
import Derived.Test.YtijggjgdepjjgaaCHeavy
namespace Go.Proofs.Ytijggjgdepjjgaa
open Go.RowKit Go.Lib

/-- m frames, the first of a text of 15 * a bytes, each 15 more -/
def RowOk : Nat → Nat → List UInt8 → Prop
  | 0, _, row => row = []
  | m + 1, a, row => ∃ t rest, t.length = 15 * a ∧ row = frameOf t ++ rest ∧ RowOk m (a + 1) rest
theorem rowOk_snoc : ∀ (m a : Nat) (row t : List UInt8), RowOk m a row → t.length = 15 * (a + m) → RowOk (m + 1) a (row ++ frameOf t) := by
  intro m
  induction m with
  | zero => intro a row t h ht; cases h; exact ⟨t, [], ht, by simp, rfl⟩
  | succ m ih =>
    intro a row t h ht
    obtain ⟨u, rest, hu, rfl, hr⟩ := h
    exact ⟨u, rest ++ frameOf t, hu, by simp, ih (a + 1) rest t hr (by omega)⟩
theorem rowOk_len : ∀ (m a : Nat) (row : List UInt8), RowOk m a row → row.length ≤ 706 * m := by
  intro m
  induction m with
  | zero => intro a row h; cases h; simp
  | succ m ih =>
    intro a row h
    obtain ⟨u, rest, hu, rfl, hr⟩ := h
    have := ih _ _ hr
    have := frameOf_le u
    rw [List.length_append]; omega

theorem Add_list (s : ByteArray) (w : World) (h : s.size ≤ 700) : Calls Try.prog 8 #[.string s] w fun e w' => e = .returned (S (frameOf s.data.toList)) ∧ Below w.heap.size w w' := Add_yes s w h
theorem take_list (t rest : List UInt8) (w : World) (ht : t.length ≤ 700) (hr : rest.length ≤ 268435456) :
    Calls Try.prog 12 #[S (frameOf t ++ rest)] w fun e w' => e = .returned (.tuple #[S t, S rest, .bool true]) ∧ Below w.heap.size w w' := by
  have hl := frameOf_le t
  have h := sTake_any ⟨(frameOf t ++ rest).toArray⟩ w (by show (frameOf t ++ rest).length ≤ _; rw [List.length_append]; unfold maxLen; omega)
  have e : (⟨(frameOf t ++ rest).toArray⟩ : ByteArray).data.toList = frameOf t ++ rest := rfl
  rw [e, unf_frame ht] at h
  exact h

set_option maxRecDepth 100000 in
set_option maxHeartbeats 1000000 in
theorem sedges_walk (v0 : Value) (a1 : Option Addr) (l1 c1 : Nat) (w : World) (hsl : l1 ≤ 140737488351232) :
    Calls Try.prog 5 #[.agg #[v0, .slice a1 l1 c1]] w fun e w' => e = .returned (.bool true) ∧ Below w.heap.size w w' := by
  have hb0 : Below w.heap.size w (w.alloc (.cells #[v0, .slice a1 l1 c1] 25)) := (Below.refl _ _).alloc (Nat.le_refl _) _
  have hcS : (w.alloc (.cells #[v0, .slice a1 l1 c1] 25)).cell? ⟨w.heap.size, 1, none⟩ = some (.slice a1 l1 c1) := by simp
  have hz0 : (w.alloc (.cells #[v0, .slice a1 l1 c1] 25)).heap.size = w.heap.size + 1 := by simp
  go_enter Try.func5, Try.ntmps5
  go_wp2
  generalize w.alloc (.cells #[v0, .slice a1 l1 c1] 25) = W0 at *
  have HZ := Lib.hid hz0
  clear hz0
  go_loopw [3, 4, 5] (fun v r i wr => ∃ (k : Nat) (s : ByteArray) (row : List UInt8), k ≤ 150 ∧ i = .int .i64 k ∧ v = .string s ∧ r = S row ∧ s.size = k ∧ RowOk ((k + 14) / 15) 0 row ∧ Below W0.heap.size W0 wr) (fun _ _ i _ => 150 - (intOf i).toNat)
  case atStart => exact ⟨0, ⟨#[]⟩, [], by omega, rfl, rfl, rfl, rfl, rfl, Below.refl _ _⟩
  case round =>
    obtain ⟨k, s, row, hk, rfl, rfl, rfl, hsz, hrow, hbel⟩ := hrel
    have hrl := rowOk_len _ _ _ hrow
    have HS := Lib.hid hsz
    have HR := Lib.hid hrow
    have hs1 : s.size ≤ 150 := by omega
    have hrl2 : row.length ≤ 7060 := by omega
    clear hsz hrow hrl
    by_cases hlt : k < 150
    · have hA := fun w => Add_yes s w (by omega)
      have hF := fun w => rFrame_yes s w (by omega)
      have hO := fun w => Of_any s w (by unfold maxLen; omega)
      have hC := fun w => rCheck_any s w (by unfold maxLen; omega)
      have hcl := chk_lt s.data.toList 1 (by decide)
      have hFl := frameOf_le s.data.toList
      have hsn := rowOk_snoc ((k + 14) / 15) 0 row s.data.toList HR.out
      have hll := len_size s
      obtain ⟨F, hFe⟩ : ∃ F, frameOf s.data.toList = F := ⟨_, rfl⟩
      generalize chk 1 s.data.toList = H at *
      simp only [hFe] at hA hF hsn
      rw [hFe] at hFl
      have HSN := Lib.hid hsn
      have HLL := Lib.hid hll
      clear hsn hFe hll
      go_wp2_with fail
      refine (hO _).mono ?_
      rintro e w1 ⟨rfl, rfl⟩
      go_wp2_with fail
      refine (hC _).mono ?_
      rintro e w1 ⟨rfl, rfl⟩
      go_wp2_with fail
      refine (hA _).mono ?_
      rintro e w1 ⟨rfl, hb1⟩
      go_wp2_with fail
      refine (hF _).mono ?_
      rintro e w2 ⟨rfl, hb2⟩
      have hbw1 : Below W0.heap.size W0 w1 := hbel.trans (hb1.mono hbel.size)
      have hbw2 : Below W0.heap.size W0 w2 := hbw1.trans (hb2.mono hbw1.size)
      clear hb1 hb2 hbw1 hbel hC hO hF
      have hcv := fun wr => conv_one wr 30 9 5 (((k : Int) * 7 + (l1 : Int)) % 256) Try.underlying30 Try.underlying5 Try.underlying9 (by omega) (by omega)
      obtain ⟨c, hc⟩ : ∃ c, UInt8.ofNat (((k : Int) * 7 + (l1 : Int)) % 256).toNat = c := ⟨_, rfl⟩
      simp only [hc] at hcv
      clear hc
      by_cases hm : k % 15 = 0
      · have hmi : (((k : Int) % 15) == 0) = true := by simp; omega
        have HM := Lib.hid hm
        clear hm
        go_wp2_with fail
        refine (hA _).mono ?_
        rintro e w3 ⟨rfl, hb3⟩
        have hbw3 : Below W0.heap.size W0 w3 := hbw2.trans (hb3.mono hbw2.size)
        have hS3 : w3.cell? ⟨w.heap.size, 1, none⟩ = some (.slice a1 l1 c1) := (hbw3.cell (by have := HZ.out; simp; omega)).trans hcS
        clear hbw2 hb3 hA
        have hcv3 := hcv w3
        clear hcv
        go_wp2
        go_roundw
        case rel => exact ⟨k + 1, _, row ++ F, by omega, by go_num, rfl, (by congr 1), by rw [ByteArray.size_append, HS.out]; rfl, by have h9 := HSN.out (by rw [HLL.out, HS.out]; have := HM.out; omega); rw [show (k + 1 + 14) / 15 = (k + 14) / 15 + 1 from by have := HM.out; omega]; exact h9, hbw3.alloc hbw3.size _⟩
        case measure => simp [intOf]; omega
      · have hmi : (((k : Int) % 15) == 0) = false := by simp; omega
        have HM := Lib.hid hm
        clear hm hA
        have hS2 : w2.cell? ⟨w.heap.size, 1, none⟩ = some (.slice a1 l1 c1) := (hbw2.cell (by have := HZ.out; simp; omega)).trans hcS
        have hcv2 := hcv w2
        clear hcv
        go_wp2
        go_roundw
        case rel => exact ⟨k + 1, _, row, by omega, by go_num, rfl, rfl, by rw [ByteArray.size_append, HS.out]; rfl, by rw [show (k + 1 + 14) / 15 = (k + 14) / 15 from by have := HM.out; omega]; exact HR.out, hbw2.alloc hbw2.size _⟩
        case measure => simp [intOf]; omega
    · have hR10 : RowOk (10 - 0) 0 row := by have h9 := HR.out; rw [show (k + 14) / 15 = 10 from by omega] at h9; exact h9
      have HR10 := Lib.hid hR10
      clear hR10
      go_wp2_with fail
      go_loopw [4, 6] (fun r i wq => ∃ (n : Nat) (row : List UInt8), n ≤ 10 ∧ i = .int .i64 n ∧ r = S row ∧ RowOk (10 - n) n row ∧ Below W0.heap.size W0 wq) (fun _ i _ => 10 - (intOf i).toNat)
      case atStart => exact ⟨0, row, by omega, rfl, rfl, HR10.out, hbel⟩
      case round =>
        clear hbel HR10 HR hrl2
        obtain ⟨n, row, hn, rfl, rfl, hrow, hbq⟩ := hrel
        have hrl := rowOk_len _ _ _ hrow
        have hrl2 : row.length ≤ 7060 := by omega
        have HR := Lib.hid hrow
        clear hrl hrow
        by_cases hnl : n < 10
        · obtain ⟨t, rest, ht, hrr, hok⟩ : ∃ t rest, t.length = 15 * n ∧ row = frameOf t ++ rest ∧ RowOk (10 - (n + 1)) (n + 1) rest := by
            have h9 := HR.out
            rw [show 10 - n = 10 - (n + 1) + 1 from by omega] at h9
            exact h9
          have hT := fun w => take_list t rest w (by omega) (by rw [hrr, List.length_append] at hrl2; omega)
          rw [← hrr] at hT
          have hrs : rest.length < row.length := by rw [hrr, List.length_append, frameOf_len (by omega)]; omega
          have HT := Lib.hid hT
          have HO := Lib.hid hok
          have hti : (t.length : Int) = 15 * (n : Int) := by omega
          have hne : ((t.length : Int) != 15 * (n : Int)) = false := by simp [hti]
          have hge : decide (row.length ≤ rest.length) = false := by simp; omega
          clear hT hok hrr ht hti
          go_wp2_with fail
          refine (HT.out _).mono ?_
          rintro e w1 ⟨rfl, hb1⟩
          go_wp2
          go_roundw
          case rel => exact ⟨n + 1, rest, by omega, by go_num, rfl, HO.out, hbq.trans (hb1.mono hbq.size)⟩
          case measure => simp [intOf]; omega
        · have h0 : row = [] := by
            have h9 := HR.out
            rw [show 10 - n = 0 from by omega] at h9
            exact h9
          subst h0
          go_wp2_with fail
          refine (wakes_any _).mono ?_
          rintro e w2 ⟨rfl, hb2⟩
          go_wp2
          go_ret
          exact ⟨rfl, hb0.trans ((hbq.trans (hb2.mono hbq.size)).mono hb0.size)⟩
end Go.Proofs.Ytijggjgdepjjgaa
