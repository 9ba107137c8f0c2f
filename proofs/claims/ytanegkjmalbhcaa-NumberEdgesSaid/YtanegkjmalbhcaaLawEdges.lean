/- The law NumberEdges: the walk. -/
import Derived.Test.YtanegkjmalbhcaaNumE
import Derived.Deep.RegionHeld3
import Derived.Deep.AppendLies
namespace Go.Proofs.Ytanegkjmalbhcaa
open Go.RowKit Go.Lib

theorem Try.info9 : (Try.prog.info? 9).map (fun i => (i.zero, i.size, i.bytes)) = some (some (.string ⟨#[]⟩), 1, 16) := by kernel_rfl
theorem two_str (a b : ByteArray) : ∀ u ∈ [Value.string a, Value.string b], u.oneCell' = true := by
  intro u hu
  simp at hu
  rcases hu with rfl | rfl <;> rfl

theorem cut_facts (U : List UInt8) (h1 : 1 ≤ U.length) (h5 : U.length ≤ 5) : ∃ A B : ByteArray, (⟨U.toArray⟩ : ByteArray).extract 0 (U.length - 1) = A ∧ A ++ (⟨#[128, 0]⟩ : ByteArray) = B ∧ A.size ≤ 5 ∧
    IntKind.i64.wrap ((U.length : Int) - 1) = ((U.length - 1 : Nat) : Int) ∧ ((U.length - 1 : Nat) : Int) ≤ (U.length : Int) ∧ ¬ 9223372036854775807 < A.size + 2 := by
  refine ⟨_, _, rfl, rfl, ?_, ?_, ?_, ?_⟩
  · rw [ByteArray.size_extract]; have : (⟨U.toArray⟩ : ByteArray).size = U.length := rfl; omega
  · rw [IntWalk.i64_in _ ⟨by omega, by omega⟩]; omega
  · omega
  · rw [ByteArray.size_extract]; have : (⟨U.toArray⟩ : ByteArray).size = U.length := rfl; omega
theorem cat_run (A B : ByteArray) (hB : A ++ (⟨#[128, 0]⟩ : ByteArray) = B) (hA : A.size ≤ 5) : ∀ u : World, (Op.stringOp .add A ⟨#[128, 0]⟩).run Try.prog u = .ok (.string B) u := by
  intro u
  have h2 : (⟨#[128, 0]⟩ : ByteArray).size = 2 := rfl
  subst hB
  simp [run_string_add_if]
  omega
theorem small_six (U : List UInt8) (A B : ByteArray) (h5 : U.length ≤ 5) (hA : A.size ≤ 5) (hB : A ++ (⟨#[128, 0]⟩ : ByteArray) = B) : ∀ j, j < 6 → (([⟨U.toArray⟩, ⟨U.toArray⟩ ++ ⟨#[128]⟩, ⟨#[128]⟩ ++ ⟨U.toArray⟩, ⟨U.toArray⟩ ++ ⟨U.toArray⟩, A, B] : List ByteArray).getD j ⟨#[]⟩).size ≤ 20 := by
  intro j hj
  have e : (⟨U.toArray⟩ : ByteArray).size = U.length := rfl
  have e1 : (⟨#[128]⟩ : ByteArray).size = 1 := rfl
  have e2 : (⟨#[128, 0]⟩ : ByteArray).size = 2 := rfl
  subst hB
  have : j = 0 ∨ j = 1 ∨ j = 2 ∨ j = 3 ∨ j = 4 ∨ j = 5 := by omega
  rcases this with rfl | rfl | rfl | rfl | rfl | rfl <;> simp [ByteArray.size_append] <;> omega
theorem small_four : ∀ j, j < 4 → (([⟨#[]⟩, ⟨#[]⟩ ++ ⟨#[128]⟩, ⟨#[128]⟩ ++ ⟨#[]⟩, ⟨#[]⟩ ++ ⟨#[]⟩] : List ByteArray).getD j ⟨#[]⟩).size ≤ 20 := by
  intro j hj
  have : j = 0 ∨ j = 1 ∨ j = 2 ∨ j = 3 := by omega
  rcases this with rfl | rfl | rfl | rfl <;> decide
theorem own_two {w4 : World} {base : Nat} {v : Value} {n : Nat} {xs : List Value} (h : w4.ownsRow base 9 1 v n xs) (A B : ByteArray) : (w4.alloc (.cells #[.string A, .string B] 9)).drew.ownsRow base 9 1 v n xs := (h.alloc (.cells #[.string A, .string B] 9)).drew
theorem cell_two_drew (w4 : World) (A B : ByteArray) : ∀ j u, [Value.string A, Value.string B][j]? = some u → (w4.alloc (.cells #[.string A, .string B] 9)).drew.cell? ((⟨w4.heap.size, 0, none⟩ : Addr).add j) = some u := cell_two_new w4 (.string A) (.string B) 9
theorem size_two {w4 : World} {b : Nat} (h : b ≤ w4.heap.size) (A B : ByteArray) : b ≤ (w4.alloc (.cells #[.string A, .string B] 9)).drew.heap.size := by simp; omega

set_option maxRecDepth 100000 in
set_option maxHeartbeats 1000000 in
theorem edges_walk (a0 : Option Addr) (l0 c0 : Nat) (v1 : Value) (w : World) :
    Calls Try.prog 5 #[.agg #[.slice a0 l0 c0, v1]] w fun e w' => e = .returned (.bool true) ∧ Below w.heap.size w w' := by
  have hb0 : Below w.heap.size w (w.alloc (.cells #[.slice a0 l0 c0, v1] 25)) := (Below.refl _ _).alloc (Nat.le_refl _) _
  have hc0 : (w.alloc (.cells #[.slice a0 l0 c0, v1] 25)).cell? ⟨w.heap.size, 0, none⟩ = some (.slice a0 l0 c0) := by simp
  have hz0 : (w.alloc (.cells #[.slice a0 l0 c0, v1] 25)).heap.size = w.heap.size + 1 := by simp
  go_enter Try.func5, Try.ntmps5
  go_wp2
  generalize w.alloc (.cells #[.slice a0 l0 c0, v1] 25) = W0 at *
  have HZ := Lib.hid hz0
  clear hz0
  go_loopw [3] (fun i wr => ∃ (k : Nat), k ≤ 31 ∧ i = .int .i64 k ∧ Below W0.heap.size W0 wr) (fun i _ => 31 - (intOf i).toNat)
  case atStart => exact ⟨0, by omega, rfl, Below.refl _ _⟩
  case round =>
    obtain ⟨k, hk, rfl, hbel⟩ := hrel
    by_cases hlt : k < 31
    · have hkd : decide ((k : Int) < 31) = true := by simp; omega
      go_wp2
      go_loopw [4] (fun i wr => ∃ (d : Nat), d ≤ 3 ∧ i = .int .i64 ((d : Int) - 1) ∧ Below W0.heap.size W0 wr) (fun i _ => (2 - intOf i).toNat)
      case atStart => exact ⟨0, by omega, rfl, hbel⟩
      case round =>
        clear hbel
        obtain ⟨d, hd, rfl, hbel⟩ := hrel
        by_cases hdl : d < 3
        · go_wp2_with fail
          generalize wrap64 (wrap64 (2 ^ k) + ((d : Int) - 1)) = n at *
          generalize wrap64 (2 ^ k) = z2 at *
          cases hok : okB n with
          | true =>
            have hp := Put_ok n
            have hrp := fun w => rPut_ok n w (okB_of hok).1 (okB_of hok).2
            have hu5 : (uvarint n.toNat).length ≤ 5 := uvarint_length 4 _ (by have := okB_of hok; simp; omega)
            have hu1 := uvarint_pos n.toNat
            generalize uvarint n.toNat = U at *
            have hUd : decide (0 < U.length) = true := by simp; omega
            have HP := Lib.hid hp
            have HRP := Lib.hid hrp
            have HOK := Lib.hid hok
            clear hp hrp hok
            refine (HP.out _ HOK.out).mono ?_
            rintro e w1 ⟨rfl, hb1⟩
            go_wp2_with (first | (go_at_call 12; refine (num_any _ _).mono ?_; rintro e w3 ⟨rfl, rfl⟩) | (go_at_call 10; refine (rNum_yes _ _ HOK.out).mono ?_; rintro e w3 ⟨rfl, rfl⟩) | (go_at_call 11; refine (HRP.out _).mono ?_; rintro e w3 ⟨rfl, hb3⟩))
            have hown := World.ownsRow_lit (e := 9) (size := 1) (base := w3.heap.size) w3 #[S U, .string (⟨U.toArray⟩ ++ ⟨#[128]⟩), .string (⟨#[128]⟩ ++ ⟨U.toArray⟩), .string (⟨U.toArray⟩ ++ ⟨U.toArray⟩)] 4 (Nat.le_refl _) (by decide) rfl
            have hbw3 : Below W0.heap.size W0 w3 := (hbel.trans (hb1.mono hbel.size)).trans (hb3.mono (Nat.le_trans hbel.size hb1.size))
            have hbw4 := hbw3.alloc hbw3.size (.cells #[S U, .string (⟨U.toArray⟩ ++ ⟨#[128]⟩), .string (⟨#[128]⟩ ++ ⟨U.toArray⟩), .string (⟨U.toArray⟩ ++ ⟨U.toArray⟩)] 9)
            have hzz : w3.heap.size ≤ (w3.alloc (.cells #[S U, .string (⟨U.toArray⟩ ++ ⟨#[128]⟩), .string (⟨#[128]⟩ ++ ⟨U.toArray⟩), .string (⟨U.toArray⟩ ++ ⟨U.toArray⟩)] 9)).heap.size := by simp
            generalize w3.alloc (.cells #[S U, .string (⟨U.toArray⟩ ++ ⟨#[128]⟩), .string (⟨#[128]⟩ ++ ⟨U.toArray⟩), .string (⟨U.toArray⟩ ++ ⟨U.toArray⟩)] 9) = w4 at *
            obtain ⟨i9, hi, hz0, hz1, hz2⟩ := info_parts Try.info9
            obtain ⟨A, B, hA, hB, hAs, hw1, hw2, hw3⟩ := cut_facts U hu1 hu5
            have hcat := cat_run A B hB hAs
            clear hw3
            have HB := Lib.hid hB
            clear hB
            have ho := own_two hown A B
            have hnw := cell_two_drew w4 A B
            have hbs := size_two hzz A B
            have hm6 : 4 + 2 ≤ maxLen := by unfold maxLen; omega
            have hb6 : (4 + 2) * 16 ≤ 140737488355328 := by omega
            have HO := Lib.hid ho
            have HN := Lib.hid hnw
            have HS := Lib.hid hbs
            clear ho hnw hbs
            as_aux_lemma =>
              go_region_held3 (fun _ => True) (exact trivial) ((refine step_append_lies _ (by rfl) _ _ _ (by rfl) w3.heap.size 9 i9 (.string ⟨#[]⟩) 1 16 Try.underlying23 hi hz0 hz1 hz2 (by rfl) (by decide) (.slice (some ⟨w3.heap.size, 0, none⟩) 4 4) 4 _ (by rfl) HO.out ⟨w4.heap.size, 0, none⟩ 2 2 [.string A, .string B] (by rfl) (by rfl) HN.out (two_str _ _) (by omega) hm6 hb6 HS.out _ rfl ?_; intro g cap w5 hown5 hgrow5 hat5 hlt5))
              have hbw5 : Below W0.heap.size W0 w5 := ((hbw4.alloc hbw4.size _).drew).grown hgrow5 (by have := hbw4.size; simp; omega) (fun q hq => by simp [Value.ownBlock] at hq; subst hq; exact hbw3.size)
              have hown6 : w5.ownsRow w3.heap.size 9 1 (.slice (some ⟨g, 0, none⟩) 6 cap) 6 (([⟨U.toArray⟩, ⟨U.toArray⟩ ++ ⟨#[128]⟩, ⟨#[128]⟩ ++ ⟨U.toArray⟩, ⟨U.toArray⟩ ++ ⟨U.toArray⟩, A, B] : List ByteArray).map Value.string) := hown5
              have hsmall := small_six U A B hu5 hAs HB.out
              have hl6 : ([⟨U.toArray⟩, ⟨U.toArray⟩ ++ ⟨#[128]⟩, ⟨#[128]⟩ ++ ⟨U.toArray⟩, ⟨U.toArray⟩ ++ ⟨U.toArray⟩, A, B] : List ByteArray).length = 6 := rfl
              generalize ([⟨U.toArray⟩, ⟨U.toArray⟩ ++ ⟨#[128]⟩, ⟨#[128]⟩ ++ ⟨U.toArray⟩, ⟨U.toArray⟩ ++ ⟨U.toArray⟩, A, B] : List ByteArray) = ts at *
              clear hown5 hgrow5 hat5 HO HN HS
              have hcells : ∀ j, j < 6 → w5.cell? ⟨g, j, none⟩ = some (.string (ts.getD j ⟨#[]⟩)) := fun j hj => by
                rw [hown6.cellAt j (by omega), List.getElem?_map, List.getD, List.getElem?_eq_getElem (by omega)]; rfl
              have hg5 : g < w5.heap.size := hlt5
              have HC := Lib.hid hcells
              have HSM := Lib.hid hsmall
              clear hcells hsmall hown6
              go_wp2
              go_loopw [9] (fun i wq => ∃ (j : Nat), j ≤ 6 ∧ i = .int .i64 j ∧ Below w5.heap.size w5 wq) (fun i _ => 6 - (intOf i).toNat)
              case atStart => exact ⟨0, by omega, rfl, Below.refl _ _⟩
              case round =>
                obtain ⟨j, hj, rfl, hbq⟩ := hrel
                by_cases hjl : j < 6
                · have hcell : wr.cell? ⟨g, j, none⟩ = some (.string (ts.getD j ⟨#[]⟩)) := (hbq.cell hg5).trans (HC.out j hjl)
                  have hmx := HSM.out j hjl
                  generalize ts.getD j ⟨#[]⟩ = t at *
                  have hmx2 : t.size ≤ maxLen := by unfold maxLen; omega
                  cases hT : tk 0 0 t.data.toList with
                  | none =>
                    have hk := fun w => Take_any t w hmx2
                    have hrk := fun w => rTake_any t w hmx2
                    simp only [hT, takeV, rtakeV] at hk hrk
                    have HK := Lib.hid hk
                    have HRK := Lib.hid hrk
                    clear hk hrk hT
                    have hji : (j : Int) < 6 := by omega
                    go_wp2_with fail
                    refine (HK.out _).mono ?_
                    rintro e w6 ⟨rfl, hb6⟩
                    have hcell6 : w6.cell? ⟨g, j, none⟩ = some (.string t) := (hb6.cell (Nat.lt_of_lt_of_le hg5 hbq.size)).trans hcell
                    go_wp2_with fail
                    refine (HRK.out _).mono ?_
                    rintro e w7 ⟨rfl, hb7⟩
                    go_wp2_with (go_at_call 12; refine (num_any _ _).mono ?_; rintro e w3 ⟨rfl, rfl⟩)
                    go_roundw
                    case rel => exact ⟨j + 1, by omega, by go_num, (hbq.trans (hb6.mono hbq.size)).trans (hb7.mono (Nat.le_trans hbq.size hb6.size))⟩
                    case measure => simp [intOf]; omega
                  | some pr =>
                    obtain ⟨m, r⟩ := pr
                    have hk := fun w => Take_any t w hmx2
                    have hrk := fun w => rTake_any t w hmx2
                    simp only [hT, takeV, rtakeV] at hk hrk
                    have HK := Lib.hid hk
                    have HRK := Lib.hid hrk
                    clear hk hrk hT
                    have hji : (j : Int) < 6 := by omega
                    go_wp2_with fail
                    refine (HK.out _).mono ?_
                    rintro e w6 ⟨rfl, hb6⟩
                    have hcell6 : w6.cell? ⟨g, j, none⟩ = some (.string t) := (hb6.cell (Nat.lt_of_lt_of_le hg5 hbq.size)).trans hcell
                    go_wp2_with fail
                    refine (HRK.out _).mono ?_
                    rintro e w7 ⟨rfl, hb7⟩
                    go_wp2_with (go_at_call 12; refine (num_any _ _).mono ?_; rintro e w3 ⟨rfl, rfl⟩)
                    go_roundw
                    case rel => exact ⟨j + 1, by omega, by go_num, (hbq.trans (hb6.mono hbq.size)).trans (hb7.mono (Nat.le_trans hbq.size hb6.size))⟩
                    case measure => simp [intOf]; omega
                · go_wp2
                  go_roundw
                  case rel => exact ⟨d + 1, by omega, by go_num, hbw5.trans (hbq.mono hbw5.size)⟩
                  case measure => simp [intOf]; omega
          | false =>
            have HOK := Lib.hid hok
            clear hok
            refine (Put_bad n _ HOK.out).mono ?_
            rintro e w1 ⟨rfl, rfl⟩
            go_wp2_with (first | (go_at_call 12; refine (num_any _ _).mono ?_; rintro e w3 ⟨rfl, rfl⟩) | (go_at_call 10; refine (rNum_no _ _ HOK.out).mono ?_; rintro e w3 ⟨rfl, rfl⟩))
            have hown6 : (wr.alloc (.cells #[S [], .string (⟨#[]⟩ ++ ⟨#[128]⟩), .string (⟨#[128]⟩ ++ ⟨#[]⟩), .string (⟨#[]⟩ ++ ⟨#[]⟩)] 9)).ownsRow wr.heap.size 9 1 (.slice (some ⟨wr.heap.size, 0, none⟩) 4 4) 4 (([⟨#[]⟩, ⟨#[]⟩ ++ ⟨#[128]⟩, ⟨#[128]⟩ ++ ⟨#[]⟩, ⟨#[]⟩ ++ ⟨#[]⟩] : List ByteArray).map Value.string) := World.ownsRow_lit (e := 9) (size := 1) (base := wr.heap.size) wr #[S [], .string (⟨#[]⟩ ++ ⟨#[128]⟩), .string (⟨#[128]⟩ ++ ⟨#[]⟩), .string (⟨#[]⟩ ++ ⟨#[]⟩)] 4 (Nat.le_refl _) (by decide) rfl
            have hbw5 := hbel.alloc hbel.size (.cells #[S [], .string (⟨#[]⟩ ++ ⟨#[128]⟩), .string (⟨#[128]⟩ ++ ⟨#[]⟩), .string (⟨#[]⟩ ++ ⟨#[]⟩)] 9)
            have hgw : wr.heap.size < (wr.alloc (.cells #[S [], .string (⟨#[]⟩ ++ ⟨#[128]⟩), .string (⟨#[128]⟩ ++ ⟨#[]⟩), .string (⟨#[]⟩ ++ ⟨#[]⟩)] 9)).heap.size := by simp
            have hsmall : ∀ j, j < 4 → (([⟨#[]⟩, ⟨#[]⟩ ++ ⟨#[128]⟩, ⟨#[128]⟩ ++ ⟨#[]⟩, ⟨#[]⟩ ++ ⟨#[]⟩] : List ByteArray).getD j ⟨#[]⟩).size ≤ 20 := small_four
            have hl6 : ([⟨#[]⟩, ⟨#[]⟩ ++ ⟨#[128]⟩, ⟨#[128]⟩ ++ ⟨#[]⟩, ⟨#[]⟩ ++ ⟨#[]⟩] : List ByteArray).length = 4 := rfl
            generalize wr.alloc (.cells #[S [], .string (⟨#[]⟩ ++ ⟨#[128]⟩), .string (⟨#[128]⟩ ++ ⟨#[]⟩), .string (⟨#[]⟩ ++ ⟨#[]⟩)] 9) = w5 at *
            generalize ([⟨#[]⟩, ⟨#[]⟩ ++ ⟨#[128]⟩, ⟨#[128]⟩ ++ ⟨#[]⟩, ⟨#[]⟩ ++ ⟨#[]⟩] : List ByteArray) = ts at *
            generalize wr.heap.size = g at *
            clear hbel
            as_aux_lemma =>
              have hcells : ∀ j, j < 4 → w5.cell? ⟨g, j, none⟩ = some (.string (ts.getD j ⟨#[]⟩)) := fun j hj => by
                rw [hown6.cellAt j (by omega), List.getElem?_map, List.getD, List.getElem?_eq_getElem (by omega)]; rfl
              have hg5 : g < w5.heap.size := hgw
              have HC := Lib.hid hcells
              have HSM := Lib.hid hsmall
              clear hcells hsmall hown6
              go_loopw [9] (fun i wq => ∃ (j : Nat), j ≤ 4 ∧ i = .int .i64 j ∧ Below w5.heap.size w5 wq) (fun i _ => 4 - (intOf i).toNat)
              case atStart => exact ⟨0, by omega, rfl, Below.refl _ _⟩
              case round =>
                obtain ⟨j, hj, rfl, hbq⟩ := hrel
                by_cases hjl : j < 4
                · have hcell : wr.cell? ⟨g, j, none⟩ = some (.string (ts.getD j ⟨#[]⟩)) := (hbq.cell hg5).trans (HC.out j hjl)
                  have hmx := HSM.out j hjl
                  generalize ts.getD j ⟨#[]⟩ = t at *
                  have hmx2 : t.size ≤ maxLen := by unfold maxLen; omega
                  cases hT : tk 0 0 t.data.toList with
                  | none =>
                    have hk := fun w => Take_any t w hmx2
                    have hrk := fun w => rTake_any t w hmx2
                    simp only [hT, takeV, rtakeV] at hk hrk
                    have HK := Lib.hid hk
                    have HRK := Lib.hid hrk
                    clear hk hrk hT
                    have hji : (j : Int) < 4 := by omega
                    go_wp2_with fail
                    refine (HK.out _).mono ?_
                    rintro e w6 ⟨rfl, hb6⟩
                    have hcell6 : w6.cell? ⟨g, j, none⟩ = some (.string t) := (hb6.cell (Nat.lt_of_lt_of_le hg5 hbq.size)).trans hcell
                    go_wp2_with fail
                    refine (HRK.out _).mono ?_
                    rintro e w7 ⟨rfl, hb7⟩
                    go_wp2_with (go_at_call 12; refine (num_any _ _).mono ?_; rintro e w3 ⟨rfl, rfl⟩)
                    go_roundw
                    case rel => exact ⟨j + 1, by omega, by go_num, (hbq.trans (hb6.mono hbq.size)).trans (hb7.mono (Nat.le_trans hbq.size hb6.size))⟩
                    case measure => simp [intOf]; omega
                  | some pr =>
                    obtain ⟨m, r⟩ := pr
                    have hk := fun w => Take_any t w hmx2
                    have hrk := fun w => rTake_any t w hmx2
                    simp only [hT, takeV, rtakeV] at hk hrk
                    have HK := Lib.hid hk
                    have HRK := Lib.hid hrk
                    clear hk hrk hT
                    have hji : (j : Int) < 4 := by omega
                    go_wp2_with fail
                    refine (HK.out _).mono ?_
                    rintro e w6 ⟨rfl, hb6⟩
                    have hcell6 : w6.cell? ⟨g, j, none⟩ = some (.string t) := (hb6.cell (Nat.lt_of_lt_of_le hg5 hbq.size)).trans hcell
                    go_wp2_with fail
                    refine (HRK.out _).mono ?_
                    rintro e w7 ⟨rfl, hb7⟩
                    go_wp2_with (go_at_call 12; refine (num_any _ _).mono ?_; rintro e w3 ⟨rfl, rfl⟩)
                    go_roundw
                    case rel => exact ⟨j + 1, by omega, by go_num, (hbq.trans (hb6.mono hbq.size)).trans (hb7.mono (Nat.le_trans hbq.size hb6.size))⟩
                    case measure => simp [intOf]; omega
                · go_wp2
                  go_roundw
                  case rel => exact ⟨d + 1, by omega, by go_num, hbw5.trans (hbq.mono hbw5.size)⟩
                  case measure => simp [intOf]; omega
        · go_wp2
          go_roundw
          case rel => exact ⟨k + 1, by omega, by go_num, hbel⟩
          case measure => simp [intOf]; omega
    · have hcell : wr.cell? ⟨w.heap.size, 0, none⟩ = some (.slice a0 l0 c0) := (hbel.cell (by have := HZ.out; simp; omega)).trans hc0
      go_wp2_with fail
      refine (wakes_any _).mono ?_
      rintro e w1 ⟨rfl, hb1⟩
      go_wp2
      go_ret
      exact ⟨rfl, hb0.trans ((hbel.trans (hb1.mono hbel.size)).mono hb0.size)⟩
end Go.Proofs.Ytanegkjmalbhcaa
