/- Contract of the laws' own wakes. -/
import Derived.Test.YtijggjgdepjjgaaCRUnframe
namespace Go.Proofs.Ytijggjgdepjjgaa
open Go.RowKit Go.Lib

theorem S_self (s : ByteArray) : S s.data.toList = .string s := by unfold S; congr 1
theorem sealed_yes (s r : ByteArray) (F : List UInt8) (w : World) (hF : frameOf s.data.toList = F) (hs : s.size ≤ 700) (hr : r.size ≤ 268435456) :
    Calls Try.prog 12 #[.string ((⟨F.toArray⟩ : ByteArray) ++ r)] w fun e w' => e = .returned (.tuple #[.string s, .string r, .bool true]) ∧ Below w.heap.size w w' := by
  have hl := frameOf_le s.data.toList
  rw [hF] at hl
  have h := sTake_any ((⟨F.toArray⟩ : ByteArray) ++ r) w (by rw [joined_size]; unfold maxLen; omega)
  rw [joined_list, ← hF, unf_frame (by rw [len_size]; omega)] at h
  simp only [rttV, S_self] at h
  rw [hF] at h
  exact h
theorem wakes_any (w : World) : Calls Try.prog 14 #[] w fun e w' => e = .returned (.bool true) ∧ Below w.heap.size w w' := by
  have h1 := fun w => Add_any ⟨#[97, 98]⟩ w (by decide)
  have hl := frameOf_le [97, 98]
  obtain ⟨F, hF⟩ : ∃ F, frameOf [97, 98] = F := ⟨_, rfl⟩
  simp only [hF] at h1
  rw [hF] at hl
  have h2 := fun w => sealed_yes ⟨#[97, 98]⟩ ⟨#[99]⟩ F w hF (by decide) (by decide)
  have h3 := fun w => Add_any ⟨#[]⟩ w (by decide)
  have h3l : (frameOf (⟨#[]⟩ : ByteArray).data.toList).length = 5 := by
    rw [frameOf_len (by decide)]
    show (uvarint 0).length + 4 + 0 = 5
    rw [uvarint_small (by decide)]; rfl
  obtain ⟨G, hG⟩ : ∃ G, frameOf (⟨#[]⟩ : ByteArray).data.toList = G := ⟨_, rfl⟩
  simp only [hG] at h3 h3l
  have h4 := fun w => Of_any ⟨#[97]⟩ w (by decide)
  have h5 := fun w => Of_any ⟨#[98]⟩ w (by decide)
  have e4 : chk 1 (⟨#[97]⟩ : ByteArray).data.toList = 367 := by decide
  have e5 : chk 1 (⟨#[98]⟩ : ByteArray).data.toList = 368 := by decide
  simp only [e4] at h4
  simp only [e5] at h5
  have h3i : ((G.length : Int) == 5) = true := by simp; omega
  have H1 := Lib.hid h1
  have H2 := Lib.hid h2
  have H3 := Lib.hid h3
  have H4 := Lib.hid h4
  have H5 := Lib.hid h5
  clear h1 h2 h3 h4 h5 h3l e4 e5 hF hG
  go_enter Try.func14, Try.ntmps14
  go_wp2_with fail
  refine (H1.out _).mono ?_
  rintro e w1 ⟨rfl, hb1⟩
  go_wp2_with fail
  refine (H2.out _).mono ?_
  rintro e w2 ⟨rfl, hb2⟩
  go_wp2_with fail
  refine (H3.out _).mono ?_
  rintro e w3 ⟨rfl, hb3⟩
  go_wp2_with fail
  refine (H4.out _).mono ?_
  rintro e w4 ⟨rfl, rfl⟩
  go_wp2_with fail
  refine (H5.out _).mono ?_
  rintro e w4 ⟨rfl, rfl⟩
  go_wp2
  go_ret
  have h12 := hb1.trans (hb2.mono hb1.size)
  exact ⟨rfl, h12.trans (hb3.mono h12.size)⟩
end Go.Proofs.Ytijggjgdepjjgaa
