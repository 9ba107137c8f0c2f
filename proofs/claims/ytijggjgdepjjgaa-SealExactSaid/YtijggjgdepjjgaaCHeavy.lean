/- contracts of the laws' own tests of weight -/
import Derived.Test.YtijggjgdepjjgaaCBase
namespace Go.Proofs.Ytijggjgdepjjgaa
open Go.RowKit Go.Lib

def BIG : Nat := 140737488351232
def HUGE : Nat := 1125899906842624
theorem big_lt : BIG + BIG + 1048576 ≤ HUGE := by decide
theorem huge_lt : (HUGE : Int) ≤ 1152921504606846976 := by decide
/-- how much texts weigh -/
def total (ss : List ByteArray) : Nat := ss.length + (ss.map ByteArray.size).sum
def part (ss : List ByteArray) (k : Nat) : Nat := ss.length + ((ss.take k).map ByteArray.size).sum
theorem part_succ {ss : List ByteArray} {k : Nat} (h : k < ss.length) : part ss (k + 1) = part ss k + ss[k].size := by
  unfold part; rw [List.take_succ_eq_append_getElem h, List.map_append, List.sum_append, List.map_singleton, List.sum_singleton]; omega
theorem part_end {ss : List ByteArray} {k : Nat} (h : ss.length ≤ k) : part ss k = total ss := by
  unfold part total; rw [List.take_of_length_le h]
theorem total_mem {ss : List ByteArray} {s : ByteArray} (h : s ∈ ss) : s.size ≤ total ss := by
  have : s.size ≤ (ss.map ByteArray.size).sum := by
    induction ss with
    | nil => cases h
    | cons x r ih =>
      simp only [List.map_cons, List.sum_cons]
      rcases List.mem_cons.1 h with rfl | h
      · omega
      · have := ih h; omega
  unfold total; omega

/-- what a slice of texts that came in holds -/
structure StrsAt (w : World) (a : Option Addr) (ss : List ByteArray) : Prop where
  cell : ∀ j (h : j < ss.length), ∃ b off, a = some ⟨b, off, none⟩ ∧ b < w.heap.size ∧ w.cell? ⟨b, off + j, none⟩ = some (.string ss[j])
  len : ss.length ≤ BIG
  size : ∀ j (h : j < ss.length), ss[j].size ≤ BIG
structure IntsAt (w : World) (a : Option Addr) (zs : List Int) : Prop where
  cell : ∀ j (h : j < zs.length), ∃ b off, a = some ⟨b, off, none⟩ ∧ b < w.heap.size ∧ w.cell? ⟨b, off + j, none⟩ = some (.int .i64 zs[j])
  len : zs.length ≤ BIG
theorem StrsAt.below {w w' : World} {a : Option Addr} {ss : List ByteArray} (h : StrsAt w a ss) (hb : Below w.heap.size w w') : StrsAt w' a ss :=
  ⟨fun j hj => by obtain ⟨b, off, h1, h2, h3⟩ := h.cell j hj; exact ⟨b, off, h1, Nat.lt_of_lt_of_le h2 hb.size, (hb.cell (p := ⟨b, off + j, none⟩) h2).trans h3⟩, h.len, h.size⟩
theorem IntsAt.below {w w' : World} {a : Option Addr} {zs : List Int} (h : IntsAt w a zs) (hb : Below w.heap.size w w') : IntsAt w' a zs :=
  ⟨fun j hj => by obtain ⟨b, off, h1, h2, h3⟩ := h.cell j hj; exact ⟨b, off, h1, Nat.lt_of_lt_of_le h2 hb.size, (hb.cell (p := ⟨b, off + j, none⟩) h2).trans h3⟩, h.len⟩

def TextsPost (ss : List ByteArray) (w : World) (e : Ending) (w' : World) : Prop := ∃ r : Nat, r ≤ HUGE ∧ e = .returned (.int .i64 r) ∧ (r ≤ 3000 → total ss ≤ 3000) ∧ w = w'

set_option maxRecDepth 100000 in
set_option maxHeartbeats 400000 in
theorem Texts_any (a : Option Addr) (cap : Nat) (ss : List ByteArray) (w : World) (h : StrsAt w a ss) : Calls Try.prog 16 #[.slice a ss.length cap] w (TextsPost ss w) := by
  have hlen := h.len
  have hbl := big_lt
  have hhl := huge_lt
  have H := Lib.hid h
  clear h
  go_enter Try.func16, Try.ntmps16
  go_wp2
  go_loop [3, 4] (fun n i => ∃ k M : Nat, k ≤ ss.length ∧ i = .int .i64 k ∧ n = .int .i64 M ∧ M = part ss k ∧ M ≤ HUGE) (fun _ i => ss.length - (intOf i).toNat)
  case atStart => exact ⟨0, ss.length, by omega, rfl, rfl, by simp [part], by omega⟩
  case round =>
    obtain ⟨k, M, hk, rfl, rfl, hM, hM2⟩ := hrel
    have HM := Lib.hid hM
    clear hM
    by_cases hlt : k < ss.length ∧ (M : Int) < 1048576
    · obtain ⟨h1, h2⟩ := hlt
      obtain ⟨b, off, ha, hb, hc⟩ := H.out.cell k h1
      have hsz : ss[k].size ≤ BIG := H.out.size k h1
      have HP := Lib.hid (part_succ h1)
      generalize ss[k] = s at *
      subst ha
      go_wp2
      go_round
      case rel => exact ⟨k + 1, M + s.size, by omega, by go_num, by go_num, by rw [HP.out, HM.out], by omega⟩
      case measure => simp [intOf]; omega
    · by_cases h1 : k < ss.length
      · have h2 : decide ((M : Int) < 1048576) = false := decide_eq_false (fun h => hlt ⟨h1, h⟩)
        have h4 : ¬ (M : Int) < 1048576 := fun h => hlt ⟨h1, h⟩
        clear hlt
        go_wp2
        go_ret
        exact ⟨M, hM2, rfl, by omega, rfl⟩
      · have h2 : decide (k < ss.length) = false := by simp; omega
        go_wp2
        go_ret
        exact ⟨M, hM2, rfl, by rw [HM.out, part_end (by omega)]; exact id, rfl⟩

def HeavyPost (zs : List Int) (ss : List ByteArray) (w : World) (e : Ending) (w' : World) : Prop := ∃ b : Bool, e = .returned (.bool b) ∧ (b = false → zs.length ≤ 200 ∧ total ss ≤ 3000) ∧ Below w.heap.size w w'

theorem Heavy_any (a0 : Option Addr) (c0 : Nat) (zs : List Int) (a1 : Option Addr) (c1 : Nat) (ss : List ByteArray) (w : World) (_hz : zs.length ≤ BIG) (h : StrsAt w a1 ss) :
    Calls Try.prog 7 #[.agg #[.slice a0 zs.length c0, .slice a1 ss.length c1]] w (HeavyPost zs ss w) := by
  have hb0 : Below w.heap.size w (w.alloc (.cells #[.slice a0 zs.length c0, .slice a1 ss.length c1] 25)) := (Below.refl _ _).alloc (Nat.le_refl _) _
  have H := Lib.hid (h.below hb0)
  clear h
  by_cases hl : 200 < zs.length
  · have hd : decide ((200 : Int) < (zs.length : Int)) = true := by simp; omega
    go_enter Try.func7, Try.ntmps7
    go_wp2
    go_ret
    exact ⟨true, rfl, by simp, hb0⟩
  · have hd : decide ((200 : Int) < (zs.length : Int)) = false := by simp; omega
    go_enter Try.func7, Try.ntmps7
    go_wp2_with fail
    refine (Texts_any _ _ ss _ H.out).mono ?_
    rintro e w1 ⟨r, hr1, rfl, hr2, rfl⟩
    have HR := Lib.hid hr2
    clear hr2
    by_cases h3 : 3000 < r
    · have hd3 : decide ((3000 : Int) < (r : Int)) = true := by simp; omega
      go_wp2
      go_ret
      exact ⟨true, rfl, by simp, hb0⟩
    · have hd3 : decide ((3000 : Int) < (r : Int)) = false := by simp; omega
      go_wp2
      go_ret
      exact ⟨false, rfl, fun _ => ⟨by omega, HR.out (by omega)⟩, hb0⟩
end Go.Proofs.Ytijggjgdepjjgaa
