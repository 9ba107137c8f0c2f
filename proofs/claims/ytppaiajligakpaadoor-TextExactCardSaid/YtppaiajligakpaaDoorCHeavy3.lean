/- contracts of the laws' own tests of weight, for arguments of texts, runes and numbers -/
import Derived.Test.YtppaiajligakpaaDoorCMake
namespace Go.Proofs.YtppaiajligakpaaDoor
open Go.RowKit Go.Lib

def BIG : Nat := 140737488351232
def HUGE : Nat := 1125899906842624
theorem big_lt : BIG + BIG + 1048576 ≤ HUGE := by decide
theorem huge_lt : (HUGE : Int) ≤ 1152921504606846976 := by decide
/-- how much texts weigh -/
def total (ss : List ByteArray) : Nat := ss.length + (ss.map ByteArray.size).sum
def part (ss : List ByteArray) (k : Nat) : Nat := ss.length + ((ss.take k).map ByteArray.size).sum
theorem part_succ {ss : List ByteArray} {k : Nat} (h : k < ss.length) : part ss (k + 1) = part ss k + ss[k].size := by
  unfold part; rw [List.take_succ_eq_append_getElem h, List.map_append, List.sum_append, List.map_singleton, List.sum_singleton]; omega
theorem part_end {ss : List ByteArray} {k : Nat} (h : ss.length ≤ k) : part ss k = total ss := by
  unfold part total; rw [List.take_of_length_le h]
theorem total_mem {ss : List ByteArray} {s : ByteArray} (h : s ∈ ss) : s.size ≤ total ss := by
  have : s.size ≤ (ss.map ByteArray.size).sum := by
    induction ss with
    | nil => cases h
    | cons x r ih =>
      simp only [List.map_cons, List.sum_cons]
      rcases List.mem_cons.1 h with rfl | h
      · omega
      · have := ih h; omega
  unfold total; omega

/-- what a slice of texts that came in holds -/
structure StrsAt (w : World) (a : Option Addr) (ss : List ByteArray) : Prop where
  cell : ∀ j (h : j < ss.length), ∃ b off, a = some ⟨b, off, none⟩ ∧ b < w.heap.size ∧ w.cell? ⟨b, off + j, none⟩ = some (.string ss[j])
  len : ss.length ≤ BIG
  size : ∀ j (h : j < ss.length), ss[j].size ≤ BIG
structure IntsAt (w : World) (a : Option Addr) (zs : List Int) : Prop where
  cell : ∀ j (h : j < zs.length), ∃ b off, a = some ⟨b, off, none⟩ ∧ b < w.heap.size ∧ w.cell? ⟨b, off + j, none⟩ = some (.int .i64 zs[j])
  len : zs.length ≤ BIG
theorem StrsAt.below {w w' : World} {a : Option Addr} {ss : List ByteArray} (h : StrsAt w a ss) (hb : Below w.heap.size w w') : StrsAt w' a ss :=
  ⟨fun j hj => by obtain ⟨b, off, h1, h2, h3⟩ := h.cell j hj; exact ⟨b, off, h1, Nat.lt_of_lt_of_le h2 hb.size, (hb.cell (p := ⟨b, off + j, none⟩) h2).trans h3⟩, h.len, h.size⟩
theorem IntsAt.below {w w' : World} {a : Option Addr} {zs : List Int} (h : IntsAt w a zs) (hb : Below w.heap.size w w') : IntsAt w' a zs :=
  ⟨fun j hj => by obtain ⟨b, off, h1, h2, h3⟩ := h.cell j hj; exact ⟨b, off, h1, Nat.lt_of_lt_of_le h2 hb.size, (hb.cell (p := ⟨b, off + j, none⟩) h2).trans h3⟩, h.len⟩

def TextsPost (ss : List ByteArray) (w : World) (e : Ending) (w' : World) : Prop := ∃ r : Nat, r ≤ HUGE ∧ e = .returned (.int .i64 r) ∧ (r ≤ 3000 → total ss ≤ 3000) ∧ w = w'

set_option maxRecDepth 100000 in
set_option maxHeartbeats 400000 in
theorem Texts_any (a : Option Addr) (cap : Nat) (ss : List ByteArray) (w : World) (h : StrsAt w a ss) : Calls Tryd.prog 24 #[.slice a ss.length cap] w (TextsPost ss w) := by
  have hlen := h.len
  have hbl := big_lt
  have hhl := huge_lt
  have H := Lib.hid h
  clear h
  go_enter Tryd.func24, Tryd.ntmps24
  go_wp2
  go_loop [3, 4] (fun n i => ∃ k M : Nat, k ≤ ss.length ∧ i = .int .i64 k ∧ n = .int .i64 M ∧ M = part ss k ∧ M ≤ HUGE) (fun _ i => ss.length - (RowKit.intOf i).toNat)
  case atStart => exact ⟨0, ss.length, by omega, rfl, rfl, by simp [part], by omega⟩
  case round =>
    obtain ⟨k, M, hk, rfl, rfl, hM, hM2⟩ := hrel
    have HM := Lib.hid hM
    clear hM
    by_cases hlt : k < ss.length ∧ (M : Int) < 1048576
    · obtain ⟨h1, h2⟩ := hlt
      obtain ⟨b, off, ha, hb, hc⟩ := H.out.cell k h1
      have hsz : ss[k].size ≤ BIG := H.out.size k h1
      have HP := Lib.hid (part_succ h1)
      generalize ss[k] = s at *
      subst ha
      go_wp2
      go_round
      case rel => exact ⟨k + 1, M + s.size, by omega, by go_num, by go_num, by rw [HP.out, HM.out], by omega⟩
      case measure => simp [RowKit.intOf]; omega
    · by_cases h1 : k < ss.length
      · have h2 : decide ((M : Int) < 1048576) = false := decide_eq_false (fun h => hlt ⟨h1, h⟩)
        have h4 : ¬ (M : Int) < 1048576 := fun h => hlt ⟨h1, h⟩
        clear hlt
        go_wp2
        go_ret
        exact ⟨M, hM2, rfl, by omega, rfl⟩
      · have h2 : decide (k < ss.length) = false := by simp; omega
        go_wp2
        go_ret
        exact ⟨M, hM2, rfl, by rw [HM.out, part_end (by omega)]; exact id, rfl⟩

def HeavyPost (zs : List Int) (ss : List ByteArray) (w : World) (e : Ending) (w' : World) : Prop := ∃ b : Bool, e = .returned (.bool b) ∧ (b = false → zs.length ≤ 200 ∧ total ss ≤ 3000) ∧ Below w.heap.size w w'

theorem Heavy_any (a0 : Option Addr) (c0 : Nat) (zs : List Int) (a1 : Option Addr) (c1 : Nat) (ss : List ByteArray) (w : World) (_hz : zs.length ≤ BIG) (h : StrsAt w a1 ss) :
    Calls Tryd.prog 19 #[.agg #[.slice a0 zs.length c0, .slice a1 ss.length c1]] w (HeavyPost zs ss w) := by
  have hb0 : Below w.heap.size w (w.alloc (.cells #[.slice a0 zs.length c0, .slice a1 ss.length c1] 49)) := (Below.refl _ _).alloc (Nat.le_refl _) _
  have H := Lib.hid (h.below hb0)
  clear h
  by_cases hl : 200 < zs.length
  · have hd : decide ((200 : Int) < (zs.length : Int)) = true := by simp; omega
    go_enter Tryd.func19, Tryd.ntmps19
    go_wp2
    go_ret
    exact ⟨true, rfl, by simp, hb0⟩
  · have hd : decide ((200 : Int) < (zs.length : Int)) = false := by simp; omega
    go_enter Tryd.func19, Tryd.ntmps19
    go_wp2_with fail
    refine (Texts_any _ _ ss _ H.out).mono ?_
    rintro e w1 ⟨r, hr1, rfl, hr2, rfl⟩
    have HR := Lib.hid hr2
    clear hr2
    by_cases h3 : 3000 < r
    · have hd3 : decide ((3000 : Int) < (r : Int)) = true := by simp; omega
      go_wp2
      go_ret
      exact ⟨true, rfl, by simp, hb0⟩
    · have hd3 : decide ((3000 : Int) < (r : Int)) = false := by simp; omega
      go_wp2
      go_ret
      exact ⟨false, rfl, fun _ => ⟨by omega, HR.out (by omega)⟩, hb0⟩

def Heavy3Post (ss : List ByteArray) (rs zs : List Int) (w : World) (e : Ending) (w' : World) : Prop := ∃ b : Bool, e = .returned (.bool b) ∧ (b = false → zs.length ≤ 200 ∧ total ss ≤ 3000 ∧ rs.length ≤ 200) ∧ Below w.heap.size w w'

set_option maxRecDepth 100000 in
set_option maxHeartbeats 1000000 in
theorem Heavy3_any (a0 : Option Addr) (c0 : Nat) (ss : List ByteArray) (a1 : Option Addr) (c1 : Nat) (rs : List Int) (a2 : Option Addr) (c2 : Nat) (zs : List Int) (w : World) (hz : zs.length ≤ BIG) (h : StrsAt w a0 ss) :
    Calls Tryd.prog 5 #[.agg #[.slice a0 ss.length c0, .slice a1 rs.length c1, .slice a2 zs.length c2]] w (Heavy3Post ss rs zs w) := by
  have hb0 : Below w.heap.size w (w.alloc (.cells #[.slice a0 ss.length c0, .slice a1 rs.length c1, .slice a2 zs.length c2] 26)) := (Below.refl _ _).alloc (Nat.le_refl _) _
  have hc1 : (w.alloc (.cells #[.slice a0 ss.length c0, .slice a1 rs.length c1, .slice a2 zs.length c2] 26)).cell? ⟨w.heap.size, 1, none⟩ = some (.slice a1 rs.length c1) := by simp
  have H := Lib.hid (h.below hb0)
  have hz0 : w.heap.size < (w.alloc (.cells #[.slice a0 ss.length c0, .slice a1 rs.length c1, .slice a2 zs.length c2] 26)).heap.size := by simp
  clear h
  go_enter Tryd.func5, Tryd.ntmps5
  go_wp2_with fail
  generalize w.alloc (.cells #[.slice a0 ss.length c0, .slice a1 rs.length c1, .slice a2 zs.length c2] 26) = W0 at *
  refine (Heavy_any a2 c2 zs a0 c0 ss _ hz H.out).mono ?_
  rintro e w1 ⟨hv, rfl, himp, hb1⟩
  have hc2 : w1.cell? ⟨w.heap.size, 1, none⟩ = some (.slice a1 rs.length c1) := (hb1.cell (p := ⟨w.heap.size, 1, none⟩) hz0).trans hc1
  have HB := Lib.hid (hb0.trans (hb1.mono hb0.size))
  clear hb1 hb0 hc1
  cases hv with
  | true =>
    clear himp
    go_wp2
    go_ret
    exact ⟨true, rfl, by simp, HB.out⟩
  | false =>
    have HI := Lib.hid (himp rfl)
    clear himp
    by_cases hl : 200 < rs.length
    · have hd : decide ((200 : Int) < (rs.length : Int)) = true := by simp; omega
      go_wp2
      go_ret
      exact ⟨true, rfl, by simp, HB.out⟩
    · have hd : decide ((200 : Int) < (rs.length : Int)) = false := by simp; omega
      go_wp2
      go_ret
      exact ⟨false, rfl, fun _ => ⟨HI.out.1, HI.out.2, by omega⟩, HB.out⟩

theorem num_any (n : Int) (w : World) : Calls Tryd.prog 9 #[.int .i64 n] w fun e w' => e = .returned (.int .i64 n) ∧ w = w' := by
  go_enter Tryd.func9, Tryd.ntmps9
  go_wp2
  go_ret
  exact ⟨rfl, rfl⟩

/-- two texts at rest -/
theorem rns_ae : rns ⟨#[97, 195, 169]⟩ = [97, 233] := by kernel_rfl
theorem rns_aeb : rns ⟨#[97, 195, 169, 98]⟩ = [97, 233, 98] := by kernel_rfl
theorem okT_of {s : ByteArray} {l : List Int} (h : rns s = l) (hl : l.all okR = true) : okT s = true := by unfold okT; rw [h]; exact hl
def LenIs (n : Nat) (w : World) (e : Ending) (w' : World) : Prop := e = .returned (.tuple #[.int .i64 n, .int .i64 0]) ∧ Below w.heap.size w w'
theorem Len_ae (w : World) : Calls Tryd.prog 7 #[.string ⟨#[97, 195, 169]⟩] w (LenIs 2 w) :=
  (Len_any ⟨#[97, 195, 169]⟩ w (by decide)).mono fun _ _ ⟨he, hb⟩ => by
    have hk : okT ⟨#[97, 195, 169]⟩ = true := okT_of rns_ae (by decide)
    rw [hk, errOf_ok hk, rns_ae] at he
    exact ⟨he, hb⟩
theorem Cut_aeb (w : World) : Calls Tryd.prog 12 #[.string ⟨#[97, 195, 169, 98]⟩, .int .i64 1, .int .i64 2] w (CutIs [195, 169] 0 w) := by
  have h := Cut_ok ⟨#[97, 195, 169, 98]⟩ 1 2 w (okT_of rns_aeb (by decide)) (by decide) (by decide) (by rw [rns_aeb]; decide)
  rw [rns_aeb, show mk (sub [97, 233, 98] 1 2) = [195, 169] from by kernel_rfl] at h
  exact h
set_option maxRecDepth 100000 in
set_option maxHeartbeats 1000000 in
theorem wakes_any (w : World) : Calls Tryd.prog 18 #[] w fun e w' => e = .returned (.bool true) ∧ Below w.heap.size w w' := by
  go_enter Tryd.func18, Tryd.ntmps18
  go_wp2_with fail
  refine (Len_ae _).mono ?_
  rintro e w1 ⟨rfl, hb1⟩
  go_wp2_with fail
  refine (Cut_aeb _).mono ?_
  rintro e w2 ⟨rfl, hb2⟩
  have hb3 := hb1.trans (hb2.mono hb1.size)
  clear hb1 hb2
  go_wp2
  go_ret
  exact ⟨rfl, hb3⟩
end Go.Proofs.YtppaiajligakpaaDoor
