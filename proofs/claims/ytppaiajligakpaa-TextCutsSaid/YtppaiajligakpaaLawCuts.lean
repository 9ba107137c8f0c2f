/- The law TextCuts: the walk. -/
import Derived.Test.YtppaiajligakpaaCHeavy3
namespace Go.Proofs.Ytppaiajligakpaa
open Go.RowKit Go.Lib

def R8 : List Int := [97, 233, 26085, 128512, 10, 122, 57344, 1114111]
def M8 : List UInt8 := mk R8
theorem R8_len : R8.length = 8 := rfl
theorem R8_all : R8.all okR = true := by decide
theorem R8_rns : rns ⟨M8.toArray⟩ = R8 := by kernel_rfl
theorem R8_okT : okT ⟨M8.toArray⟩ = true := okT_of R8_rns R8_all
theorem M8_size : (⟨M8.toArray⟩ : ByteArray).size ≤ 60000 := by decide +kernel
theorem sub_R8_len (i k : Nat) (h1 : i ≤ k) (h2 : k ≤ 8) : (sub R8 i k).length = k - i := sub_length h1 (by rw [R8_len]; exact h2)
theorem R8_at {w : World} {g : Nat} (hg : g < w.heap.size) (h : ∀ j, j < 8 → w.cell? ⟨g, j, none⟩ = (rv R8)[j]?) : RunesAt w (some ⟨g, 0, none⟩) R8 :=
  ⟨fun j hj => ⟨g, 0, rfl, hg, by rw [Nat.zero_add, h j (by rw [R8_len] at hj; exact hj), rv_get hj]⟩, by decide⟩
theorem R8_new (W0 : World) : RunesAt (W0.alloc (.cells #[.int .i32 97, .int .i32 233, .int .i32 26085, .int .i32 128512, .int .i32 10, .int .i32 122, .int .i32 57344, .int .i32 1114111] 21)) (some ⟨W0.heap.size, 0, none⟩) R8 := by
  refine R8_at (by rw [World.size_alloc]; omega) (fun j hj => ?_)
  rw [World.cell?_alloc_new]
  have : j = 0 ∨ j = 1 ∨ j = 2 ∨ j = 3 ∨ j = 4 ∨ j = 5 ∨ j = 6 ∨ j = 7 := by omega
  rcases this with rfl | rfl | rfl | rfl | rfl | rfl | rfl | rfl <;> rfl
theorem R8_next (w W0 : World) (v : Value) (hz0 : W0.heap.size = w.heap.size + 1) (hb0 : Below w.heap.size w W0) (hcN : W0.cell? ⟨w.heap.size, 2, none⟩ = some v) (o : Obj) :
    Below w.heap.size w (W0.alloc o) ∧ w.heap.size < (W0.alloc o).heap.size ∧ (W0.alloc o).cell? ⟨w.heap.size, 2, none⟩ = some v := by
  refine ⟨hb0.alloc hb0.size _, by rw [World.size_alloc]; omega, ?_⟩
  rw [World.cell?_alloc_lt (h := by show w.heap.size < _; omega)]; exact hcN
theorem Cut8_lim (i k : Nat) (w : World) (h : k < i) : Calls Try.prog 9 #[S M8, .int .i64 i, .int .i64 k] w (CutIs [] 2 w) :=
  Cut_lim ⟨M8.toArray⟩ i k w R8_okT M8_size (by omega)
theorem Cut8_ok (i k : Nat) (w : World) (h : i ≤ k) (h2 : k ≤ 8) : Calls Try.prog 9 #[S M8, .int .i64 i, .int .i64 k] w (CutIs (mk (sub R8 i k)) 0 w) := by
  have h := Cut_ok ⟨M8.toArray⟩ i k w R8_okT M8_size h (by rw [R8_rns]; exact h2)
  rw [R8_rns] at h
  exact h
theorem rMake_n (a : Option Addr) (cap n : Nat) (l : List Int) (w : World) (h : RunesAt w a l) (hn : l.length = n) (hl : n ≤ 60000) : Calls Try.prog 11 #[.slice a n cap] w (StrPost (mk l) w) := by
  subst hn; exact rMake a cap l w h hl

set_option maxRecDepth 100000 in
set_option maxHeartbeats 1000000 in
theorem cuts_walk (v0 v1 : Value) (a2 : Option Addr) (l2 c2 : Nat) (w : World) :
    Calls Try.prog 4 #[.agg #[v0, v1, .slice a2 l2 c2]] w fun e w' => e = .returned (.bool true) ∧ Below w.heap.size w w' := by
  have hb0 : Below w.heap.size w (w.alloc (.cells #[v0, v1, .slice a2 l2 c2] 26)) := (Below.refl _ _).alloc (Nat.le_refl _) _
  have hcN : (w.alloc (.cells #[v0, v1, .slice a2 l2 c2] 26)).cell? ⟨w.heap.size, 2, none⟩ = some (.slice a2 l2 c2) := by simp
  have hz0 : (w.alloc (.cells #[v0, v1, .slice a2 l2 c2] 26)).heap.size = w.heap.size + 1 := by simp
  go_enter Try.func4, Try.ntmps4
  go_wp2_with fail
  generalize w.alloc (.cells #[v0, v1, .slice a2 l2 c2] 26) = W0 at *
  have hr1 := R8_new W0
  rw [hz0] at hr1
  obtain ⟨hb1, hlt1, hcN1⟩ := R8_next w W0 _ hz0 hb0 hcN (.cells #[.int .i32 97, .int .i32 233, .int .i32 26085, .int .i32 128512, .int .i32 10, .int .i32 122, .int .i32 57344, .int .i32 1114111] 21)
  generalize W0.alloc (.cells #[.int .i32 97, .int .i32 233, .int .i32 26085, .int .i32 128512, .int .i32 10, .int .i32 122, .int .i32 57344, .int .i32 1114111] 21) = W1 at *
  clear hz0 hcN hb0
  have HR := Lib.hid hr1
  have HN := Lib.hid hcN1
  clear hr1 hcN1
  have HM := Lib.hid (fun W => rMake_n (some ⟨w.heap.size + 1, 0, none⟩) 8 8 R8 W)
  have HX := Lib.hid Cut8_lim
  have HC := Lib.hid Cut8_ok
  rw [show mk R8 = M8 from rfl] at HM
  generalize M8 = M at *
  have h8 : R8.length = 8 := rfl
  have hs8 := sub_R8_len
  generalize R8 = R at *
  have HS := Lib.hid hs8
  have H8 := Lib.hid h8
  clear hs8 h8
  refine (HM.out _ HR.out H8.out (by decide)).mono ?_
  rintro e w1 ⟨rfl, rfl⟩
  go_wp2_with fail
  go_loopw [5] (fun i wr => ∃ n : Nat, n ≤ 9 ∧ i = .int .i64 n ∧ Below W1.heap.size W1 wr) (fun i _ => 9 - (RowKit.intOf i).toNat)
  case atStart => exact ⟨0, by omega, rfl, Below.refl _ _⟩
  case round =>
    obtain ⟨n, hn, rfl, hbel⟩ := hrel
    by_cases hlt : n ≤ 8
    · have hni : (n : Int) ≤ 8 := by omega
      go_wp2_with fail
      go_loopw [6] (fun i wq => ∃ m : Nat, m ≤ 9 ∧ i = .int .i64 m ∧ Below W1.heap.size W1 wq) (fun i _ => 9 - (RowKit.intOf i).toNat)
      case atStart => exact ⟨0, by omega, rfl, hbel⟩
      case round =>
        clear hbel
        obtain ⟨m, hm, rfl, hbq⟩ := hrel
        by_cases hlm : m ≤ 8
        · have hmi : (m : Int) ≤ 8 := by omega
          by_cases hg : m < n
          · have hgi : decide (m < n) = true := decide_eq_true hg
            go_wp2_with fail
            refine (HX.out n m _ hg).mono ?_
            rintro e w2 ⟨rfl, hb2⟩
            go_wp2
            go_roundw
            case rel => exact ⟨m + 1, by omega, by go_num, hbq.trans (hb2.mono hbq.size)⟩
            case measure => simp [RowKit.intOf]; omega
          · have hgi : decide (m < n) = false := decide_eq_false hg
            have hnm : n ≤ m := by omega
            go_wp2_with fail
            refine (HC.out n m _ hnm hlm).mono ?_
            rintro e w2 ⟨rfl, hb2⟩
            go_wp2_with fail
            refine (num_any _ _).mono ?_
            rintro e w3 ⟨rfl, rfl⟩
            have hb3 := hbq.trans (hb2.mono hbq.size)
            have HR2 := Lib.hid ((HR.out.below hb3).sub (cap := 8) hnm (by rw [H8.out]; exact hlm) (by rw [H8.out]; exact Nat.le_refl _))
            have HL2 := Lib.hid (HS.out n m hnm hlm)
            clear hb2 hbq hgi hg
            generalize sub R n m = R2 at *
            by_cases hn8 : 8 = n
            · subst hn8
              obtain rfl : m = 8 := by omega
              go_wp2_with fail
              refine (rMake_n _ _ _ R2 _ HR2.out HL2.out (by omega)).mono ?_
              rintro e w4 ⟨rfl, rfl⟩
              go_wp2
              go_roundw
              case rel =>
                (repeat apply Exists.intro)
                exact ⟨⟨8 + 1, by omega, by go_num, hb3⟩, rfl⟩
              case measure => simp [RowKit.intOf]
            · go_wp2_with fail
              have hh := HR2.out
              rw [if_neg hn8] at hh
              simp only [Option.map_some, Addr.add_lit, Nat.zero_add] at hh
              refine (rMake_n _ _ _ R2 _ hh HL2.out (by omega)).mono ?_
              rintro e w4 ⟨rfl, rfl⟩
              clear hh
              go_wp2
              go_roundw
              case rel => exact ⟨m + 1, by omega, by go_num, hb3⟩
              case measure => simp [RowKit.intOf]; omega
        · have hmi : ¬ (m : Int) ≤ 8 := by omega
          go_wp2
          go_roundw
          case rel => exact ⟨n + 1, by omega, by go_num, hbq⟩
          case measure => simp [RowKit.intOf]; omega
    · have hni : ¬ (n : Int) ≤ 8 := by omega
      have hcN2 := (hbel.cell (p := ⟨w.heap.size, 2, none⟩) hlt1).trans HN.out
      go_wp2_with fail
      refine (wakes_any _).mono ?_
      rintro e w2 ⟨rfl, hb2⟩
      go_wp2
      go_ret
      exact ⟨rfl, hb1.trans ((hbel.trans (hb2.mono hbel.size)).mono hb1.size)⟩
end Go.Proofs.Ytppaiajligakpaa
