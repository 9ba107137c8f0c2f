/- The law TextBytes: the walk. -/
import Derived.Test.YtppaiajligakpaaDoorCHeavy3
import Derived.Test.YtppaiajligakpaaDoorCDoor2
import Derived.Deep.DeepCutAuto
namespace Go.Proofs.YtppaiajligakpaaDoor
open Go.RowKit Go.Lib

def tailB (k : Nat) : ByteArray := ([⟨#[]⟩, ⟨#[97]⟩, ⟨#[128]⟩, ⟨#[191]⟩, ⟨#[160, 128]⟩, ⟨#[143, 191, 191]⟩, ⟨#[159, 152, 128]⟩] : List ByteArray).getD k ⟨#[]⟩
theorem tailB_at (k : Nat) (h : k < 7) : (#[.string ⟨#[]⟩, .string ⟨#[97]⟩, .string ⟨#[128]⟩, .string ⟨#[191]⟩, .string ⟨#[160, 128]⟩, .string ⟨#[143, 191, 191]⟩, .string ⟨#[159, 152, 128]⟩] : Array Value)[k]? = some (.string (tailB k)) ∧ (tailB k).size ≤ 4 := by
  have : k = 0 ∨ k = 1 ∨ k = 2 ∨ k = 3 ∨ k = 4 ∨ k = 5 ∨ k = 6 := by omega
  rcases this with rfl | rfl | rfl | rfl | rfl | rfl | rfl <;> exact ⟨rfl, by decide⟩

theorem conv_at {P : Program} (w : World) (src dst e : TypeId) (g n : Nat) (hs : P.underlying src = some (.slice e)) (he : P.underlying e = some (.int .u8)) (hd : P.underlying dst = some .string) (hn : n < 256)
    (hc : w.cell? ⟨g, 0, none⟩ = some (.int .u8 (n : Int))) :
    (convert src dst (.slice (some ⟨g, 0, none⟩) 1 1)).run P w = .ok (S [UInt8.ofNat n]) w := by
  refine run_convert_bytes_back w src dst e ⟨g, 0, none⟩ 1 [UInt8.ofNat n] hs he hd ?_
  intro j hj
  have hj0 : j = 0 := by simpa using hj
  subst hj0
  have ex : ((UInt8.ofNat n).toNat : Int) = (n : Int) := by simp [UInt8.toNat_ofNat']; omega
  simp only [List.getElem_cons_zero, ex]
  simpa [Addr.add] using hc
def ROW : Obj := .cells #[.string ⟨#[]⟩, .string ⟨#[97]⟩, .string ⟨#[128]⟩, .string ⟨#[191]⟩, .string ⟨#[160, 128]⟩, .string ⟨#[143, 191, 191]⟩, .string ⟨#[159, 152, 128]⟩] 9
theorem conv_a (wr : World) (n : Nat) (hn : n < 256) : (convert 46 9 (.slice (some ⟨wr.heap.size, 0, none⟩) 1 1)).run Tryd.prog (wr.alloc (.cells #[.int .u8 (n : Int)] 5)).drew = .ok (S [UInt8.ofNat n]) (wr.alloc (.cells #[.int .u8 (n : Int)] 5)).drew :=
  conv_at _ 46 9 5 _ n Tryd.underlying46 Tryd.underlying5 Tryd.underlying9 hn (by simp)
theorem conv_b (wr : World) (n : Nat) (hn : n < 256) : (convert 46 9 (.slice (some ⟨wr.heap.size + 1, 0, none⟩) 1 1)).run Tryd.prog ((wr.alloc ROW).alloc (.cells #[.int .u8 (n : Int)] 5)).drew = .ok (S [UInt8.ofNat n]) ((wr.alloc ROW).alloc (.cells #[.int .u8 (n : Int)] 5)).drew :=
  conv_at _ 46 9 5 _ n Tryd.underlying46 Tryd.underlying5 Tryd.underlying9 hn (by
    have h : (wr.alloc ROW).heap.size = wr.heap.size + 1 := by simp
    rw [← h]; simp)
theorem conv_c (wr : World) (n : Nat) (hn : n < 256) : (convert 46 9 (.slice (some ⟨wr.heap.size, 0, none⟩) 1 1)).run Tryd.prog ((wr.alloc (.cells #[.int .u8 (n : Int)] 5)).alloc ROW).drew = .ok (S [UInt8.ofNat n]) ((wr.alloc (.cells #[.int .u8 (n : Int)] 5)).alloc ROW).drew :=
  conv_at _ 46 9 5 _ n Tryd.underlying46 Tryd.underlying5 Tryd.underlying9 hn (by
    show ((wr.alloc (.cells #[.int .u8 (n : Int)] 5)).alloc ROW).cell? _ = _
    rw [World.cell?_alloc_lt (h := by simp)]; simp)

theorem tailB_get (k : Nat) (h : k < ([.string ⟨#[]⟩, .string ⟨#[97]⟩, .string ⟨#[128]⟩, .string ⟨#[191]⟩, .string ⟨#[160, 128]⟩, .string ⟨#[143, 191, 191]⟩, .string ⟨#[159, 152, 128]⟩] : List Value).length) : ([.string ⟨#[]⟩, .string ⟨#[97]⟩, .string ⟨#[128]⟩, .string ⟨#[191]⟩, .string ⟨#[160, 128]⟩, .string ⟨#[143, 191, 191]⟩, .string ⟨#[159, 152, 128]⟩] : List Value)[k] = .string (tailB k) := by
  have h2 := (tailB_at k h).1
  rw [Array.getElem?_eq_getElem (by exact h)] at h2
  exact Option.some.inj h2
set_option maxRecDepth 100000 in
set_option maxHeartbeats 1000000 in
theorem bytes_walk (a0 : Option Addr) (l0 c0 : Nat) (v1 v2 : Value) (w : World) (hT : Tabs w) :
    Calls Tryd.prog 4 #[.agg #[.slice a0 l0 c0, v1, v2]] w fun e w' => e = .returned (.bool true) ∧ Below w.heap.size w w' := by
  have hb0 : Below w.heap.size w (w.alloc (.cells #[.slice a0 l0 c0, v1, v2] 26)) := (Below.refl _ _).alloc (Nat.le_refl _) _
  have hcS : (w.alloc (.cells #[.slice a0 l0 c0, v1, v2] 26)).cell? ⟨w.heap.size, 0, none⟩ = some (.slice a0 l0 c0) := by simp
  have hz0 : w.heap.size < (w.alloc (.cells #[.slice a0 l0 c0, v1, v2] 26)).heap.size := by simp
  have HT := Lib.hid (hT.next hb0)
  clear hT
  go_enter Tryd.func4, Tryd.ntmps4
  go_wp2_with fail
  generalize w.alloc (.cells #[.slice a0 l0 c0, v1, v2] 26) = W0 at *
  go_loopw [3] (fun i wr => ∃ n : Nat, n ≤ 256 ∧ i = .int .i64 n ∧ Below W0.heap.size W0 wr) (fun i _ => 256 - (RowKit.intOf i).toNat)
  case atStart => exact ⟨0, by omega, rfl, Below.refl _ _⟩
  case round =>
    obtain ⟨n, hn, rfl, hbel⟩ := hrel
    by_cases hlt : n < 256
    · have hni : (n : Int) < 256 := by omega
      go_wp2_with fail
      go_loopw [4] (fun i wq => ∃ m : Nat, m ≤ 7 ∧ i = .int .i64 m ∧ Below W0.heap.size W0 wq) (fun i _ => 7 - (RowKit.intOf i).toNat)
      case atStart => exact ⟨0, by omega, rfl, hbel⟩
      case round =>
        clear hbel
        obtain ⟨m, hm, rfl, hbq⟩ := hrel
        by_cases hlm : m < 7
        · have hmi : (m : Int) < 7 := by omega
          obtain ⟨ht1, ht2⟩ := tailB_at m hlm
          have ht3 := tailB_get m hlm
          generalize tailB m = t at *
          go_upto_region 7 with fail
          go_cut [5] (fun v wx => ∃ s : ByteArray, v = .string s ∧ s.size ≤ 60000 ∧ Below W0.heap.size W0 wx)
          case first =>
            have k1 := conv_a wr n hlt
            have k2 := conv_b wr n hlt
            have k3 := conv_c wr n hlt
            unfold ROW at k2 k3
            generalize UInt8.ofNat n = c at *
            have hcat := fun wx => run_string_add (P := Tryd.prog) wx ⟨[c].toArray⟩ t (by show (([c] : List UInt8).length : Int) ≤ _; simp) (by omega)
            go_region
            all_goals
              go_wp2_with fail
              go_meet
              exact ⟨_, rfl, (by rw [ByteArray.size_append]; show 1 + t.size ≤ 60000; omega), ((hbq.alloc hbq.size _).alloc (by have := hbq.size; simp; omega) _).drew⟩
          case rest =>
            clear hbq ht1 ht2 ht3
            obtain ⟨s, rfl, hs, hbw⟩ := hcut
            have hrl := rns_length s
            cases hok : okT s
            · have HRO := Lib.hid (fun w => Runes_bad s w hok)
              have HRR := Lib.hid (fun w h => rRunes_bad s w h hs hok)
              clear hok
              go_wp2_with fail
              refine (HRO.out _).mono ?_
              rintro e w2 ⟨rfl, hb2⟩
              have hbw2 := hbw.trans (hb2.mono hbw.size)
              clear hb2 hbw
              go_wp2_with fail
              refine (HRR.out _ (HT.out.next hbw2)).mono ?_
              rintro e w3 ⟨rfl, hb3⟩
              have hbw3 := hbw2.trans (hb3.mono hbw2.size)
              clear hb3 hbw2
              go_wp2_with fail
              refine (num_any _ _).mono ?_
              rintro e w4 ⟨rfl, rfl⟩
              go_wp2
              go_roundw
              case rel => exact ⟨m + 1, by omega, by go_num, hbw3⟩
              case measure => simp [RowKit.intOf]; omega
            · have HRO := Lib.hid (fun w => Runes_ok s w hok hs)
              have HRR := Lib.hid (fun w h => rRunes_ok s w h hs hok)
              unfold RunesPost at HRO
              unfold RRunesPost at HRR
              clear hok
              generalize rns s = R at *
              obtain ⟨L, hL⟩ : ∃ L, R.length = L := ⟨_, rfl⟩
              have HL := Lib.hid hL
              rw [hL] at HRO HRR hrl
              clear hL
              go_wp2_with fail
              refine (HRO.out _).mono ?_
              rintro e w2 ⟨ar, cr, rfl, hra, _, _, hb2⟩
              have hbw2 := hbw.trans (hb2.mono hbw.size)
              have HA := Lib.hid hra
              clear hb2 hbw hra
              go_wp2_with fail
              refine (HRR.out _ (HT.out.next hbw2)).mono ?_
              rintro e w3 ⟨ar3, cr3, rfl, hra3, _, _, hb3⟩
              have HA3 := Lib.hid hra3
              have HA2 := Lib.hid (HA.out.below hb3)
              have hbw3 := hbw2.trans (hb3.mono hbw2.size)
              clear hb3 hbw2 hra3
              go_wp2_with fail
              refine (num_any _ _).mono ?_
              rintro e w4 ⟨rfl, rfl⟩
              go_wp2_with fail
              refine (EqRunes_n _ _ _ _ L R _ HA2.out HA3.out HL.out (by omega)).mono ?_
              rintro e w4 ⟨rfl, hb4⟩
              have hbw4 := hbw3.trans (hb4.mono hbw3.size)
              go_wp2
              go_roundw
              case rel => exact ⟨m + 1, by omega, by go_num, hbw4⟩
              case measure => simp [RowKit.intOf]; omega
        · have hmi : ¬ (m : Int) < 7 := by omega
          go_wp2
          go_roundw
          case rel => exact ⟨n + 1, by omega, by go_num, hbq⟩
          case measure => simp [RowKit.intOf]; omega
    · have hni : ¬ (n : Int) < 256 := by omega
      have hcS2 := (hbel.cell (p := ⟨w.heap.size, 0, none⟩) hz0).trans hcS
      go_wp2_with fail
      refine (wakes_any _).mono ?_
      rintro e w2 ⟨rfl, hb2⟩
      go_wp2
      go_ret
      exact ⟨rfl, hb0.trans ((hbel.trans (hb2.mono hbel.size)).mono hb0.size)⟩
end Go.Proofs.YtppaiajligakpaaDoor
