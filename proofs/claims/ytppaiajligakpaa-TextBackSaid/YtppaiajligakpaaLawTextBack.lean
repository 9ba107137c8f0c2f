/- The law TextBack: the walk. -/
import Derived.Test.YtppaiajligakpaaCHeavy3
namespace Go.Proofs.Ytppaiajligakpaa
open Go.RowKit Go.Lib

def MakeIs (s : ByteArray) (w : World) (e : Ending) (w' : World) : Prop := e = .returned (.tuple #[.string s, .int .i64 0]) ∧ Below w.heap.size w w'
theorem Make_back (a : Option Addr) (cap L : Nat) (s : ByteArray) (w : World) (h : RunesAt w a (rns s)) (hL : (rns s).length = L) (hs : s.size ≤ 3000) (hk : okT s = true) : Calls Try.prog 8 #[.slice a L cap] w (MakeIs s w) := by
  have hl := rns_length s
  refine (Make_okn a cap L (rns s) w h hL (by omega) hk).mono ?_
  rintro e w' ⟨he, hb⟩
  rw [mk_rns s hk, S_data] at he
  exact ⟨he, hb⟩
theorem Cut_head (s : ByteArray) (n : Nat) (w : World) (hs : s.size ≤ 3000) (hk : okT s = true) (hn : n ≤ (rns s).length) : Calls Try.prog 9 #[.string s, .int .i64 0, .int .i64 n] w (CutIs (mk ((rns s).take n)) 0 w) := by
  have h := Cut_ok s 0 n w hk (by omega) (by omega) hn
  rw [show sub (rns s) 0 n = (rns s).take n from by simp [sub]] at h
  exact h
theorem Cut_tail (s : ByteArray) (n L : Nat) (w : World) (hs : s.size ≤ 3000) (hk : okT s = true) (hL : (rns s).length = L) (hn : n ≤ L) : Calls Try.prog 9 #[.string s, .int .i64 n, .int .i64 L] w (CutIs (mk ((rns s).drop n)) 0 w) := by
  subst hL
  have h := Cut_ok s n (rns s).length w hk (by omega) hn (Nat.le_refl _)
  rw [show sub (rns s) n (rns s).length = (rns s).drop n from by unfold sub; rw [List.take_of_length_le (by rw [List.length_drop]; exact Nat.le_refl _)]] at h
  exact h
theorem cut_join (s : ByteArray) (n : Nat) (hk : okT s = true) : (⟨(mk ((rns s).take n)).toArray⟩ : ByteArray) ++ (⟨(mk ((rns s).drop n)).toArray⟩ : ByteArray) = s := by
  have h := ba_join (mk ((rns s).take n)) (mk ((rns s).drop n))
  rw [← mk_append, List.take_append_drop, mk_rns s hk, S_data] at h
  injection h

set_option maxRecDepth 100000 in
set_option maxHeartbeats 1000000 in
theorem back_walk (a0 : Option Addr) (c0 : Nat) (ss : List ByteArray) (a1 : Option Addr) (c1 : Nat) (rs : List Int) (a2 : Option Addr) (c2 : Nat) (zs : List Int) (w : World) (hz : IntsAt w a2 zs) (hs : StrsAt w a0 ss) :
    Calls Try.prog 3 #[.agg #[.slice a0 ss.length c0, .slice a1 rs.length c1, .slice a2 zs.length c2]] w fun e w' => e = .returned (.bool true) ∧ Below w.heap.size w w' := by
  have hb0 : Below w.heap.size w (w.alloc (.cells #[.slice a0 ss.length c0, .slice a1 rs.length c1, .slice a2 zs.length c2] 26)) := (Below.refl _ _).alloc (Nat.le_refl _) _
  have hcS : (w.alloc (.cells #[.slice a0 ss.length c0, .slice a1 rs.length c1, .slice a2 zs.length c2] 26)).cell? ⟨w.heap.size, 0, none⟩ = some (.slice a0 ss.length c0) := by simp
  have hc1 : (w.alloc (.cells #[.slice a0 ss.length c0, .slice a1 rs.length c1, .slice a2 zs.length c2] 26)).cell? ⟨w.heap.size, 1, none⟩ = some (.slice a1 rs.length c1) := by simp
  have hc2 : (w.alloc (.cells #[.slice a0 ss.length c0, .slice a1 rs.length c1, .slice a2 zs.length c2] 26)).cell? ⟨w.heap.size, 2, none⟩ = some (.slice a2 zs.length c2) := by simp
  have hz0 : w.heap.size < (w.alloc (.cells #[.slice a0 ss.length c0, .slice a1 rs.length c1, .slice a2 zs.length c2] 26)).heap.size := by simp
  have HSS := Lib.hid (hs.below hb0)
  have hzl := hz.len
  clear hs hz
  go_enter Try.func3, Try.ntmps3
  go_wp2_with fail
  generalize w.alloc (.cells #[.slice a0 ss.length c0, .slice a1 rs.length c1, .slice a2 zs.length c2] 26) = W0 at *
  clear hc1 hc2
  refine (Heavy3_any a0 c0 ss a1 c1 rs a2 c2 zs _ hzl HSS.out).mono ?_
  rintro e w1 ⟨hv, rfl, himp, hb1⟩
  cases hv with
  | true =>
    clear himp
    go_wp2
    go_ret
    exact ⟨rfl, hb0.trans (hb1.mono hb0.size)⟩
  | false =>
    have HTT := Lib.hid (himp rfl).2.1
    clear himp hzl
    have hsl : ss.length ≤ 3000 := by have := HTT.out; unfold total at this; omega
    go_wp2_with fail
    go_loopw [3] (fun i wr => ∃ (k : Nat), k ≤ 8 ∧ k ≤ ss.length ∧ i = .int .i64 k ∧ Below W0.heap.size W0 wr) (fun i _ => 8 - (RowKit.intOf i).toNat)
    case atStart => exact ⟨0, by omega, by omega, rfl, hb1⟩
    case round =>
      clear hb1
      obtain ⟨k, hk8, hks, rfl, hbel⟩ := hrel
      have hS : wr.cell? ⟨w.heap.size, 0, none⟩ = some (.slice a0 ss.length c0) := (hbel.cell (p := ⟨w.heap.size, 0, none⟩) hz0).trans hcS
      by_cases hlt : k < ss.length ∧ k < 8
      · obtain ⟨h1, h2⟩ := hlt
        obtain ⟨b, off, ha, hbz, hcz⟩ := HSS.out.cell k h1
        have hcr : wr.cell? ⟨b, off + k, none⟩ = some (.string ss[k]) := (hbel.cell (p := ⟨b, off + k, none⟩) hbz).trans hcz
        have hsz : ss[k].size ≤ 3000 := Nat.le_trans (total_mem (List.getElem_mem h1)) HTT.out
        have HCZ := Lib.hid hcz
        clear hcz
        generalize ss[k] = s at *
        subst ha
        have h2i : (k : Int) < 8 := by omega
        cases hok : okT s
        · go_wp2_with fail
          refine (Runes_bad s _ hok).mono ?_
          rintro e w2 ⟨rfl, hb2⟩
          have hbw2 := hbel.trans (hb2.mono hbel.size)
          clear hb2 hbel hS hcr
          go_wp2_with fail
          refine (num_any _ _).mono ?_
          rintro e w3 ⟨rfl, rfl⟩
          go_wp2
          go_roundw
          case rel => exact ⟨k + 1, by omega, by omega, by go_num, hbw2⟩
          case measure => simp [RowKit.intOf]; omega
        · have HK := Lib.hid hok
          clear hok
          have HMB := Lib.hid (fun a cap L w h hL => Make_back a cap L s w h hL hsz HK.out)
          have HCH := Lib.hid (fun n w h => Cut_head s n w hsz HK.out h)
          have HCT := Lib.hid (fun n L w hL h => Cut_tail s n L w hsz HK.out hL h)
          have HJ := Lib.hid (fun n => cut_join s n HK.out)
          have HRO := Lib.hid (fun w => Runes_ok s w HK.out (by omega))
          have hRl := rns_length s
          have hml : ∀ n, (mk ((rns s).take n)).length ≤ 12000 ∧ (mk ((rns s).drop n)).length ≤ 12000 := fun n => by
            have h1 := mk_length ((rns s).take n)
            have h2 := mk_length ((rns s).drop n)
            rw [List.length_take] at h1
            rw [List.length_drop] at h2
            omega
          have HML := Lib.hid hml
          clear hml
          unfold RunesPost at HRO
          generalize rns s = R at *
          obtain ⟨L, hL⟩ : ∃ L, R.length = L := ⟨_, rfl⟩
          have HL := Lib.hid hL
          rw [hL] at HRO HCH hRl
          clear hL
          go_wp2_with fail
          refine (HRO.out _).mono ?_
          rintro e w2 ⟨ar, cr, rfl, hra, _, _, hb2⟩
          have HRA := Lib.hid hra
          have hbw2 := hbel.trans (hb2.mono hbel.size)
          clear hb2 hbel hS hcr hra HRO
          go_wp2_with fail
          refine (num_any _ _).mono ?_
          rintro e w3 ⟨rfl, rfl⟩
          go_wp2_with fail
          refine (HMB.out _ _ _ _ HRA.out HL.out).mono ?_
          rintro e w3 ⟨rfl, hb3⟩
          have hbw3 := hbw2.trans (hb3.mono hbw2.size)
          have hS3 : w3.cell? ⟨w.heap.size, 0, none⟩ = some (.slice (some ⟨b, off, none⟩) ss.length c0) := (hbw3.cell (p := ⟨w.heap.size, 0, none⟩) hz0).trans hcS
          have hcr3 : w3.cell? ⟨b, off + k, none⟩ = some (.string s) := (hbw3.cell (p := ⟨b, off + k, none⟩) hbz).trans HCZ.out
          clear hb3 hbw2
          go_wp2_with fail
          refine (num_any _ _).mono ?_
          rintro e w4 ⟨rfl, rfl⟩
          go_wp2_with fail
          go_loopw [8] (fun i wq => ∃ (n : Nat), n ≤ 30 ∧ i = .int .i64 n ∧ Below W0.heap.size W0 wq) (fun i _ => 30 - (RowKit.intOf i).toNat)
          case atStart => exact ⟨0, by omega, rfl, hbw3⟩
          case round =>
            clear hbw3 hS3 hcr3
            obtain ⟨n, hn, rfl, hbq⟩ := hrel
            by_cases hln : n ≤ L ∧ n < 30
            · obtain ⟨hn1, hn2⟩ := hln
              have hn2i : (n : Int) < 30 := by omega
              have hj := HJ.out n
              have hm := HML.out n
              have HC1 := Lib.hid (fun w => HCH.out n w hn1)
              have HC2 := Lib.hid (fun w => HCT.out n L w HL.out hn1)
              generalize mk (R.take n) = A at *
              generalize mk (R.drop n) = B at *
              obtain ⟨hm1, hm2⟩ := hm
              have HJJ := Lib.hid hj
              clear hj
              go_wp2_with fail
              refine (HC1.out _).mono ?_
              rintro e w4 ⟨rfl, hb4⟩
              have hbw4 := hbq.trans (hb4.mono hbq.size)
              clear hb4 hbq
              go_wp2_with fail
              refine (HC2.out _).mono ?_
              rintro e w5 ⟨rfl, hb5⟩
              have hbw5 := hbw4.trans (hb5.mono hbw4.size)
              clear hb5 hbw4
              go_wp2_with fail
              refine (num_any _ _).mono ?_
              rintro e w6 ⟨rfl, rfl⟩
              go_wp2_with fail
              refine (num_any _ _).mono ?_
              rintro e w6 ⟨rfl, rfl⟩
              have hj := HJJ.out
              go_wp2_with fail
              go_roundw
              case rel => exact ⟨n + 1, by omega, by go_num, hbw5⟩
              case measure => simp [RowKit.intOf]; omega
            · have hcase : (decide (n ≤ L) = false) ∨ (n ≤ L ∧ decide ((n : Int) < 30) = false) := by
                by_cases h1 : n ≤ L
                · right; exact ⟨h1, by simp; omega⟩
                · left; simp; omega
              clear hln
              rcases hcase with hd | ⟨hd0, hd⟩
              all_goals
                go_wp2
                go_roundw
                case rel => exact ⟨k + 1, by omega, by omega, by go_num, hbq⟩
                case measure => simp [RowKit.intOf]; omega
      · have hcase : (decide (k < ss.length) = false) ∨ (k < ss.length ∧ decide ((k : Int) < 8) = false) := by
          by_cases h1 : k < ss.length
          · right; exact ⟨h1, by simp; omega⟩
          · left; simp; omega
        clear hlt
        rcases hcase with hd | ⟨hd0, hd⟩
        all_goals
          go_wp2_with fail
          refine (wakes_any _).mono ?_
          rintro e w2 ⟨rfl, hb2⟩
          go_wp2
          go_ret
          exact ⟨rfl, hb0.trans ((hbel.trans (hb2.mono hbel.size)).mono hb0.size)⟩
end Go.Proofs.Ytppaiajligakpaa
