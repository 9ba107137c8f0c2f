/- The law NumberBack: the walk. -/
import Derived.Test.YtanegkjmalbhcaaNumF
import Derived.Test.YtanegkjmalbhcaaLawTexts
namespace Go.Proofs.Ytanegkjmalbhcaa
open Go.RowKit Go.Lib

/-- the bytes of n; of what may not be: none -/
def encOf (n : Int) : List UInt8 := if okB n = true then uvarint n.toNat else []
theorem encOf_yes {n : Int} (h : okB n = true) : encOf n = uvarint n.toNat := by unfold encOf; rw [if_pos h]
theorem encOf_no {n : Int} (h : okB n = false) : encOf n = [] := by unfold encOf; rw [if_neg (by rw [h]; decide)]
theorem encOf_inj {m n : Int} (hn : okB n = true) (h : encOf m = encOf n) : m = n := by
  have hn' := okB_of hn
  rw [encOf_yes hn] at h
  cases hm : okB m with
  | true =>
    have hm' := okB_of hm
    rw [encOf_yes hm] at h
    have h1 := tk_put (n := m.toNat) (by omega) []
    have h2 := tk_put (n := n.toNat) (by omega) []
    rw [h, h2] at h1
    simp at h1
    omega
  | false =>
    rw [encOf_no hm] at h
    have := uvarint_pos n.toNat
    rw [← h] at this
    simp at this
theorem one_str (a : ByteArray) : ∀ u ∈ [Value.string a], u.oneCell' = true := by
  intro u hu
  simp at hu
  subst hu
  rfl
theorem Try.info9 : (Try.prog.info? 9).map (fun i => (i.zero, i.size, i.bytes)) = some (some (.string ⟨#[]⟩), 1, 16) := by kernel_rfl

def encs (zs : List Int) : List Value := zs.map (fun n => S (encOf n))
theorem encs_step (zs : List Int) (k : Nat) (h : k < zs.length) : (encs zs).take (k + 1) = (encs zs).take k ++ [S (encOf zs[k])] := by
  unfold encs; rw [List.take_succ_eq_append_getElem (by simpa using h)]; simp
theorem encs_get (zs : List Int) (k j : Nat) (h : j < zs.length) (hj : j < k) : ((encs zs).take k)[j]? = some (S (encOf zs[j])) := by
  unfold encs; rw [List.getElem?_take_of_lt hj]; simp [h]

/-- 'behind' -/
def bh : ByteArray := ⟨#[98, 101, 104, 105, 110, 100]⟩

theorem take_put (n : Int) (U : List UInt8) (r : ByteArray) (w : World) (hok : okB n = true) (hU : uvarint n.toNat = U) (hr : r.size ≤ 268435456) :
    Calls Try.prog 13 #[.string ((⟨U.toArray⟩ : ByteArray) ++ r)] w fun e w' => e = .returned (.tuple #[.int .i64 n, .string r, .int .i64 0]) ∧ Below w.heap.size w w' := by
  have hn := okB_of hok
  have hu : U.length ≤ 5 := by rw [← hU]; exact uvarint_length 4 _ (by simp; omega)
  have h := Take_any ((⟨U.toArray⟩ : ByteArray) ++ r) w (by rw [joined_size]; unfold maxLen; omega)
  have e : tk 0 0 ((⟨U.toArray⟩ : ByteArray) ++ r).data.toList = some (n.toNat, r.data.toList) := by
    rw [joined_list, ← hU]; exact tk_put (by omega) _
  rw [e] at h
  simp only [takeV, S_self] at h
  rw [show ((n.toNat : Nat) : Int) = n from by omega] at h
  exact h

set_option maxRecDepth 100000 in
set_option maxHeartbeats 2000000 in
theorem back_walk (a0 : Option Addr) (c0 : Nat) (zs : List Int) (a1 : Option Addr) (c1 : Nat) (ss : List ByteArray) (w : World) (hz : IntsAt w a0 zs) (hs : StrsAt w a1 ss) :
    Calls Try.prog 4 #[.agg #[.slice a0 zs.length c0, .slice a1 ss.length c1]] w fun e w' => e = .returned (.bool true) ∧ Below w.heap.size w w' := by
  have hb0 : Below w.heap.size w (w.alloc (.cells #[.slice a0 zs.length c0, .slice a1 ss.length c1] 25)) := (Below.refl _ _).alloc (Nat.le_refl _) _
  have hcN : (w.alloc (.cells #[.slice a0 zs.length c0, .slice a1 ss.length c1] 25)).cell? ⟨w.heap.size, 0, none⟩ = some (.slice a0 zs.length c0) := by simp
  have hcS : (w.alloc (.cells #[.slice a0 zs.length c0, .slice a1 ss.length c1] 25)).cell? ⟨w.heap.size, 1, none⟩ = some (.slice a1 ss.length c1) := by simp
  have hz0 : (w.alloc (.cells #[.slice a0 zs.length c0, .slice a1 ss.length c1] 25)).heap.size = w.heap.size + 1 := by simp
  have HZS := Lib.hid (hz.below hb0)
  have HSS := Lib.hid (hs.below hb0)
  have hzl := hz.len
  clear hz hs
  go_enter Try.func4, Try.ntmps4
  go_wp2_with fail
  generalize w.alloc (.cells #[.slice a0 zs.length c0, .slice a1 ss.length c1] 25) = W0 at *
  have HZ := Lib.hid hz0
  clear hz0
  refine (Heavy_any a0 c0 zs a1 c1 ss _ hzl HSS.out).mono ?_
  rintro e w1 ⟨hv, rfl, hlight, hb1⟩
  cases hv with
  | true =>
    go_wp2
    go_ret
    exact ⟨rfl, hb0.trans (hb1.mono hb0.size)⟩
  | false =>
    obtain ⟨hn200, htot⟩ := hlight rfl
    clear hlight hzl
    go_wp2_with fail
    obtain ⟨i9, hi, hz0, hz1, hz2⟩ := info_parts Try.info9
    go_loopw [3, 4] (fun v i wr => ∃ (k : Nat), k ≤ 8 ∧ k ≤ zs.length ∧ i = .int .i64 k ∧ wr.ownsRow W0.heap.size 9 1 v k ((encs zs).take k) ∧ Below W0.heap.size W0 wr) (fun _ i _ => 8 - (intOf i).toNat)
    case atStart => exact ⟨0, by omega, by omega, rfl, World.ownsRow_nil _ _ _ _, hb1⟩
    case round =>
      clear hb1
      obtain ⟨k, hk8, hkz, rfl, hown, hbel⟩ := hrel
      have hN : wr.cell? ⟨w.heap.size, 0, none⟩ = some (.slice a0 zs.length c0) := (hbel.cell (by have := HZ.out; simp; omega)).trans hcN
      by_cases hlt : k < zs.length ∧ k < 8
      · obtain ⟨h1, h2⟩ := hlt
        obtain ⟨b, off, ha, hbz, hcz⟩ := HZS.out.cell k h1
        have hcr : wr.cell? ⟨b, off + k, none⟩ = some (.int .i64 zs[k]) := (hbel.cell hbz).trans hcz
        have HT := Lib.hid (encs_step zs k h1)
        have HG := Lib.hid (show zs[k]? = some zs[k] from List.getElem?_eq_getElem h1)
        clear hcz
        generalize zs[k] = n at *
        have c2 : k + 1 ≤ maxLen := by unfold maxLen; omega
        have c3 : (k + 1) * 16 ≤ 140737488355328 := by omega
        have h2i : (k : Int) < 8 := by omega
        subst ha
        cases hok : okB n with
        | false =>
          have HOK := Lib.hid hok
          clear hok
          go_wp2_with fail
          refine (Put_bad n _ HOK.out).mono ?_
          rintro e w2 ⟨rfl, rfl⟩
          go_wp2_with (first | (at_builtin; refine wpList_append_own _ rfl _ _ 23 rfl W0.heap.size 9 i9 (.string ⟨#[]⟩) 1 16 Try.underlying23 hi hz0 hz1 hz2 rfl (by decide) _ _ _ rfl (hown.alloc _) ⟨wr.heap.size, 0, none⟩ 1 1 [.string ⟨#[]⟩] rfl rfl (cell_one_new _ _ _) (one_str _) c2 c3 (alloc_le hbel (Nat.le_refl _) _) ?_) | fail)
          intro v2 w3 hown3 hgrow3 _
          have hb3 : Below W0.heap.size W0 w3 := (hbel.alloc hbel.size _).grown hgrow3 (alloc_le hbel (Nat.le_refl _) _) (own_ge hown)
          go_wp2_with (go_at_call 12; refine (num_any _ _).mono ?_; rintro e w4 ⟨rfl, rfl⟩)
          go_roundw
          case rel => exact ⟨k + 1, by omega, by omega, by go_num, by rw [HT.out, encOf_no HOK.out]; exact hown3, hb3⟩
          case measure => simp [intOf]; omega
        | true =>
          have hp := Put_ok n
          have hsz := fun w => Size_ok n w hok
          have hu5 : (uvarint n.toNat).length ≤ 5 := uvarint_length 4 _ (by have := okB_of hok; simp; omega)
          obtain ⟨U, hU⟩ : ∃ U, uvarint n.toNat = U := ⟨_, rfl⟩
          rw [hU] at hp hsz hu5
          have HU := Lib.hid hU
          have HE := Lib.hid ((encOf_yes hok).trans hU)
          have HP := Lib.hid hp
          have HSZ := Lib.hid hsz
          have HOK := Lib.hid hok
          clear hp hsz hok hU
          go_wp2_with fail
          refine (HP.out _ HOK.out).mono ?_
          rintro e w2 ⟨rfl, hb2⟩
          have hbw2 : Below W0.heap.size W0 w2 := hbel.trans (hb2.mono hbel.size)
          have hown2 := owns_below hown hb2
          go_wp2_with (first | (at_builtin; refine wpList_append_own _ rfl _ _ 23 rfl W0.heap.size 9 i9 (.string ⟨#[]⟩) 1 16 Try.underlying23 hi hz0 hz1 hz2 rfl (by decide) _ _ _ rfl (hown2.alloc _) ⟨w2.heap.size, 0, none⟩ 1 1 [.string ⟨U.toArray⟩] rfl rfl (cell_one_new _ _ _) (one_str _) c2 c3 (alloc_le hbw2 (Nat.le_refl _) _) ?_) | fail)
          intro v2 w3 hown3 hgrow3 _
          have hb3 : Below W0.heap.size W0 w3 := (hbw2.alloc hbw2.size _).grown hgrow3 (alloc_le hbw2 (Nat.le_refl _) _) (own_ge hown2)
          obtain ⟨g, cap, hv, _, hg3⟩ := hown3.form (by omega)
          subst hv
          have hcr3 : w3.cell? ⟨b, off + k, none⟩ = some (.int .i64 n) := (hb3.cell (p := ⟨b, off + k, none⟩) hbz).trans (((hbel.cell (p := ⟨b, off + k, none⟩) hbz).symm).trans hcr)
          have hN3 : w3.cell? ⟨w.heap.size, 0, none⟩ = some (.slice (some ⟨b, off, none⟩) zs.length c0) := (hb3.cell (by have := HZ.out; simp; omega)).trans hcN
          clear hown hgrow3 hbel hb2 hbw2 hown2 hcr hN
          go_wp2_with (go_at_call 12; refine (num_any _ _).mono ?_; rintro e w4 ⟨rfl, rfl⟩)
          refine (take_put n U ⟨#[98, 101, 104, 105, 110, 100]⟩ w3 HOK.out HU.out (by decide)).mono ?_
          rintro e w4 ⟨rfl, hb4⟩
          have hbw4 : Below W0.heap.size W0 w4 := hb3.trans (hb4.mono hb3.size)
          have hcr4 : w4.cell? ⟨b, off + k, none⟩ = some (.int .i64 n) := (hb4.cell (p := ⟨b, off + k, none⟩) (Nat.lt_of_lt_of_le hbz hb3.size)).trans hcr3
          have hN4 : w4.cell? ⟨w.heap.size, 0, none⟩ = some (.slice (some ⟨b, off, none⟩) zs.length c0) := (hbw4.cell (by have := HZ.out; simp; omega)).trans hcN
          have hown4 := owns_below hown3 hb4
          have hg4 : g < w4.heap.size := Nat.lt_of_lt_of_le hg3 hb4.size
          clear hcr3 hN3 hown3 hb3 hb4 hg3
          go_wp2_with (first | (go_at_call 12; refine (num_any _ _).mono ?_; rintro e w5 ⟨rfl, rfl⟩) | (go_at_call 9; refine (HSZ.out _).mono ?_; rintro e w5 ⟨rfl, rfl⟩))
          go_loopw [12] (fun i wq => ∃ (j : Nat), j ≤ k ∧ i = .int .i64 j ∧ ∃ nq, wq = w4.drewN nq) (fun i _ => k - (intOf i).toNat)
          case atStart => exact ⟨0, by omega, rfl, 0, rfl⟩
          case round =>
            obtain ⟨j, hjk, rfl, mq, rfl⟩ := hrel
            by_cases hjl : j < k
            · have hjz : j < zs.length := by omega
              have hca : w4.cell? ⟨g, j, none⟩ = some (S (encOf zs[j])) := by
                have h9 := hown4.cellAt j (by omega)
                rw [h9, List.getElem?_append_left (by unfold encs; simp; omega)]
                exact encs_get zs k j hjz hjl
              obtain ⟨b', off', ha', hbz', hcz'⟩ := HZS.out.cell j hjz
              simp only [Option.some.injEq, Addr.mk.injEq, and_true] at ha'
              obtain ⟨rfl, rfl⟩ := ha'
              have hcj : w4.cell? ⟨b, off + j, none⟩ = some (.int .i64 zs[j]) := (hbw4.cell (p := ⟨b, off + j, none⟩) hbz').trans hcz'
              clear hcz' hbz'
              have hji : (j : Int) < (k : Int) + 1 := by omega
              have hjzi : (j : Int) < (zs.length : Int) := by omega
              generalize zs[j] = m at *
              by_cases hmn : encOf m = U
              · have hq : (encOf m == U) = true := by simp [hmn]
                have hmn' : m = n := encOf_inj HOK.out (hmn.trans HE.out.symm)
                have hq2 : (m == n) = true := by simp [hmn']
                have hq3 : (m != n) = false := by simp [hmn']
                clear hmn hmn'
                go_wp2
                go_quiet (fail)
                go_wp2
                go_roundw
                case rel => exact ⟨j + 1, by omega, by go_num, mq + nq, rfl⟩
                case measure => simp [intOf]; omega
              · have hq : (encOf m == U) = false := by simp [hmn]
                clear hmn
                go_wp2
                go_quiet (fail)
                go_wp2
                go_roundw
                case rel => exact ⟨j + 1, by omega, by go_num, mq + nq, rfl⟩
                case measure => simp [intOf]; omega
            · go_wp2
              go_roundw
              case rel => exact ⟨k + 1, by omega, by omega, by go_num, by rw [HT.out, HE.out]; exact hown4.drew, below_drewN hbw4 _⟩
              case measure => simp [intOf]; omega
      · have hS : wr.cell? ⟨w.heap.size, 1, none⟩ = some (.slice a1 ss.length c1) := (hbel.cell (by have := HZ.out; simp; omega)).trans hcS
        have hcase : (decide (k < zs.length) = false) ∨ (k < zs.length ∧ decide ((k : Int) < 8) = false) := by
          by_cases h1 : k < zs.length
          · right; exact ⟨h1, by simp; omega⟩
          · left; simp; omega
        clear hown
        rcases hcase with hd | ⟨hd0, hd⟩
        all_goals
          go_wp2_with fail
          go_loopw [13] (fun i wq => ∃ (q : Nat), q ≤ 8 ∧ q ≤ ss.length ∧ i = .int .i64 q ∧ Below W0.heap.size W0 wq) (fun i _ => 8 - (intOf i).toNat)
          case atStart => exact ⟨0, by omega, by omega, rfl, hbel⟩
          case round =>
            clear hbel hS
            obtain ⟨q, hq8, hqs, rfl, hbq⟩ := hrel
            have hS : wr.cell? ⟨w.heap.size, 1, none⟩ = some (.slice a1 ss.length c1) := (hbq.cell (by have := HZ.out; simp; omega)).trans hcS
            by_cases hqlt : q < ss.length ∧ q < 8
            · obtain ⟨h1, h2⟩ := hqlt
              obtain ⟨b, off, ha, hbz, hcz⟩ := HSS.out.cell q h1
              have hcr : wr.cell? ⟨b, off + q, none⟩ = some (.string ss[q]) := (hbq.cell hbz).trans hcz
              have hsz : ss[q].size ≤ 3000 := Nat.le_trans (total_mem (List.getElem_mem h1)) htot
              clear hcz
              generalize ss[q] = s at *
              subst ha
              have h2i : (q : Int) < 8 := by omega
              go_wp2_with fail
              refine (Text_any s _ (by omega)).mono ?_
              rintro e w2 ⟨rfl, hb2⟩
              have hbw2 : Below W0.heap.size W0 w2 := hbq.trans (hb2.mono hbq.size)
              have hcr2 : w2.cell? ⟨b, off + q, none⟩ = some (.string s) := (hb2.cell (p := ⟨b, off + q, none⟩) (Nat.lt_of_lt_of_le hbz hbq.size)).trans hcr
              obtain ⟨T, hT⟩ : ∃ T, uvarint s.size ++ s.data.toList = T := ⟨_, rfl⟩
              have hTl : T.length ≤ 3005 := by
                have hu : (uvarint s.size).length ≤ 5 := uvarint_length 4 s.size (by simp; omega)
                rw [← hT, List.length_append, len_size]; omega
              have HT := Lib.hid hT
              rw [hT]
              clear hT hb2 hcr
              go_wp2_with fail
              refine (text_yes s T ⟨#[98, 101, 104, 105, 110, 100]⟩ w2 (by omega) HT.out (by decide)).mono ?_
              rintro e w3 ⟨rfl, hb3⟩
              have hcr3 : w3.cell? ⟨b, off + q, none⟩ = some (.string s) := (hb3.cell (p := ⟨b, off + q, none⟩) (Nat.lt_of_lt_of_le hbz hbw2.size)).trans hcr2
              have hbw3 : Below W0.heap.size W0 w3 := hbw2.trans (hb3.mono hbw2.size)
              have hS3 : w3.cell? ⟨w.heap.size, 1, none⟩ = some (.slice (some ⟨b, off, none⟩) ss.length c1) := (hbw3.cell (by have := HZ.out; simp; omega)).trans hcS
              clear hcr2 hS
              go_wp2_with (go_at_call 12; refine (num_any _ _).mono ?_; rintro e w4 ⟨rfl, rfl⟩)
              go_roundw
              case rel => exact ⟨q + 1, by omega, by omega, by go_num, hbw3⟩
              case measure => simp [intOf]; omega
            · have hcase : (decide (q < ss.length) = false) ∨ (q < ss.length ∧ decide ((q : Int) < 8) = false) := by
                by_cases h1 : q < ss.length
                · right; exact ⟨h1, by simp; omega⟩
                · left; simp; omega
              clear hqlt
              rcases hcase with hd' | ⟨hd0', hd'⟩
              all_goals
                go_wp2_with fail
                refine (wakes_any _).mono ?_
                rintro e w2 ⟨rfl, hb2⟩
                go_wp2
                go_ret
                exact ⟨rfl, hb0.trans ((hbq.trans (hb2.mono hbq.size)).mono hb0.size)⟩
end Go.Proofs.Ytanegkjmalbhcaa
