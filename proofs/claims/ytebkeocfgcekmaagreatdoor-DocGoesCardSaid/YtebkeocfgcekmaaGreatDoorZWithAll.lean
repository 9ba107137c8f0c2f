/- lectionarylaw6.with: the walk that four laws share, for all kinds -/
import Derived.Test.YtebkeocfgcekmaaGreatDoorZWith
import Derived.Deep.DeepCutAuto
import Derived.Deep.CutBlock
import Derived.Deep.RegionLaw
import Derived.Deep.RegionHeld3
import Derived.BigRegion
import Derived.StillTailTactics
import Derived.IntWalk
namespace Go.Proofs.YtebkeocfgcekmaaGreatDoor
open Go.RowKit Go.Lib Go.Sort

theorem nat_wrap (n : Nat) (h : n ≤ 1000000) : IntKind.i64.wrap (n : Int) = (n : Int) := IntWalk.i64_in _ (by omega)
theorem nat_wrap64 (n : Nat) (h : n ≤ 1000000) : wrap64 (n : Int) = (n : Int) := IntWalk.wrap64_in _ ⟨by omega, by omega⟩
theorem sw_k1b {wr w : World} {bx : Nat} {s q : Int} {t t2 : TypeId} (h : w.heap[bx]? = some (.cells #[.int .i64 s, .int .i64 q, .int .i64 0, .int .i64 0, .int .i64 0, .int .i64 0, .string ⟨#[]⟩, .slice none 0 0, .int .i64 0, .int .i64 0, .int .i64 0] t (0, 0))) (hb : Below wr.heap.size wr w) (hg : wr.heap.size ≤ bx) (x y z : Int) (c : Nat) :
    SwPost bx wr (((w.setCell ⟨bx, 2, none⟩ (.int .i64 1)).setCell ⟨bx, 7, none⟩ (.slice (some ⟨w.heap.size, 0, none⟩) 1 c)).alloc (.cells #[.int .i64 x, .int .i64 y, .int .i64 z] t2)).drew := by
  have hbl := (Array.getElem?_eq_some_iff.1 h).1
  have h2 := blk_set7 (blk_set2 h (.int .i64 1)) (.slice (some ⟨w.heap.size, 0, none⟩) 1 c)
  have hz : ((w.setCell ⟨bx, 2, none⟩ (.int .i64 1)).setCell ⟨bx, 7, none⟩ (.slice (some ⟨w.heap.size, 0, none⟩) 1 c)).heap.size = w.heap.size := by simp
  have hbs : Below wr.heap.size wr ((w.setCell ⟨bx, 2, none⟩ (.int .i64 1)).setCell ⟨bx, 7, none⟩ (.slice (some ⟨w.heap.size, 0, none⟩) 1 c)) := (hb.setCell hg _).setCell hg _
  generalize ((w.setCell ⟨bx, 2, none⟩ (.int .i64 1)).setCell ⟨bx, 7, none⟩ (.slice (some ⟨w.heap.size, 0, none⟩) 1 c)) = w2 at *
  have h3 : (w2.alloc (.cells #[.int .i64 x, .int .i64 y, .int .i64 z] t2)).heap[bx]? = _ := (heap_alloc_old w2 _ (by rw [hz]; exact hbl)).trans h2
  have hn : (w2.alloc (.cells #[.int .i64 x, .int .i64 y, .int .i64 z] t2)).heap[w.heap.size]? = some (.cells #[.int .i64 x, .int .i64 y, .int .i64 z] t2) := by
    have := heap_alloc_new w2 (.cells #[.int .i64 x, .int .i64 y, .int .i64 z] t2)
    rw [hz] at this
    exact this
  have hn2 : (w2.alloc (.cells #[.int .i64 x, .int .i64 y, .int .i64 z] t2)).drew.heap[w.heap.size]? = some (.cells #[.int .i64 x, .int .i64 y, .int .i64 z] t2) := hn
  have h4 : (w2.alloc (.cells #[.int .i64 x, .int .i64 y, .int .i64 z] t2)).drew.heap[bx]? = _ := h3
  refine ⟨⟨s, q, 1, ⟨0, 0, 0⟩, ⟨#[]⟩, [⟨x, y, z⟩], 0, 0, 0⟩, some ⟨w.heap.size, 0, none⟩, c, box_of h4 rfl, ⟨fun j hj => ?_⟩, Nat.le_refl 1, Nat.zero_le _, (hbs.alloc (by have := hbs.size; omega) _).drew⟩
  have h0 : j = 0 := by simpa using hj
  subst h0
  exact ⟨w.heap.size, 0, rfl, (Array.getElem?_eq_some_iff.1 hn2).1, by unfold World.cell?; simp only [hn2]; rfl, by unfold World.cell?; simp only [hn2]; rfl, by unfold World.cell?; simp only [hn2]; rfl⟩
theorem sw_k2 {wr w : World} {bx : Nat} {s q : Int} {t : TypeId} (h : w.heap[bx]? = some (.cells #[.int .i64 s, .int .i64 q, .int .i64 0, .int .i64 0, .int .i64 0, .int .i64 0, .string ⟨#[]⟩, .slice none 0 0, .int .i64 0, .int .i64 0, .int .i64 0] t (0, 0))) (hb : Below wr.heap.size wr w) (hg : wr.heap.size ≤ bx) (x y z : Int) :
    SwPost bx wr ((((w.setCell ⟨bx, 2, none⟩ (.int .i64 2)).setCell ⟨bx, 8, none⟩ (.int .i64 x)).setCell ⟨bx, 9, none⟩ (.int .i64 y)).setCell ⟨bx, 10, none⟩ (.int .i64 z)).drew ∧
    ∀ z2 : Int, SwPost bx wr (((((w.setCell ⟨bx, 2, none⟩ (.int .i64 2)).setCell ⟨bx, 8, none⟩ (.int .i64 x)).setCell ⟨bx, 9, none⟩ (.int .i64 y)).setCell ⟨bx, 10, none⟩ (.int .i64 z)).setCell ⟨bx, 10, none⟩ (.int .i64 z2)).drew := by
  have h1 := blk_seta (blk_set9 (blk_set8 (blk_set2 h (.int .i64 2)) (.int .i64 x)) (.int .i64 y)) (.int .i64 z)
  have hbs : Below wr.heap.size wr ((((w.setCell ⟨bx, 2, none⟩ (.int .i64 2)).setCell ⟨bx, 8, none⟩ (.int .i64 x)).setCell ⟨bx, 9, none⟩ (.int .i64 y)).setCell ⟨bx, 10, none⟩ (.int .i64 z)) := (((hb.setCell hg _).setCell hg _).setCell hg _).setCell hg _
  generalize ((((w.setCell ⟨bx, 2, none⟩ (.int .i64 2)).setCell ⟨bx, 8, none⟩ (.int .i64 x)).setCell ⟨bx, 9, none⟩ (.int .i64 y)).setCell ⟨bx, 10, none⟩ (.int .i64 z)) = w1 at *
  constructor
  · have h2 : w1.drew.heap[bx]? = _ := h1
    exact ⟨⟨s, q, 2, ⟨0, 0, 0⟩, ⟨#[]⟩, [], x, y, z⟩, none, 0, box_of h2 rfl, ElemsAt.nil none, Nat.zero_le _, Nat.zero_le _, hbs.drew⟩
  · intro z2
    have h2 : (w1.setCell ⟨bx, 10, none⟩ (.int .i64 z2)).drew.heap[bx]? = _ := blk_seta h1 (.int .i64 z2)
    exact ⟨⟨s, q, 2, ⟨0, 0, 0⟩, ⟨#[]⟩, [], x, y, z2⟩, none, 0, box_of h2 rfl, ElemsAt.nil none, Nat.zero_le _, Nat.zero_le _, (hbs.setCell hg _).drew⟩

set_option maxRecDepth 100000 in
set_option maxHeartbeats 24000000 in
theorem withAll_any (p : AskD) (kind : Nat) (hkind : kind ≤ 3) (W : World) (h : AskAt W p) (hT : Tabs W) : Calls Tryz.prog 33 #[p.v, .int .i64 kind] W (BoB true W) := by
  have HHV := Lib.hid (fun wx (hx : Below W.heap.size W wx) => Heavy_light p wx (h.below hx))
  have HX := Lib.hid (BoxA.new W p)
  have hb0 : Below W.heap.size W (W.alloc p.obj) := (Below.refl _ _).alloc (Nat.le_refl _) _
  have HB0 := Lib.hid hb0
  have HRW := Lib.hid h.l
  have HTB := Lib.hid (fun wx (hx : Below W.heap.size W wx) => hT.next hx)
  have hl3 := h.l.len
  obtain ⟨i0, hi0, hz0, hz1, hz2⟩ := info_parts Tryz.infoElem
  have HWK := Lib.hid wakes6_any
  clear h hb0 hT
  unfold AskD.v at HHV ⊢
  generalize hLP : Light p = LP at HHV
  have HLP := Lib.hid (show LP → Light p from fun h => by rw [hLP]; exact h)
  clear hLP
  unfold Light at HLP
  obtain ⟨lr, le, lo, ln, ar, ae, ao, an, cr, ce, co, cn⟩ := p
  unfold AskD.obj at HX HB0
  simp only at HHV HX HB0 HRW hl3 HLP ⊢
  have hbi := big_is
  obtain ⟨n0, hn0⟩ : ∃ n, lr.length = n := ⟨_, rfl⟩
  have HL0 := Lib.hid hn0
  have h0a : (n0 : Int) ≤ 140737488351232 := by omega
  rw [hn0] at HHV HX HB0 ⊢
  clear hl3 hbi hn0
  generalize hn2 : le.length = n2 at *
  generalize hn1 : lo.length = n1 at *
  generalize hn3 : ln.length = n3 at *
  have HL2 := Lib.hid hn2
  have HL1 := Lib.hid hn1
  have HL3 := Lib.hid hn3
  clear hn1 hn2 hn3
  go_enter Tryz.func33, Tryz.ntmps33
  go_wp2_with (first | (go_at_call 7; refine (HHV.out _ HB0.out).mono ?_; rintro x1 w1 ⟨b1, rfl, hlp, hb1⟩; have HPP := Lib.hid hlp; have HB1 := Lib.hid (HB0.out.trans (hb1.mono HB0.out.size)); have HA1 := Lib.hid (HX.out.next hb1 HX.out.lt); clear hb1 hlp; cases b1) | fail)
  rotate_left
  · go_wp2_with fail
    go_ret
    exact ⟨rfl, HB1.out⟩
  have HLT := Lib.hid (HLP.out (HPP.out (by simp)))
  clear HLP HPP
  go_wp2_with fail
  clear HHV
  have HXX := Lib.hid (fun (wx : World) (hx : Below w1.heap.size w1 wx) => And.intro ((hx.cell (p := ⟨W.heap.size, 0, none⟩) HA1.out.lt).trans HA1.out.c0) (And.intro ((hx.cell (p := ⟨W.heap.size, 1, none⟩) HA1.out.lt).trans HA1.out.c1) (And.intro ((hx.cell (p := ⟨W.heap.size, 2, none⟩) HA1.out.lt).trans HA1.out.c2) (And.intro ((hx.cell (p := ⟨W.heap.size, 3, none⟩) HA1.out.lt).trans HA1.out.c3) (And.intro (Nat.lt_of_lt_of_le HA1.out.lt hx.size) (HB1.out.trans (hx.mono HB1.out.size)))))))
  simp only [HL0.out, HL1.out, HL2.out, HL3.out] at HXX
  go_loopw [5] (fun s5 wr => ∃ i : Nat, s5 = .int .i64 i ∧ i ≤ n0 ∧ Below w1.heap.size w1 wr) (fun s5 _ => n0 - (RowKit.intOf s5).toNat)
  case atStart => exact ⟨0, rfl, Nat.zero_le _, Below.refl _ _⟩
  case round =>
    obtain ⟨i, rfl, hi, hb⟩ := hrel
    obtain ⟨q0, q1, q2, q3, hq0, hbW⟩ := HXX.out _ hb
    have HB := Lib.hid hb
    have HBW := Lib.hid hbW
    by_cases hlt : i < n0
    · by_cases h4 : (i : Int) < 4
      · have hil : i < lr.length := by rw [HL0.out]; exact hlt
        obtain ⟨b, off, rfl, hbb, cW⟩ := HRW.out.cell i hil
        have hro := HRW.out.row i hil
        have hlr := light_row (HLT.out.2.2.2 i hil)
        generalize lr[i] = r at *
        clear hil
        obtain ⟨rl, ra, rc⟩ := r
        simp only at cW hro hlr
        have HRO := Lib.hid hro.1
        have hcap := hro.2
        have HRR := Lib.hid (fun (wx : World) (hx : Below W.heap.size W wx) => rRow_any ra rc rl wx (HTB.out _ hx) (fun r hr => by have := (hlr.2 r hr).1; omega) (hro.1.below hx) hro.2)
        have HCO := Lib.hid (fun (wx : World) (hx : Below W.heap.size W wx) => CopyOps_any ra rc rl wx (hro.1.below hx) (fun r hr => by have := (hlr.2 r hr).2; omega) (by omega))
        obtain ⟨nr, hnr⟩ : ∃ n, rl.length = n := ⟨_, rfl⟩
        have HNR := Lib.hid hnr
        rw [hnr] at cW hcap HRR HCO
        have HCW := Lib.hid (fun (wx : World) (hx : Below W.heap.size W wx) => And.intro ((hx.cell (p := ⟨b, off + i, none⟩) hbb).trans cW) (Nat.lt_of_lt_of_le hbb hx.size))
        obtain ⟨cr0, hbr⟩ := HCW.out _ hbW
        have hlr9 := hlr.1
        rw [hnr] at hlr9
        clear hnr hro hb hbW cW hlr HRW
        unfold CopysPost at HCO
        by_cases hrow : rowP (OpR.os rl)
        · rw [show rowB (OpR.os rl) = true from (rowB_iff _).2 hrow] at HRR
          have HROW := Lib.hid hrow
          clear hrow
          go_wp2_with (first
            | (go_at_call 9; refine (HRR.out wr HBW.out).mono ?_; rintro x2 w2 ⟨rfl, hb2⟩; have HB2 := Lib.hid (HB.out.trans (hb2.mono HB.out.size)); obtain ⟨p0, p1, p2, p3, hp0, hpW⟩ := HXX.out _ HB2.out; obtain ⟨cr1, hbr1⟩ := HCW.out _ hpW; clear hb2)
            | (go_at_call 8; refine (HCO.out w2 hpW).mono ?_; rintro x3 w3 ⟨v3, L3, rfl, hown3, hos3, hb3⟩; have hl3 : L3.length = nr := (by have h := congrArg List.length hos3; rw [os_len, os_len, HNR.out] at h; exact h); obtain ⟨a3, c3, rfl, hat3, hc3⟩ := hown3.ops (by unfold BIG; omega); have HWR := Lib.hid (show WRow w3 a3 c3 L3 from ⟨hat3, hc3, by rw [hos3]; exact HROW.out⟩); have HB3 := Lib.hid (HB2.out.trans (hb3.mono HB2.out.size)); clear hown3 hat3 hos3 hb3 hl3 hc3)
            | fail)
          clear HRR HCO hcap cr0 hbr cr1 hbr1 q0 q1 q2 q3 hq0 p0 p1 p2 p3 hp0 hpW
          go_loopw [6, 7] (fun s6 s7 wr => ∃ (n : Nat) (al : Option Addr) (cl : Nat) (Ll : List OpR), s7 = .int .i64 n ∧ n ≤ 8 ∧ s6 = .slice al Ll.length cl ∧ WRow wr al cl Ll ∧ Below w1.heap.size w1 wr) (fun _ s7 _ => 8 - (RowKit.intOf s7).toNat)
          case atStart => exact ⟨0, a3, c3, L3, rfl, by omega, rfl, HWR.out, HB3.out⟩
          case round =>
            clear HWR HB3
            obtain ⟨n, al, cl, Ll, rfl, hn, rfl, hwr, hb⟩ := hrel
            have HBN := Lib.hid hb
            by_cases hn8 : n < 8
            · have hn8i : (n : Int) < 8 := by omega
              have HWR := Lib.hid hwr
              have hrw := hwr.2.2
              have hsz := szs_row hrw
              have hl40 : Ll.length ≤ 40 := by have := hrw.1; rw [os_len] at this; exact this
              have htab := HTB.out _ (HB1.out.trans (hb.mono HB1.out.size))
              have HTBN := Lib.hid (fun (wx : World) (hx : Below wr.heap.size wr wx) => htab.next hx)
              have HMN := Lib.hid (fun (s : Int) => rMany_any al cl Ll s wr hwr.1)
              have HMC : RowKit.Hid (∀ s, cnt (OpR.os Ll) s ≤ 40) := Lib.hid (fun s => Nat.le_trans (cnt_le _ _) (by rw [os_len]; exact hl40))
              have HVS := Lib.hid (fun wx (hx : Below wr.heap.size wr wx) => rVis_any al cl Ll wx (htab.next hx) hsz.1 (hwr.1.below hx) hrw)
              have hv200 := visE_le hrw.2
              obtain ⟨nl, hnl⟩ : ∃ q, Ll.length = q := ⟨_, rfl⟩
              have HNL := Lib.hid hnl
              rw [hnl] at HMN HVS hl40 ⊢
              obtain ⟨XV, hXV⟩ : ∃ X, visE (OpR.os Ll) = X := ⟨_, rfl⟩
              rw [hXV] at HVS hv200
              obtain ⟨nv, hnv⟩ : ∃ q, XV.length = q := ⟨_, rfl⟩
              have HNV := Lib.hid hnv
              have HXV := Lib.hid hXV
              rw [hnv] at hv200
              have hsite : ((((n : Int) + (i : Int))).tmod 3) = (((n + i) % 3 : Nat) : Int) := by
                rw [show ((n : Int) + (i : Int)) = ((n + i : Nat) : Int) from by omega, Int.tmod_eq_emod_of_nonneg (by omega)]
                rfl
              have hs3 : (n + i) % 3 < 3 := Nat.mod_lt _ (by decide)
              generalize hst : (n + i) % 3 = st at *
              clear hst hwr hrw hsz htab hnl hXV hnv
              go_upto_block 4 with (first
                | (go_at_call 26; refine (HMN.out _).mono ?_; rintro x4 w4 ⟨rfl, hb4⟩; have HB4 := Lib.hid hb4; clear hb4)
                | (go_at_call 12; have hba := (HB4.out.alloc HB4.out.size (.cells #[.int .i64 (1 + (st : Int)), .int .i64 (wrap64 ((cnt (OpR.os Ll) (1 + (st : Int)) : Int) + 1)), .int .i64 0, .int .i64 0, .int .i64 0, .int .i64 0, .string ⟨#[]⟩, .slice none 0 0, .int .i64 0, .int .i64 0, .int .i64 0] 54)); have hbx := BoxO.new w4 ⟨1 + (st : Int), wrap64 ((cnt (OpR.os Ll) (1 + (st : Int)) : Int) + 1), 0, ⟨0, 0, 0⟩, ⟨#[]⟩, [], 0, 0, 0⟩ none 0; refine (HVS.out _ hba).mono ?_; rintro x5 w5 ⟨v5, rfl, hown5, hb5⟩; obtain ⟨a5, c5, hv5, he5, _⟩ := elems_own hown5; rw [HNV.out] at hv5; subst hv5; have hblk := (hb5.block w4.heap.size (by simp)).trans (heap_alloc_new w4 _); have HBLK := Lib.hid hblk; have HG5 := Lib.hid (show ∀ ad, a5 = some ad → w4.heap.size < ad.block ∧ ad.block < w5.heap.size from fun ad ha => by subst ha; have h9 := hown5.lt ad.block rfl; simp at h9; omega); have HE5 := Lib.hid he5; have HB5 := Lib.hid (hba.trans (hb5.mono hba.size)); have HBX5 := Lib.hid (hbx.step hb5); clear hb5 hown5 he5 hba hbx hblk)
                | fail)
              have HSB := Lib.hid (fun (wx : World) (hx : Below wr.heap.size wr wx) => HBN.out.trans (hx.mono HBN.out.size))
              obtain ⟨bx, hbx0⟩ : ∃ q, w4.heap.size = q := ⟨_, rfl⟩
              have HBG := Lib.hid (show wr.heap.size ≤ bx from by rw [← hbx0]; exact HB4.out.size)
              rw [hbx0] at HBX5 HBLK HG5 ⊢
              clear hbx0 HVS
              go_cut [] (fun wx => SwPost bx wr wx)
              case first =>
                have hblk := HBLK.out
                have k2 : w5.cell? ⟨bx, 2, none⟩ = some (.int .i64 0) := by simp [World.cell?, hblk]
                have k3 : w5.cell? ⟨bx, 3, none⟩ = some (.int .i64 0) := by simp [World.cell?, hblk]
                have k4 : w5.cell? ⟨bx, 4, none⟩ = some (.int .i64 0) := by simp [World.cell?, hblk]
                have k5 : w5.cell? ⟨bx, 5, none⟩ = some (.int .i64 0) := by simp [World.cell?, hblk]
                have k6 : w5.cell? ⟨bx, 6, none⟩ = some (.string ⟨#[]⟩) := by simp [World.cell?, hblk]
                have k7 : w5.cell? ⟨bx, 7, none⟩ = some (.slice none 0 0) := by simp [World.cell?, hblk]
                have k8 : w5.cell? ⟨bx, 8, none⟩ = some (.int .i64 0) := by simp [World.cell?, hblk]
                have k9 : w5.cell? ⟨bx, 9, none⟩ = some (.int .i64 0) := by simp [World.cell?, hblk]
                have ka : w5.cell? ⟨bx, 10, none⟩ = some (.int .i64 0) := by simp [World.cell?, hblk]
                have kf : ∀ c, w5.frozen? ⟨bx, c, none⟩ = false := fun c => by simp [World.frozen?, hblk]
                have kf2 := kf 2
                have kf3 := kf 3
                have kf4 := kf 4
                have kf5 := kf 5
                have kf6 := kf 6
                have kf7 := kf 7
                have kf8 := kf 8
                have kf9 := kf 9
                have kfa := kf 10
                have kl := HBX5.out.lt
                clear hblk kf
                have hks : kind = 0 ∨ kind = 1 ∨ kind = 2 ∨ kind = 3 := by omega
                rcases hks with rfl | rfl | rfl | rfl
                · -- @K0
                  have HFIN := Lib.hid (sw_k0 HBLK.out HB5.out HBG.out)
                  have hm2 : ((n : Int)).tmod 2 = ((n % 2 : Nat) : Int) := by
                    rw [Int.tmod_eq_emod_of_nonneg (by omega)]
                    rfl
                  have hn2 : n % 2 < 2 := Nat.mod_lt _ (by decide)
                  generalize hn22 : n % 2 = r2 at *
                  clear hn22
                  rcases Nat.eq_zero_or_pos nv with rfl | hpos
                  · go_wp2_with fail
                    go_meet
                    exact HFIN.out.1
                  · have hposi : (0 : Int) < (nv : Int) := by omega
                    have hmv : ((n : Int)).tmod (nv : Int) = ((n % nv : Nat) : Int) := by
                      rw [Int.tmod_eq_emod_of_nonneg (by omega)]
                      rfl
                    have hlv : n % nv < nv := Nat.mod_lt _ hpos
                    obtain ⟨b6, off6, rfl, hb6, x0, x1, x2⟩ := HE5.out.cell (n % nv) (by rw [HNV.out]; exact hlv)
                    have hbne := (HG5.out _ rfl).1
                    simp only at hbne
                    have hbne2 : ¬ b6 = bx := by omega
                    have hwz : wrap64 ((n % nv : Nat) : Int) = ((n % nv : Nat) : Int) := IntWalk.wrap64_in _ ⟨by omega, by omega⟩
                    generalize XV[n % nv]'(by rw [HNV.out]; exact hlv) = x at *
                    generalize n % nv = jv at *
                    obtain ⟨xs, xq, xi⟩ := x
                    simp only at x0 x1 x2
                    have hr2 : r2 = 0 ∨ r2 = 1 := by omega
                    rcases hr2 with rfl | rfl
                    · go_upto_region 24 with fail
                      have hbk := blk_set6 (blk_set2 HBLK.out (.int .i64 1)) (.string ⟨#[120, 121]⟩)
                      have y0 := cell_far (b := bx) (c := 6) (u := .string ⟨#[120, 121]⟩) (cell_far (b := bx) (c := 2) (u := .int .i64 1) x0 hbne2) hbne2
                      have y1 := cell_far (b := bx) (c := 6) (u := .string ⟨#[120, 121]⟩) (cell_far (b := bx) (c := 2) (u := .int .i64 1) x1 hbne2) hbne2
                      have y2 := cell_far (b := bx) (c := 6) (u := .string ⟨#[120, 121]⟩) (cell_far (b := bx) (c := 2) (u := .int .i64 1) x2 hbne2) hbne2
                      have HFX := Lib.hid (HFIN.out.2 xs xq xi)
                      have hzl : b6 < ((w5.setCell ⟨bx, 2, none⟩ (.int .i64 1)).setCell ⟨bx, 6, none⟩ (.string ⟨#[120, 121]⟩)).heap.size := by simpa using hb6
                      clear k2 k3 k4 k5 k6 k7 k8 k9 ka kf2 kf3 kf4 kf5 kf6 kf7 kf8 kf9 kfa kl x0 x1 x2 HFIN
                      generalize (w5.setCell ⟨bx, 2, none⟩ (.int .i64 1)).setCell ⟨bx, 6, none⟩ (.string ⟨#[120, 121]⟩) = wk at *
                      obtain ⟨_, k3, k4, k5, _, _, _, _, _, kf, kl⟩ := blk_cells hbk
                      have kf3 := kf 3
                      have kf4 := kf 4
                      have kf5 := kf 5
                      clear kf hbk
                      go_wp2_with fail
                      go_meet
                      exact HFX.out
                    · go_wp2_with fail
                      go_meet
                      exact HFIN.out.1
                · -- @K1
                  rcases Nat.eq_zero_or_pos nv with rfl | hpos
                  · have HBZ := Lib.hid (HSB.out _ HB5.out)
                    have HWZ := Lib.hid (HWR.out.below HB5.out)
                    go_wp2_with fail
                    go_roundw
                    case rel => exact ⟨n + 1, al, cl, Ll, by go_num, by omega, by rw [HNL.out], HWZ.out, HBZ.out⟩
                    case measure => simp [RowKit.intOf]; omega
                  · have hposi : (0 : Int) < (nv : Int) := by omega
                    have hmv : ((n : Int) * 5).tmod (nv : Int) = (((n * 5) % nv : Nat) : Int) := by
                      rw [show ((n : Int) * 5) = ((n * 5 : Nat) : Int) from by omega, Int.tmod_eq_emod_of_nonneg (by omega)]
                      rfl
                    have hlv : (n * 5) % nv < nv := Nat.mod_lt _ hpos
                    obtain ⟨b6, off6, rfl, hb6, x0, x1, x2⟩ := HE5.out.cell ((n * 5) % nv) (by rw [HNV.out]; exact hlv)
                    have hbne := (HG5.out _ rfl).1
                    simp only at hbne
                    have hbne2 : ¬ b6 = bx := by omega
                    have hwz : wrap64 (((n * 5) % nv : Nat) : Int) = (((n * 5) % nv : Nat) : Int) := IntWalk.wrap64_in _ ⟨by omega, by omega⟩
                    have hij : IntKind.i64.wrap (((n * 5) % nv : Nat) : Int) = (((n * 5) % nv : Nat) : Int) := nat_wrap _ (Nat.le_trans (Nat.le_of_lt hlv) (Nat.le_trans hv200 (by decide)))
                    have hw5 : wrap64 ((n : Int) * 5) = (n : Int) * 5 := IntWalk.wrap64_in _ ⟨by omega, by omega⟩
                    generalize XV[(n * 5) % nv]'(by rw [HNV.out]; exact hlv) = x at *
                    generalize (n * 5) % nv = jv at *
                    obtain ⟨xs, xq, xi⟩ := x
                    simp only at x0 x1 x2
                    have hnz : ¬ (nv : Int) = 0 := by omega
                    have hnb : ((nv : Int) == 0) = false := by simpa using hnz
                    have hi5 : IntKind.i64.wrap ((n : Int) * 5) = (n : Int) * 5 := IntWalk.i64_in _ (by omega)
                    have hit : IntKind.i64.wrap (((n : Int) * 5).tmod (nv : Int)) = (jv : Int) := by rw [hmv]; exact hij
                    have hj0 : (0 : Int) ≤ (jv : Int) := Int.natCast_nonneg _
                    have hj1 : (jv : Int) < (nv : Int) := Int.ofNat_lt.2 hlv
                    have HFN := Lib.hid (fun c => sw_k1b (t2 := 44) HBLK.out HB5.out HBG.out xs xq xi c)
                    clear HWK HLT HXX HTB HX HB0 HB1 HA1 HB HBW HCW HRO HROW HBN HWR HTBN HMN HMC HNL HXV HNV HB4 HB5 HBG HBLK HG5 HE5 HBX5 HSB HNR
                    go_upto_region 27 with fail
                    have v0 := cell_far (b := bx) (c := 2) (u := .int .i64 1) x0 hbne2
                    have v1 := cell_far (b := bx) (c := 2) (u := .int .i64 1) x1 hbne2
                    have v2 := cell_far (b := bx) (c := 2) (u := .int .i64 1) x2 hbne2
                    go_big_region
                    all_goals
                      go_wp2_with fail
                      go_meet
                      exact HFN.out _
                · -- @K2
                  rcases Nat.eq_zero_or_pos nl with rfl | hpos
                  · have HBZ := Lib.hid (HSB.out _ HB5.out)
                    have HWZ := Lib.hid (HWR.out.below HB5.out)
                    go_wp2_with fail
                    go_roundw
                    case rel => exact ⟨n + 1, al, cl, Ll, by go_num, by omega, by rw [HNL.out], HWZ.out, HBZ.out⟩
                    case measure => simp [RowKit.intOf]; omega
                  · have hposi : (0 : Int) < (nl : Int) := by omega
                    have hnz : ¬ (nl : Int) = 0 := by omega
                    have hmv : ((n : Int) * 3 + 2).tmod (nl : Int) = (((n * 3 + 2) % nl : Nat) : Int) := by
                      rw [show ((n : Int) * 3 + 2) = ((n * 3 + 2 : Nat) : Int) from by omega, Int.tmod_eq_emod_of_nonneg (by omega)]
                      rfl
                    have hlv : (n * 3 + 2) % nl < nl := Nat.mod_lt _ hpos
                    obtain ⟨b6, off6, rfl, hb6, x0, x1, x2, x3, x4, x5, x6, x7, x8, x9, xa⟩ := (HWR.out.1.below HB5.out).cells ((n * 3 + 2) % nl) (by rw [HNL.out]; exact hlv)
                    have hwz : wrap64 (((n * 3 + 2) % nl : Nat) : Int) = (((n * 3 + 2) % nl : Nat) : Int) := nat_wrap64 _ (Nat.le_trans (Nat.le_of_lt hlv) (Nat.le_trans hl40 (by decide)))
                    have hw3 : wrap64 ((n : Int) * 3) = (n : Int) * 3 := IntWalk.wrap64_in _ ⟨by omega, by omega⟩
                    have hw4 : wrap64 ((n : Int) * 3 + 2) = (n : Int) * 3 + 2 := IntWalk.wrap64_in _ ⟨by omega, by omega⟩
                    generalize Ll[(n * 3 + 2) % nl]'(by rw [HNL.out]; exact hlv) = rr at *
                    generalize (n * 3 + 2) % nl = jv at *
                    have hj1 : (jv : Int) < (nl : Int) := Int.ofNat_lt.2 hlv
                    have hj0 : (0 : Int) ≤ (jv : Int) := Int.natCast_nonneg _
                    obtain ⟨ro, ra2, rc2⟩ := rr
                    obtain ⟨zs, zq, zk, ⟨ze, zeq, zei⟩, ztx, zgo, zof, znu, zge⟩ := ro
                    simp only at x0 x1 x2 x3 x4 x5 x6 x7 x8 x9 xa
                    have hkbx : bx < w5.heap.size := kl
                    have HM2 := Lib.hid (show ((n : Int)).tmod 2 = ((n % 2 : Nat) : Int) from by
                      rw [Int.tmod_eq_emod_of_nonneg (by omega)]
                      rfl)
                    clear k2 k3 k4 k5 k6 k7 k8 k9 ka kf2 kf3 kf4 kf5 kf6 kf7 kf8 kf9 kfa kl
                    go_upto_region 17 with fail
                    clear x0 x1 x2 x3 x4 x5 x6 x7 x8 x9 xa
                    have hbo := box_of (heap_alloc_new w5 (.cells #[.int .i64 zs, .int .i64 zq, .int .i64 zk, .int .i64 ze, .int .i64 zeq, .int .i64 zei, .string ztx, .slice ra2 zgo.length rc2, .int .i64 zof, .int .i64 znu, .int .i64 zge] 54)) (o := ⟨zs, zq, zk, ⟨ze, zeq, zei⟩, ztx, zgo, zof, znu, zge⟩) rfl
                    have y0 := hbo.c0
                    have y1 := hbo.c1
                    have y2 := hbo.c2
                    have yl := hbo.lt
                    simp only at y0 y1 y2
                    have hbl6 := (heap_alloc_old w5 (.cells #[.int .i64 zs, .int .i64 zq, .int .i64 zk, .int .i64 ze, .int .i64 zeq, .int .i64 zei, .string ztx, .slice ra2 zgo.length rc2, .int .i64 zof, .int .i64 znu, .int .i64 zge] 54) hkbx).trans HBLK.out
                    have hb6w : Below wr.heap.size wr (w5.alloc (.cells #[.int .i64 zs, .int .i64 zq, .int .i64 zk, .int .i64 ze, .int .i64 zeq, .int .i64 zei, .string ztx, .slice ra2 zgo.length rc2, .int .i64 zof, .int .i64 znu, .int .i64 zge] 54)) := HB5.out.alloc HB5.out.size _
                    generalize (w5.alloc (.cells #[.int .i64 zs, .int .i64 zq, .int .i64 zk, .int .i64 ze, .int .i64 zeq, .int .i64 zei, .string ztx, .slice ra2 zgo.length rc2, .int .i64 zof, .int .i64 znu, .int .i64 zge] 54)) = w6 at *
                    obtain ⟨bk, hbk0⟩ : ∃ q, w5.heap.size = q := ⟨_, rfl⟩
                    rw [hbk0] at y0 y1 y2 yl hkbx ⊢
                    have HB6 := Lib.hid hb6w
                    clear hbo hb6w hbk0
                    by_cases hk1 : zk = 1
                    · subst hk1
                      have hbne : ¬ bk = bx := by omega
                      have hcn := rCount_same (some ⟨b6, off6, none⟩) cl Ll zs zq w6.drew (HWR.out.1.below HB6.out.drew)
                      rw [HNL.out] at hcn
                      have HCN := Lib.hid hcn
                      generalize ct (OpR.os Ll) zs zq = cc at *
                      have HFN := Lib.hid (sw_k2 hbl6 HB6.out HBG.out zs zq (cc : Int))
                      have HKD := Lib.hid (show ((((w6.setCell ⟨bx, 2, none⟩ (.int .i64 2)).setCell ⟨bx, 8, none⟩ (.int .i64 zs)).setCell ⟨bx, 9, none⟩ (.int .i64 zq)).setCell ⟨bx, 10, none⟩ (.int .i64 (cc : Int))).cell? ⟨bx, 10, none⟩ = some (.int .i64 (cc : Int)) ∧ ((((w6.setCell ⟨bx, 2, none⟩ (.int .i64 2)).setCell ⟨bx, 8, none⟩ (.int .i64 zs)).setCell ⟨bx, 9, none⟩ (.int .i64 zq)).setCell ⟨bx, 10, none⟩ (.int .i64 (cc : Int))).frozen? ⟨bx, 10, none⟩ = false ∧ bx < ((((w6.setCell ⟨bx, 2, none⟩ (.int .i64 2)).setCell ⟨bx, 8, none⟩ (.int .i64 zs)).setCell ⟨bx, 9, none⟩ (.int .i64 zq)).setCell ⟨bx, 10, none⟩ (.int .i64 (cc : Int))).heap.size from by
                        obtain ⟨_, _, _, _, _, _, _, _, h1, h2, h3⟩ := blk_cells (blk_seta (blk_set9 (blk_set8 (blk_set2 hbl6 (.int .i64 2)) (.int .i64 zs)) (.int .i64 zq)) (.int .i64 (cc : Int)))
                        exact ⟨h1, h2 10, h3⟩)
                      obtain ⟨k2, k3, k4, k5, k6, k7, k8, k9, ka, kf, kl⟩ := blk_cells hbl6
                      have kf2 := kf 2
                      have kf8 := kf 8
                      have kf9 := kf 9
                      have kfa := kf 10
                      have y0a : (w6.setCell ⟨bx, 2, none⟩ (.int .i64 2)).drew.cell? ⟨bk, 0, none⟩ = some (.int .i64 zs) := cell_far (b := bx) (c := 2) (u := .int .i64 2) y0 hbne
                      have y1a : (w6.setCell ⟨bx, 2, none⟩ (.int .i64 2)).drew.cell? ⟨bk, 1, none⟩ = some (.int .i64 zq) := cell_far (b := bx) (c := 2) (u := .int .i64 2) y1 hbne
                      have y0b : ((w6.setCell ⟨bx, 2, none⟩ (.int .i64 2)).setCell ⟨bx, 8, none⟩ (.int .i64 zs)).drew.cell? ⟨bk, 0, none⟩ = some (.int .i64 zs) := cell_far (b := bx) (c := 8) (u := .int .i64 zs) (cell_far (b := bx) (c := 2) (u := .int .i64 2) y0 hbne) hbne
                      have y1b : ((w6.setCell ⟨bx, 2, none⟩ (.int .i64 2)).setCell ⟨bx, 8, none⟩ (.int .i64 zs)).drew.cell? ⟨bk, 1, none⟩ = some (.int .i64 zq) := cell_far (b := bx) (c := 8) (u := .int .i64 zs) (cell_far (b := bx) (c := 2) (u := .int .i64 2) y1 hbne) hbne
                      have y0c : (((w6.setCell ⟨bx, 2, none⟩ (.int .i64 2)).setCell ⟨bx, 8, none⟩ (.int .i64 zs)).setCell ⟨bx, 9, none⟩ (.int .i64 zq)).drew.cell? ⟨bk, 0, none⟩ = some (.int .i64 zs) := cell_far (b := bx) (c := 9) (u := .int .i64 zq) (cell_far (b := bx) (c := 8) (u := .int .i64 zs) (cell_far (b := bx) (c := 2) (u := .int .i64 2) y0 hbne) hbne) hbne
                      have y1c : (((w6.setCell ⟨bx, 2, none⟩ (.int .i64 2)).setCell ⟨bx, 8, none⟩ (.int .i64 zs)).setCell ⟨bx, 9, none⟩ (.int .i64 zq)).drew.cell? ⟨bk, 1, none⟩ = some (.int .i64 zq) := cell_far (b := bx) (c := 9) (u := .int .i64 zq) (cell_far (b := bx) (c := 8) (u := .int .i64 zs) (cell_far (b := bx) (c := 2) (u := .int .i64 2) y1 hbne) hbne) hbne
                      have y0d : ((((w6.setCell ⟨bx, 2, none⟩ (.int .i64 2)).setCell ⟨bx, 8, none⟩ (.int .i64 zs)).setCell ⟨bx, 9, none⟩ (.int .i64 zq)).setCell ⟨bx, 10, none⟩ (.int .i64 (cc : Int))).drew.cell? ⟨bk, 0, none⟩ = some (.int .i64 zs) := cell_far (b := bx) (c := 10) (u := .int .i64 (cc : Int)) (cell_far (b := bx) (c := 9) (u := .int .i64 zq) (cell_far (b := bx) (c := 8) (u := .int .i64 zs) (cell_far (b := bx) (c := 2) (u := .int .i64 2) y0 hbne) hbne) hbne) hbne
                      have y1d : ((((w6.setCell ⟨bx, 2, none⟩ (.int .i64 2)).setCell ⟨bx, 8, none⟩ (.int .i64 zs)).setCell ⟨bx, 9, none⟩ (.int .i64 zq)).setCell ⟨bx, 10, none⟩ (.int .i64 (cc : Int))).drew.cell? ⟨bk, 1, none⟩ = some (.int .i64 zq) := cell_far (b := bx) (c := 10) (u := .int .i64 (cc : Int)) (cell_far (b := bx) (c := 9) (u := .int .i64 zq) (cell_far (b := bx) (c := 8) (u := .int .i64 zs) (cell_far (b := bx) (c := 2) (u := .int .i64 2) y1 hbne) hbne) hbne) hbne
                      have y0w : w6.drew.cell? ⟨bk, 0, none⟩ = some (.int .i64 zs) := y0
                      have y1w : w6.drew.cell? ⟨bk, 1, none⟩ = some (.int .i64 zq) := y1
                      clear HWK HLT HXX HTB HX HB0 HB1 HA1 HB HBW HCW HRO HROW HBN HWR HTBN HMN HMC HXV HNV HB4 HB5 HB6 HBG HBLK HG5 HE5 HBX5 HSB HNR kf hcn hbl6 k3 k4 k5 k6 k7
                      go_upto_region 18 with fail
                      go_region_held3 (fun w' => w'.cell? ⟨bk, 0, none⟩ = some (.int .i64 zs) ∧ w'.cell? ⟨bk, 1, none⟩ = some (.int .i64 zq)) (first | with_reducible exact ⟨y0w, y1w⟩ | with_reducible exact ⟨y0a, y1a⟩ | with_reducible exact ⟨y0b, y1b⟩ | with_reducible exact ⟨y0c, y1c⟩ | with_reducible exact ⟨y0d, y1d⟩ | (trace_state; fail)) (first | (go_at_call 21; refine HCN.out.mono ?_; rintro xc wc2 ⟨rfl, hcc⟩; have hcs := hcc.symm; clear hcc; subst hcs) | fail)
                      all_goals
                        clear y0a y1a y0b y1b y0c y1c y0d y1d y0w y1w y0 y1 y2
                        generalize ((((w6.setCell ⟨bx, 2, none⟩ (.int .i64 2)).setCell ⟨bx, 8, none⟩ (.int .i64 zs)).setCell ⟨bx, 9, none⟩ (.int .i64 zq)).setCell ⟨bx, 10, none⟩ (.int .i64 (cc : Int))) = wD at *
                        go_wp2_with fail
                        go_meet
                        exact HFN.out.1
                    · have hkd : decide (zk = 1) = false := decide_eq_false hk1
                      have HBZ := Lib.hid (HSB.out _ HB6.out)
                      have HWZ := Lib.hid (HWR.out.below HB6.out)
                      go_wp2_with fail
                      go_roundw
                      case rel => exact ⟨n + 1, _, cl, Ll, by go_num, by omega, by rw [HNL.out], HWZ.out, HBZ.out⟩
                      case measure => simp [RowKit.intOf]; omega
                · -- @K3
                  rcases Nat.eq_zero_or_pos nl with rfl | hpos
                  · have HBZ := Lib.hid (HSB.out _ HB5.out)
                    have HWZ := Lib.hid (HWR.out.below HB5.out)
                    go_wp2_with fail
                    go_roundw
                    case rel => exact ⟨n + 1, al, cl, Ll, by go_num, by omega, by rw [HNL.out], HWZ.out, HBZ.out⟩
                    case measure => simp [RowKit.intOf]; omega
                  · have hposi : (0 : Int) < (nl : Int) := by omega
                    have hnz : ¬ (nl : Int) = 0 := by omega
                    have hmv : ((n : Int) * 3 + 3).tmod (nl : Int) = (((n * 3 + 3) % nl : Nat) : Int) := by
                      rw [show ((n : Int) * 3 + 3) = ((n * 3 + 3 : Nat) : Int) from by omega, Int.tmod_eq_emod_of_nonneg (by omega)]
                      rfl
                    have hlv : (n * 3 + 3) % nl < nl := Nat.mod_lt _ hpos
                    obtain ⟨b6, off6, rfl, hb6, x0, x1, x2, x3, x4, x5, x6, x7, x8, x9, xa⟩ := (HWR.out.1.below HB5.out).cells ((n * 3 + 3) % nl) (by rw [HNL.out]; exact hlv)
                    have hwz : wrap64 (((n * 3 + 3) % nl : Nat) : Int) = (((n * 3 + 3) % nl : Nat) : Int) := nat_wrap64 _ (Nat.le_trans (Nat.le_of_lt hlv) (Nat.le_trans hl40 (by decide)))
                    have hw3 : wrap64 ((n : Int) * 3) = (n : Int) * 3 := IntWalk.wrap64_in _ ⟨by omega, by omega⟩
                    have hw4 : wrap64 ((n : Int) * 3 + 3) = (n : Int) * 3 + 3 := IntWalk.wrap64_in _ ⟨by omega, by omega⟩
                    generalize Ll[(n * 3 + 3) % nl]'(by rw [HNL.out]; exact hlv) = rr at *
                    generalize (n * 3 + 3) % nl = jv at *
                    have hj1 : (jv : Int) < (nl : Int) := Int.ofNat_lt.2 hlv
                    have hj0 : (0 : Int) ≤ (jv : Int) := Int.natCast_nonneg _
                    obtain ⟨ro, ra2, rc2⟩ := rr
                    obtain ⟨zs, zq, zk, ⟨ze, zeq, zei⟩, ztx, zgo, zof, znu, zge⟩ := ro
                    simp only at x0 x1 x2 x3 x4 x5 x6 x7 x8 x9 xa
                    have hkbx : bx < w5.heap.size := kl
                    have HM2 := Lib.hid (show ((n : Int)).tmod 2 = ((n % 2 : Nat) : Int) from by
                      rw [Int.tmod_eq_emod_of_nonneg (by omega)]
                      rfl)
                    clear k2 k3 k4 k5 k6 k7 k8 k9 ka kf2 kf3 kf4 kf5 kf6 kf7 kf8 kf9 kfa kl
                    go_upto_region 17 with fail
                    clear x0 x1 x2 x3 x4 x5 x6 x7 x8 x9 xa
                    have hbo := box_of (heap_alloc_new w5 (.cells #[.int .i64 zs, .int .i64 zq, .int .i64 zk, .int .i64 ze, .int .i64 zeq, .int .i64 zei, .string ztx, .slice ra2 zgo.length rc2, .int .i64 zof, .int .i64 znu, .int .i64 zge] 54)) (o := ⟨zs, zq, zk, ⟨ze, zeq, zei⟩, ztx, zgo, zof, znu, zge⟩) rfl
                    have y0 := hbo.c0
                    have y1 := hbo.c1
                    have y2 := hbo.c2
                    have yl := hbo.lt
                    simp only at y0 y1 y2
                    have hbl6 := (heap_alloc_old w5 (.cells #[.int .i64 zs, .int .i64 zq, .int .i64 zk, .int .i64 ze, .int .i64 zeq, .int .i64 zei, .string ztx, .slice ra2 zgo.length rc2, .int .i64 zof, .int .i64 znu, .int .i64 zge] 54) hkbx).trans HBLK.out
                    have hb6w : Below wr.heap.size wr (w5.alloc (.cells #[.int .i64 zs, .int .i64 zq, .int .i64 zk, .int .i64 ze, .int .i64 zeq, .int .i64 zei, .string ztx, .slice ra2 zgo.length rc2, .int .i64 zof, .int .i64 znu, .int .i64 zge] 54)) := HB5.out.alloc HB5.out.size _
                    generalize (w5.alloc (.cells #[.int .i64 zs, .int .i64 zq, .int .i64 zk, .int .i64 ze, .int .i64 zeq, .int .i64 zei, .string ztx, .slice ra2 zgo.length rc2, .int .i64 zof, .int .i64 znu, .int .i64 zge] 54)) = w6 at *
                    obtain ⟨bk, hbk0⟩ : ∃ q, w5.heap.size = q := ⟨_, rfl⟩
                    rw [hbk0] at y0 y1 y2 yl hkbx ⊢
                    have HB6 := Lib.hid hb6w
                    clear hbo hb6w hbk0
                    by_cases hk1 : zk = 1
                    · subst hk1
                      have hbne : ¬ bk = bx := by omega
                      have hcn := rCount_same (some ⟨b6, off6, none⟩) cl Ll zs zq w6.drew (HWR.out.1.below HB6.out.drew)
                      rw [HNL.out] at hcn
                      have HCN := Lib.hid hcn
                      generalize ct (OpR.os Ll) zs zq = cc at *
                      have HFN := Lib.hid (sw_k2 hbl6 HB6.out HBG.out zs zq (cc : Int))
                      have HKD := Lib.hid (show ((((w6.setCell ⟨bx, 2, none⟩ (.int .i64 2)).setCell ⟨bx, 8, none⟩ (.int .i64 zs)).setCell ⟨bx, 9, none⟩ (.int .i64 zq)).setCell ⟨bx, 10, none⟩ (.int .i64 (cc : Int))).cell? ⟨bx, 10, none⟩ = some (.int .i64 (cc : Int)) ∧ ((((w6.setCell ⟨bx, 2, none⟩ (.int .i64 2)).setCell ⟨bx, 8, none⟩ (.int .i64 zs)).setCell ⟨bx, 9, none⟩ (.int .i64 zq)).setCell ⟨bx, 10, none⟩ (.int .i64 (cc : Int))).frozen? ⟨bx, 10, none⟩ = false ∧ bx < ((((w6.setCell ⟨bx, 2, none⟩ (.int .i64 2)).setCell ⟨bx, 8, none⟩ (.int .i64 zs)).setCell ⟨bx, 9, none⟩ (.int .i64 zq)).setCell ⟨bx, 10, none⟩ (.int .i64 (cc : Int))).heap.size from by
                        obtain ⟨_, _, _, _, _, _, _, _, h1, h2, h3⟩ := blk_cells (blk_seta (blk_set9 (blk_set8 (blk_set2 hbl6 (.int .i64 2)) (.int .i64 zs)) (.int .i64 zq)) (.int .i64 (cc : Int)))
                        exact ⟨h1, h2 10, h3⟩)
                      obtain ⟨k2, k3, k4, k5, k6, k7, k8, k9, ka, kf, kl⟩ := blk_cells hbl6
                      have kf2 := kf 2
                      have kf8 := kf 8
                      have kf9 := kf 9
                      have kfa := kf 10
                      have y0a : (w6.setCell ⟨bx, 2, none⟩ (.int .i64 2)).drew.cell? ⟨bk, 0, none⟩ = some (.int .i64 zs) := cell_far (b := bx) (c := 2) (u := .int .i64 2) y0 hbne
                      have y1a : (w6.setCell ⟨bx, 2, none⟩ (.int .i64 2)).drew.cell? ⟨bk, 1, none⟩ = some (.int .i64 zq) := cell_far (b := bx) (c := 2) (u := .int .i64 2) y1 hbne
                      have y0b : ((w6.setCell ⟨bx, 2, none⟩ (.int .i64 2)).setCell ⟨bx, 8, none⟩ (.int .i64 zs)).drew.cell? ⟨bk, 0, none⟩ = some (.int .i64 zs) := cell_far (b := bx) (c := 8) (u := .int .i64 zs) (cell_far (b := bx) (c := 2) (u := .int .i64 2) y0 hbne) hbne
                      have y1b : ((w6.setCell ⟨bx, 2, none⟩ (.int .i64 2)).setCell ⟨bx, 8, none⟩ (.int .i64 zs)).drew.cell? ⟨bk, 1, none⟩ = some (.int .i64 zq) := cell_far (b := bx) (c := 8) (u := .int .i64 zs) (cell_far (b := bx) (c := 2) (u := .int .i64 2) y1 hbne) hbne
                      have y0c : (((w6.setCell ⟨bx, 2, none⟩ (.int .i64 2)).setCell ⟨bx, 8, none⟩ (.int .i64 zs)).setCell ⟨bx, 9, none⟩ (.int .i64 zq)).drew.cell? ⟨bk, 0, none⟩ = some (.int .i64 zs) := cell_far (b := bx) (c := 9) (u := .int .i64 zq) (cell_far (b := bx) (c := 8) (u := .int .i64 zs) (cell_far (b := bx) (c := 2) (u := .int .i64 2) y0 hbne) hbne) hbne
                      have y1c : (((w6.setCell ⟨bx, 2, none⟩ (.int .i64 2)).setCell ⟨bx, 8, none⟩ (.int .i64 zs)).setCell ⟨bx, 9, none⟩ (.int .i64 zq)).drew.cell? ⟨bk, 1, none⟩ = some (.int .i64 zq) := cell_far (b := bx) (c := 9) (u := .int .i64 zq) (cell_far (b := bx) (c := 8) (u := .int .i64 zs) (cell_far (b := bx) (c := 2) (u := .int .i64 2) y1 hbne) hbne) hbne
                      have y0d : ((((w6.setCell ⟨bx, 2, none⟩ (.int .i64 2)).setCell ⟨bx, 8, none⟩ (.int .i64 zs)).setCell ⟨bx, 9, none⟩ (.int .i64 zq)).setCell ⟨bx, 10, none⟩ (.int .i64 (cc : Int))).drew.cell? ⟨bk, 0, none⟩ = some (.int .i64 zs) := cell_far (b := bx) (c := 10) (u := .int .i64 (cc : Int)) (cell_far (b := bx) (c := 9) (u := .int .i64 zq) (cell_far (b := bx) (c := 8) (u := .int .i64 zs) (cell_far (b := bx) (c := 2) (u := .int .i64 2) y0 hbne) hbne) hbne) hbne
                      have y1d : ((((w6.setCell ⟨bx, 2, none⟩ (.int .i64 2)).setCell ⟨bx, 8, none⟩ (.int .i64 zs)).setCell ⟨bx, 9, none⟩ (.int .i64 zq)).setCell ⟨bx, 10, none⟩ (.int .i64 (cc : Int))).drew.cell? ⟨bk, 1, none⟩ = some (.int .i64 zq) := cell_far (b := bx) (c := 10) (u := .int .i64 (cc : Int)) (cell_far (b := bx) (c := 9) (u := .int .i64 zq) (cell_far (b := bx) (c := 8) (u := .int .i64 zs) (cell_far (b := bx) (c := 2) (u := .int .i64 2) y1 hbne) hbne) hbne) hbne
                      have y0w : w6.drew.cell? ⟨bk, 0, none⟩ = some (.int .i64 zs) := y0
                      have y1w : w6.drew.cell? ⟨bk, 1, none⟩ = some (.int .i64 zq) := y1
                      clear HWK HLT HXX HTB HX HB0 HB1 HA1 HB HBW HCW HRO HROW HBN HWR HTBN HMN HMC HXV HNV HB4 HB5 HB6 HBG HBLK HG5 HE5 HBX5 HSB HNR kf hcn hbl6 k3 k4 k5 k6 k7
                      go_upto_region 18 with fail
                      go_region_held3 (fun w' => w'.cell? ⟨bk, 0, none⟩ = some (.int .i64 zs) ∧ w'.cell? ⟨bk, 1, none⟩ = some (.int .i64 zq)) (first | with_reducible exact ⟨y0w, y1w⟩ | with_reducible exact ⟨y0a, y1a⟩ | with_reducible exact ⟨y0b, y1b⟩ | with_reducible exact ⟨y0c, y1c⟩ | with_reducible exact ⟨y0d, y1d⟩ | (trace_state; fail)) (first | (go_at_call 21; refine HCN.out.mono ?_; rintro xc wc2 ⟨rfl, hcc⟩; have hcs := hcc.symm; clear hcc; subst hcs) | fail)
                      all_goals
                        clear y0a y1a y0b y1b y0c y1c y0d y1d y0w y1w y0 y1 y2
                        generalize ((((w6.setCell ⟨bx, 2, none⟩ (.int .i64 2)).setCell ⟨bx, 8, none⟩ (.int .i64 zs)).setCell ⟨bx, 9, none⟩ (.int .i64 zq)).setCell ⟨bx, 10, none⟩ (.int .i64 (cc : Int))) = wD at *
                        have hm2 := HM2.out
                        have hn2 : n % 2 < 2 := Nat.mod_lt _ (by decide)
                        clear HM2
                        generalize n % 2 = r2 at *
                        have hr2 : r2 = 0 ∨ r2 = 1 := by omega
                        have kaD := HKD.out.1
                        have kfD := HKD.out.2.1
                        have klD := HKD.out.2.2
                        clear hn2 HKD
                        rcases hr2 with rfl | rfl
                        · go_wp2_with fail
                          go_meet
                          exact HFN.out.1
                        · go_wp2_with fail
                          go_meet
                          exact HFN.out.2 _
                    · have hkd : decide (zk = 1) = false := decide_eq_false hk1
                      have HBZ := Lib.hid (HSB.out _ HB6.out)
                      have HWZ := Lib.hid (HWR.out.below HB6.out)
                      go_wp2_with fail
                      go_roundw
                      case rel => exact ⟨n + 1, _, cl, Ll, by go_num, by omega, by rw [HNL.out], HWZ.out, HBZ.out⟩
                      case measure => simp [RowKit.intOf]; omega
              case rest =>
                obtain ⟨o, oa, oc, hbx, hel, hgl, hts, hbw⟩ := hcut
                have hwr2 := HWR.out.below hbw
                have hsz := szs_row HWR.out.2.2
                have HSZ2 := Lib.hid (show ∀ Lm : List OpR, OpR.os Lm = OpR.os Ll ++ [o] → Szs Lm from fun Lm hL r hr => by
                  have h1 : r.o ∈ OpR.os Ll ++ [o] := by rw [← hL]; exact List.mem_map_of_mem hr
                  rcases List.mem_append.1 h1 with h1 | h1
                  · obtain ⟨r2, h2, h3⟩ := List.mem_map.1 h1
                    rw [← h3]
                    exact hsz.1 r2 h2
                  · rw [List.mem_singleton.1 h1]
                    omega)
                have hbh := rBehind_any al cl Ll o oa oc wc hwr2.1 hsz.2 (by rw [HNL.out]; omega) hel (by omega) (by unfold BIG; omega)
                unfold BehPost at hbh
                rw [HNL.out] at hbh
                have HLN := Lib.hid (show ∀ Lm : List OpR, OpR.os Lm = OpR.os Ll ++ [o] → Lm.length = nl + 1 from fun Lm hL => by
                  have h1 := congrArg List.length hL
                  rw [os_len, List.length_append, os_len, HNL.out] at h1
                  exact h1)
                have HBW := Lib.hid hbw
                have HWR2 := Lib.hid hwr2
                have HBH := Lib.hid hbh
                obtain ⟨L9, hL9⟩ : ∃ L, OpR.os Ll ++ [o] = L := ⟨_, rfl⟩
                rw [hL9] at HBH HSZ2 HLN
                have d0 := hbx.c0
                have d1 := hbx.c1
                have d2 := hbx.c2
                have d3 := hbx.c3
                have d4 := hbx.c4
                have d5 := hbx.c5
                have d6 := hbx.c6
                have d7 := hbx.c7
                have d8 := hbx.c8
                have d9 := hbx.c9
                have da := hbx.ca
                have dl := hbx.lt
                clear hbx hel hgl hts hbw hwr2 hsz hbh hL9
                obtain ⟨os, oq, ok, ⟨oe, oeq, oei⟩, otx, ogo, oof, onu, oge⟩ := o
                unfold OpD.v at HBH
                simp only at HBH d0 d1 d2 d3 d4 d5 d6 d7 d8 d9 da
                by_cases hrow2 : rowP L9
                · have htl := visE_le hrow2.2
                  obtain ⟨X9, hX9⟩ : ∃ X, visE L9 = X := ⟨_, rfl⟩
                  obtain ⟨n9, hn9⟩ : ∃ q, X9.length = q := ⟨_, rfl⟩
                  have HX9 := Lib.hid hX9
                  have HN9 := Lib.hid hn9
                  have HR9 := Lib.hid hrow2
                  obtain ⟨T9, hT9⟩ : ∃ T, docT L9 = T := ⟨_, rfl⟩
                  have HT9 := Lib.hid hT9
                  rw [hX9, hn9] at htl
                  clear hX9 hn9 hrow2 hT9
                  go_wp2_with (first
                    | (go_at_call 28; refine HBH.out.mono ?_; rintro x6 w6 ⟨v6, Lm, rfl, hown6, hos6, hb6⟩; have hlm := HLN.out Lm hos6; obtain ⟨am, cm, rfl, ham, hcm⟩ := hown6.ops (by unfold BIG; omega); have HAM := Lib.hid ham; have HCM := Lib.hid hcm; have HLM := Lib.hid hlm; have HOM := Lib.hid hos6; have HB6 := Lib.hid (HBW.out.trans (hb6.mono HBW.out.size)); rw [hlm]; clear hown6 ham hcm hos6 hb6 hlm)
                    | (go_at_call 9; have hrr := rRow_any am cm Lm w6 (HTBN.out _ HB6.out) (HSZ2.out Lm HOM.out) HAM.out HCM.out; rw [HLM.out, HOM.out, show rowB L9 = true from (rowB_iff _).2 HR9.out] at hrr; refine hrr.mono ?_; rintro x7 w7 ⟨rfl, hb7⟩; have HB7 := Lib.hid (HB6.out.trans (hb7.mono HB6.out.size)); have HA7 := Lib.hid (HAM.out.below hb7); clear hb7 hrr)
                    | (go_at_call 11; have ht := dText_ok am cm Lm w7 HA7.out (by rw [HOM.out]; exact HR9.out); unfold TextPost at ht; rw [HLM.out, HOM.out, HT9.out] at ht; refine ht.mono ?_; rintro x8 w8 ⟨rfl, hb8⟩; have HB8 := Lib.hid (HB7.out.trans (hb8.mono HB7.out.size)); have HA8 := Lib.hid (HA7.out.below hb8); clear hb8 ht)
                    | (go_at_call 10; have ht := dVis_ok am cm Lm w8 HA8.out (by rw [HOM.out]; exact HR9.out); unfold VisPost at ht; rw [HLM.out, HOM.out, HX9.out] at ht; refine ht.mono ?_; rintro x9 w9 ⟨v9, rfl, hown9, hb9⟩; obtain ⟨a9, c9, hv9, he9, _⟩ := elems_own hown9; rw [HN9.out] at hv9; subst hv9; have HE9 := Lib.hid he9; have HB9 := Lib.hid (HB8.out.trans (hb9.mono HB8.out.size)); have HA9 := Lib.hid (HA8.out.below hb9); clear hb9 ht hown9 he9)
                    | (go_at_call 14; refine (num6_same _ _).mono ?_; rintro x7 w7' ⟨rfl, h7⟩; have h7s := h7.symm; clear h7; subst h7s)
                    | (go_at_call 13; have ht := rText_any am cm Lm w9 (HTBN.out _ HB9.out) (HSZ2.out Lm HOM.out) HA9.out (by rw [HOM.out]; exact HR9.out); unfold RTextPost at ht; rw [HLM.out, HOM.out, HT9.out] at ht; refine ht.mono ?_; rintro x10 w10 ⟨rfl, hb10⟩; have HB10 := Lib.hid (HB9.out.trans (hb10.mono HB9.out.size)); have HA10 := Lib.hid (HA9.out.below hb10); have HE10 := Lib.hid (HE9.out.below hb10); clear hb10 ht)
                    | (go_at_call 12; have ht := rVis_any am cm Lm w10 (HTBN.out _ HB10.out) (HSZ2.out Lm HOM.out) HA10.out (by rw [HOM.out]; exact HR9.out); unfold OwnPost at ht; rw [HLM.out, HOM.out, HX9.out] at ht; refine ht.mono ?_; rintro x11 w11 ⟨v11, rfl, hown11, hb11⟩; obtain ⟨a11, c11, hv11, he11, _⟩ := elems_own hown11; rw [HN9.out] at hv11; subst hv11; have HE11 := Lib.hid he11; have HE12 := Lib.hid (HE10.out.below hb11); have HB11 := Lib.hid (HB10.out.trans (hb11.mono HB10.out.size)); have HA11 := Lib.hid (HA10.out.below hb11); clear hb11 ht hown11 he11)
                    | (go_at_call 15; have ht := EqElems_any a9 a11 c9 c11 X9 X9 w11 HE12.out HE11.out (by rw [HN9.out]; omega) (by rw [HN9.out]; omega); rw [HN9.out, decide_eq_true (rfl : X9 = X9)] at ht; refine ht.mono ?_; rintro x12 w12 ⟨rfl, hb12⟩; have HB12 := Lib.hid (HB11.out.trans (hb12.mono HB11.out.size)); have HA12 := Lib.hid (HA11.out.below hb12); clear hb12 ht)
                    | fail)
                  go_roundw
                  case rel => exact ⟨n + 1, am, cm, Lm, by go_num, by omega, by rw [HLM.out], ⟨HA12.out, HCM.out, by rw [HOM.out]; exact HR9.out⟩, HSB.out _ HB12.out⟩
                  case measure => simp [RowKit.intOf]; omega
                · go_wp2_with (first
                    | (go_at_call 28; refine HBH.out.mono ?_; rintro x6 w6 ⟨v6, Lm, rfl, hown6, hos6, hb6⟩; have hlm := HLN.out Lm hos6; obtain ⟨am, cm, rfl, ham, hcm⟩ := hown6.ops (by unfold BIG; omega); have HAM := Lib.hid ham; have HCM := Lib.hid hcm; have HLM := Lib.hid hlm; have HOM := Lib.hid hos6; have HB6 := Lib.hid (HBW.out.trans (hb6.mono HBW.out.size)); rw [hlm]; clear hown6 ham hcm hos6 hb6 hlm)
                    | (go_at_call 9; have hrr := rRow_any am cm Lm w6 (HTBN.out _ HB6.out) (HSZ2.out Lm HOM.out) HAM.out HCM.out; rw [HLM.out, HOM.out, show rowB L9 = false from by cases h : rowB L9 with | false => rfl | true => exact absurd ((rowB_iff _).1 h) hrow2] at hrr; refine hrr.mono ?_; rintro x7 w7 ⟨rfl, hb7⟩; have HB7 := Lib.hid (HB6.out.trans (hb7.mono HB6.out.size)); clear hb7 hrr)
                    | fail)
                  go_roundw
                  case rel => exact ⟨n + 1, al, cl, Ll, by go_num, by omega, by rw [HNL.out], HWR.out.below HB7.out, HSB.out _ HB7.out⟩
                  case measure => simp [RowKit.intOf]; omega
            · have hn8i : n = 8 := by omega
              subst hn8i
              have HBZ := Lib.hid hb
              clear hb hwr
              go_wp2_with fail
              go_roundw
              case rel => exact ⟨i + 1, by go_num, by omega, HBZ.out⟩
              case measure => simp [RowKit.intOf]; omega
        · rw [show rowB (OpR.os rl) = false from by cases h : rowB (OpR.os rl) with | false => rfl | true => exact absurd ((rowB_iff _).1 h) hrow] at HRR
          go_wp2_with (first
            | (go_at_call 9; refine (HRR.out wr HBW.out).mono ?_; rintro x2 w2 ⟨rfl, hb2⟩; have HB2 := Lib.hid (HB.out.trans (hb2.mono HB.out.size)); clear hb2)
            | fail)
          go_roundw
          case rel => exact ⟨i + 1, by go_num, by omega, HB2.out⟩
          case measure => simp [RowKit.intOf]; omega
      · have hd4 : decide ((i : Int) < 4) = false := decide_eq_false h4
        go_wp2_with (first | (go_at_call 32; refine (HWK.out _).mono ?_; rintro x2 w2 ⟨rfl, hb2⟩; have HB2 := Lib.hid (HBW.out.trans (hb2.mono HBW.out.size)); clear hb2) | fail)
        go_ret
        exact ⟨rfl, HB2.out⟩
    · have hd4 : decide ((i : Int) < (n0 : Int)) = false := decide_eq_false (by omega)
      go_wp2_with (first | (go_at_call 32; refine (HWK.out _).mono ?_; rintro x2 w2 ⟨rfl, hb2⟩; have HB2 := Lib.hid (HBW.out.trans (hb2.mono HBW.out.size)); clear hb2) | fail)
      go_ret
      exact ⟨rfl, HB2.out⟩
end Go.Proofs.YtebkeocfgcekmaaGreatDoor
