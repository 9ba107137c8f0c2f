/- TreeOrders: the walk -/
import Derived.Test.YtjkgmpohddcgpaaGreatDoorYNear
import Derived.Test.YtjkgmpohddcgpaaGreatDoorYCut
import Derived.Test.YtjkgmpohddcgpaaGreatDoorVEq
import Derived.Test.YtjkgmpohddcgpaaGreatDoorDPure
import Derived.Test.YtjkgmpohddcgpaaGreatDoorVEls
import Derived.Test.YtjkgmpohddcgpaaGreatDoorVWakes
import Derived.Deep.DeepCutAuto
import Derived.Deep.CutBlock
import Derived.Deep.RegionLaw
import Derived.StillTailTactics
import Derived.IntWalk
namespace Go.Proofs.YtjkgmpohddcgpaaGreatDoor
open Go.RowKit Go.Lib Go.Sort

/-- the rows that were made: each one's cell -/
theorem rows_own {w : World} {base : Nat} {v : Value} {R : List RowR} (h : w.ownsRow base 24 1 v R.length (R.map RowR.v)) :
    ∃ a c, v = .slice a R.length c ∧ ∀ (q : Nat) (hq : q < R.length), ∃ g, a = some ⟨g, 0, none⟩ ∧ g < w.heap.size ∧ w.cell? ⟨g, q, none⟩ = some (R[q].v) := by
  rcases h.2 with ⟨hv, h0⟩ | ⟨g, cap, cur, hv, _, hh, _⟩
  · exact ⟨none, 0, by rw [hv, h0], fun q hq => absurd hq (by omega)⟩
  · subst hv
    refine ⟨_, cap, rfl, fun q hq => ⟨g, rfl, (Array.getElem?_eq_some_iff.1 hh).1, ?_⟩⟩
    rw [h.cellAt q (by omega), List.getElem?_map, List.getElem?_eq_getElem hq]
    rfl

/-- what is in the order has small numbers -/
theorem ord_i {l : List OpD} (hr : okRow l) {e : El} (he : e ∈ ordE l) : 0 ≤ e.i ∧ e.i ≤ 12 ∧ e.begin = false := by
  obtain ⟨h1, _, h3, h4, h5, h6⟩ := ord_edit hr he
  have h7 := okOp_text (row_ok hr _ (List.getElem_mem h1))
  have h8 := h7.2.1
  unfold nR at h8
  rw [if_pos h7.1] at h8
  exact ⟨h4, by omega, h6⟩
def UndOk (X : List El) (w : World) (x : Ending) (w' : World) : Prop := ∃ v, x = .returned (.tuple #[v, .int .i64 0]) ∧ w'.ownsRow w.heap.size 43 3 v X.length (ecs X) ∧ Below w.heap.size w w'
def UndNo (w : World) (x : Ending) (w' : World) : Prop := x = .returned (.tuple #[.slice none 0 0, .int .i64 3]) ∧ Below w.heap.size w w'
theorem tUnder_ok (a : Option Addr) (cap : Nat) (l : List OpR) (e : El) (w : World) (h : OpsAt w a l) (hr : rowP (OpR.os l)) (hbb : (!e.begin && !decide (e ∈ ordE (OpR.os l))) = false) : Calls Tryz.prog 20 #[.slice a l.length cap, e.v] w (UndOk (unE (OpR.os l) e) w) :=
  (tUnder_any a cap l e w h hr false hbb).mono fun _ _ hp => by
    rcases hp with ⟨_, ⟨v, h1, h2⟩, h3⟩ | ⟨h0, _⟩
    · exact ⟨v, h1, h2, h3⟩
    · cases h0
theorem tUnder_none (a : Option Addr) (cap : Nat) (l : List OpR) (e : El) (w : World) (h : OpsAt w a l) (hr : rowP (OpR.os l)) (hbb : (!e.begin && !decide (e ∈ ordE (OpR.os l))) = true) : Calls Tryz.prog 20 #[.slice a l.length cap, e.v] w (UndNo w) :=
  (tUnder_any a cap l e w h hr true hbb).mono fun _ _ hp => by
    rcases hp with ⟨h0, _⟩ | ⟨_, h1, h2⟩
    · cases h0
    · exact ⟨h1, h2⟩

set_option maxRecDepth 100000 in
set_option maxHeartbeats 16000000 in
theorem treeOrders_walk (p : AskD) (W : World) (h : AskAt W p) (hT : Tabs W) (hnone : p.ae = none → p.e.length = 0 ∧ p.ce = 0) : Calls Tryz.prog 3 #[p.v] W (BoB true W) := by
  have HHV := Lib.hid (fun wx (hx : Below W.heap.size W wx) => Heavy_light p wx (h.below hx))
  have HX := Lib.hid (BoxA.new W p)
  have hb0 : Below W.heap.size W (W.alloc p.obj) := (Below.refl _ _).alloc (Nat.le_refl _) _
  have HB0 := Lib.hid hb0
  have HRW := Lib.hid h.l
  have HTB := Lib.hid (fun wx (hx : Below W.heap.size W wx) => hT.next hx)
  have HNE := Lib.hid (fun a cap l wx (hx : Below W.heap.size W wx) => fun (ho : OpsAt wx a l) (hcap : l.length ≤ cap) (hl : l.length ≤ 900) (hs : ∀ x ∈ l, x.o.text.size ≤ 3600 ∧ x.o.gone.length ≤ 900) (hN : p.n.length ≤ 900) => Near_any p a cap l wx ho hcap hl hs hN)
  have HEL5 := Lib.hid (fun a cap l wx (hx : Below W.heap.size W wx) => fun (ho : OpsAt wx a l) (hn9 : p.e.length ≤ 900) => Elems5_any p a cap l wx (h.e.below hx) hn9 hnone ho)
  have hl3 := h.l.len
  obtain ⟨i0, hi0, hz0, hz1, hz2⟩ := info_parts Tryz.infoElem
  have HWK := Lib.hid wakes_any
  clear h hb0 hT hnone
  unfold AskD.v at HHV HNE HEL5 ⊢
  generalize hLP : Light p = LP at HHV
  have HLP := Lib.hid (show LP → Light p from fun h => by rw [hLP]; exact h)
  clear hLP
  unfold Light at HLP
  obtain ⟨lr, le, lo, ln, ar, ae, ao, an, cr, ce, co, cn⟩ := p
  unfold AskD.obj at HX HB0
  simp only at HHV HX HB0 HRW hl3 HNE HEL5 HLP ⊢
  have hbi := big_is
  obtain ⟨n0, hn0⟩ : ∃ n, lr.length = n := ⟨_, rfl⟩
  have HL0 := Lib.hid hn0
  have h0a : (n0 : Int) ≤ 140737488351232 := by omega
  rw [hn0] at HHV HX HB0 HNE HEL5 ⊢
  clear hl3 hbi hn0
  generalize hn2 : le.length = n2 at *
  generalize hn1 : lo.length = n1 at *
  generalize hn3 : ln.length = n3 at *
  have HL2 := Lib.hid hn2
  have HL1 := Lib.hid hn1
  have HL3 := Lib.hid hn3
  clear hn1 hn2 hn3
  go_enter Tryz.func3, Tryz.ntmps3
  go_wp2_with (first | (go_at_call 9; refine (HHV.out _ HB0.out).mono ?_; rintro x1 w1 ⟨b1, rfl, hlp, hb1⟩; have HPP := Lib.hid hlp; have HB1 := Lib.hid (HB0.out.trans (hb1.mono HB0.out.size)); have HA1 := Lib.hid (HX.out.next hb1 HX.out.lt); clear hb1 hlp; cases b1) | fail)
  rotate_left
  · go_wp2_with fail
    go_ret
    exact ⟨rfl, HB1.out⟩
  have HLT := Lib.hid (HLP.out (HPP.out (by simp)))
  clear HLP HPP
  go_wp2_with fail
  clear HHV
  have HXX := Lib.hid (fun (wx : World) (hx : Below w1.heap.size w1 wx) => And.intro ((hx.cell (p := ⟨W.heap.size, 0, none⟩) HA1.out.lt).trans HA1.out.c0) (And.intro ((hx.cell (p := ⟨W.heap.size, 1, none⟩) HA1.out.lt).trans HA1.out.c1) (And.intro ((hx.cell (p := ⟨W.heap.size, 2, none⟩) HA1.out.lt).trans HA1.out.c2) (And.intro ((hx.cell (p := ⟨W.heap.size, 3, none⟩) HA1.out.lt).trans HA1.out.c3) (And.intro (Nat.lt_of_lt_of_le HA1.out.lt hx.size) (HB1.out.trans (hx.mono HB1.out.size)))))))
  simp only [HL0.out, HL1.out, HL2.out, HL3.out] at HXX
  go_loopw [3] (fun s3 wr => ∃ i : Nat, s3 = .int .i64 i ∧ i ≤ n0 ∧ Below w1.heap.size w1 wr) (fun s3 _ => n0 - (RowKit.intOf s3).toNat)
  case atStart => exact ⟨0, rfl, Nat.zero_le _, Below.refl _ _⟩
  case round =>
    obtain ⟨i, rfl, hi, hb⟩ := hrel
    obtain ⟨q0, q1, q2, q3, hq0, hbW⟩ := HXX.out _ hb
    have HB := Lib.hid hb
    have HBW := Lib.hid hbW
    by_cases hlt : i < n0
    · by_cases h4 : (i : Int) < 4
      · have hil : i < lr.length := by rw [HL0.out]; exact hlt
        obtain ⟨b, off, rfl, hbb, cW⟩ := HRW.out.cell i hil
        have hro := HRW.out.row i hil
        have hlr := light_row (HLT.out.2.2.2 i hil)
        generalize lr[i] = r at *
        clear hil
        obtain ⟨rl, ra, rc⟩ := r
        simp only at cW hro hlr
        have HRO := Lib.hid hro.1
        have HN := Lib.hid (fun wx (hx : Below W.heap.size W wx) => HNE.out ra rc rl wx hx (hro.1.below hx) hro.2 hlr.1 hlr.2 HLT.out.2.1)
        have hcap := hro.2
        obtain ⟨nr, hnr⟩ : ∃ n, rl.length = n := ⟨_, rfl⟩
        have HNR := Lib.hid hnr
        rw [hnr] at cW hcap HN
        have HCW := Lib.hid (fun (wx : World) (hx : Below W.heap.size W wx) => And.intro ((hx.cell (p := ⟨b, off + i, none⟩) hbb).trans cW) (Nat.lt_of_lt_of_le hbb hx.size))
        obtain ⟨cr0, hbr⟩ := HCW.out _ hbW
        have hbd : Below W.heap.size W wr.drew := hbW.drew
        have HBD := Lib.hid hbd
        have HND := Lib.hid (HN.out _ hbd)
        clear hnr hro hb hbW cW hlr hbd HN HNE HRW
        unfold NearPost at HND
        go_wp2_with fail
        have hi1 : (i : Int) < (n0 : Int) := by omega
        have hi2 : (0 : Int) ≤ (i : Int) := by omega
        obtain ⟨p0, p1, p2, p3, hp0, hpW⟩ := HXX.out _ HB.out.drew
        obtain ⟨cr1, hbr1⟩ := HCW.out _ HBD.out
        clear q0 q1 q2 q3 hq0 cr0 hbr hpW
        have HBE := Lib.hid HB.out.drew
        refine wp_region_still_tail 6 (by kernel_rfl) (by kernel_rfl) ?_
        change wpStill _ _ wr.drew (fun a' => wpList _ _ _ _ a' wr.drew) _ _
        generalize wr.drew = we at *
        simp only [List.take_succ_cons, List.take_zero, List.drop_succ_cons, List.drop_zero]
        repeat still_step
        refine wpStill_nil ?_
        go_wp2_with (first
          | (go_at_call 10; refine HND.out.mono ?_; rintro x2 w2 ⟨v2, R, rfl, hown2, hR7, hrows, hb2⟩; have HOW2 := Lib.hid hown2; have HR7 := Lib.hid hR7; have HROWS := Lib.hid hrows; have HB2 := Lib.hid hb2; clear hown2 hR7 hrows hb2)
          | fail)
        have HTW := Lib.hid (fun (wx : World) (hx : Below w2.heap.size w2 wx) => HBD.out.trans ((HB2.out.trans (hx.mono HB2.out.size)).mono HBD.out.size))
        have HSW := Lib.hid (fun (wx : World) (hx : Below w2.heap.size w2 wx) => HBE.out.trans ((HB2.out.trans (hx.mono HB2.out.size)).mono HBE.out.size))
        obtain ⟨a2, c2, hv2, hcells⟩ := rows_own HOW2.out
        subst hv2
        have HCE := Lib.hid hcells
        have hr7 := HR7.out
        obtain ⟨nw, hnw⟩ : ∃ n, R.length = n := ⟨_, rfl⟩
        have HNW := Lib.hid hnw
        rw [hnw] at hr7 ⊢
        clear HOW2 hcells hnw HR7 HND
        go_loopw [5] (fun s5 wr => ∃ q : Nat, s5 = .int .i64 q ∧ q ≤ nw ∧ Below w2.heap.size w2 wr) (fun s5 _ => nw - (RowKit.intOf s5).toNat)
        case atStart => exact ⟨0, rfl, Nat.zero_le _, Below.refl _ _⟩
        case round =>
          obtain ⟨q, rfl, hq, hb⟩ := hrel
          have HBQ := Lib.hid hb
          by_cases hltq : q < nw
          · have hql : q < R.length := by rw [HNW.out]; exact hltq
            obtain ⟨g2, rfl, hg2, cg2⟩ := HCE.out q hql
            have h7 := (HROWS.out R[q] (List.getElem_mem hql)).below hb
            generalize R[q] = m at *
            obtain ⟨ml, ma, mc⟩ := m
            have h7a := h7.at_
            have h7c := h7.cap
            have h7l := h7.len
            have h7s := h7.sz
            unfold RowR.v at cg2
            simp only at cg2 h7a h7c h7l h7s
            have HCG := Lib.hid (fun (wx : World) (hx : Below w2.heap.size w2 wx) => And.intro ((hx.cell (p := ⟨g2, q, none⟩) hg2).trans cg2) (Nat.lt_of_lt_of_le hg2 hx.size))
            have hco := CopyOps_any ma mc ml wr h7a (fun r hr => by have := (h7s r hr).2; omega) (by omega)
            have hrr := fun (wx : World) (hx : Below w2.heap.size w2 wx) (hh : OpsAt wx ma ml) => rRow_any ma mc ml wx (HTB.out _ (HTW.out _ hx)) (fun r hr => by have := (h7s r hr).1; omega) hh h7c
            unfold CopysPost at hco
            have HAT := Lib.hid h7a
            have HSZ := Lib.hid (show ∀ L : List OpR, OpR.os L = OpR.os ml → Szs L from fun L hL r hr => by
              have h1 : r.o ∈ OpR.os ml := by rw [← hL]; exact List.mem_map_of_mem hr
              obtain ⟨r2, h2, h3⟩ := List.mem_map.1 h1
              rw [← h3]
              have := (h7s r2 h2).1
              omega)
            obtain ⟨nm, hnm⟩ : ∃ n, ml.length = n := ⟨_, rfl⟩
            have HNM := Lib.hid hnm
            have HGN := Lib.hid (show ∀ L : List OpR, OpR.os L = OpR.os ml → ∀ r ∈ L, r.o.gone.length ≤ 1000000 from fun L hL r hr => by
              have h1 : r.o ∈ OpR.os ml := by rw [← hL]; exact List.mem_map_of_mem hr
              obtain ⟨r2, h2, h3⟩ := List.mem_map.1 h1
              rw [← h3]
              have := (h7s r2 h2).2
              omega)
            have HCO := Lib.hid hco
            have HRR := Lib.hid hrr
            rw [hnm] at cg2 HCG HCO HRR h7l h7c
            obtain ⟨cg0, hg0⟩ := HCG.out _ hb
            clear hco hrr h7 h7a h7s hnm h7c cg2
            by_cases hrow : rowP (OpR.os ml)
            · -- @G
              have HROW := Lib.hid hrow
              rw [show rowB (OpR.os ml) = true from (rowB_iff _).2 hrow] at HRR
              clear hrow
              obtain ⟨XO, hxo⟩ : ∃ X, ordE (OpR.os ml) = X := ⟨_, rfl⟩
              have HXO := Lib.hid hxo
              have hn5 : XO.length ≤ 200 := by
                have h1 := (row_inv HROW.out.2 _ (Nat.le_refl _)).len
                rw [List.take_length] at h1
                have h2 := row_tot HROW.out.2
                rw [← hxo]
                unfold ordE
                rw [List.length_map]
                omega
              obtain ⟨n5, hx5⟩ : ∃ n, XO.length = n := ⟨_, rfl⟩
              have HN5 := Lib.hid hx5
              rw [hx5] at hn5
              clear hxo hx5
              go_wp2_with (first
                | (go_at_call 11; refine HCO.out.mono ?_; rintro x3 w3 ⟨v3, L3, rfl, hown3, hos3, hb3⟩; have hl3 : L3.length = nm := (by have h := congrArg List.length hos3; rw [os_len, os_len, HNM.out] at h; exact h); obtain ⟨a3, c3, rfl, hat3, hc3⟩ := hown3.ops (by unfold BIG; omega); rw [hl3]; have HLL := Lib.hid hl3; have HAT3 := Lib.hid hat3; have HOS3 := Lib.hid hos3; have HB3 := Lib.hid (HBQ.out.trans (hb3.mono HBQ.out.size)); have HM3 := Lib.hid (HAT.out.below hb3); obtain ⟨cg3, hg3⟩ := HCG.out _ HB3.out; clear hown3 hat3 hos3 hb3 hl3 hc3)
                | (go_at_call 12; refine (HRR.out w3 HB3.out HM3.out).mono ?_; rintro x4 w4 ⟨rfl, hb4⟩; have HB4 := Lib.hid hb4; clear hb4)
                | (go_at_call 13; have ho := tOrder_ok a3 c3 L3 w4 (HAT3.out.below HB4.out) (by rw [HOS3.out]; exact HROW.out); unfold OrdPost at ho; rw [HLL.out, HOS3.out, HXO.out] at ho; refine ho.mono ?_; rintro x5 w5 ⟨v5, rfl, hown5, hb5⟩; obtain ⟨a5, c5, hv5, he5, _⟩ := elems_own hown5; rw [HN5.out] at hown5 hv5; subst hv5; have HE5 := Lib.hid he5; have HOW5 := Lib.hid hown5; have HB45 := Lib.hid hb5; have HB5 := Lib.hid (HB4.out.trans (hb5.mono HB4.out.size)); clear hown5 he5 hb5 ho)
                | (go_at_call 14; have ho := rOrder_any a3 c3 L3 w5 (HTB.out _ (HTW.out _ (HB3.out.trans (HB5.out.mono HB3.out.size)))) (HSZ.out L3 HOS3.out) (HAT3.out.below HB5.out) (by rw [HOS3.out]; exact HROW.out); rw [HLL.out, HOS3.out, HXO.out] at ho; refine ho.mono ?_; rintro x6 w6 ⟨v6, rfl, hown6, hb6⟩; obtain ⟨a6, c6, hv6, he6, _⟩ := elems_own hown6; rw [HN5.out] at hv6; subst hv6; have HE6 := Lib.hid he6; have HB56 := Lib.hid hb6; have HB6 := Lib.hid (HB5.out.trans (hb6.mono HB5.out.size)); clear hown6 he6 hb6 ho)
                | (go_at_call 16; have ho := tCheck_any a3 c3 L3 w6 (HAT3.out.below HB6.out); rw [HLL.out, show errO (rowB (OpR.os L3)) = 0 from by (rw [HOS3.out, (rowB_iff _).2 HROW.out]; rfl)] at ho; refine ho.mono ?_; rintro x7 w8 ⟨rfl, hb8⟩; have HB68 := Lib.hid hb8; have HB8 := Lib.hid (HB6.out.trans (hb8.mono HB6.out.size)); clear hb8 ho)
                | (go_at_call 15; refine (num_same _ _).mono ?_; rintro x7 w7 ⟨rfl, h7⟩; have h7s := h7.symm; clear h7; subst h7s)
                | (go_at_call 17; have ho := EqElems_any a5 a6 c5 c6 XO XO w8 ((HE5.out.below HB56.out).below HB68.out) (HE6.out.below HB68.out) (by rw [HN5.out]; omega) (by rw [HN5.out]; omega); rw [HN5.out, decide_eq_true (rfl : XO = XO)] at ho; refine ho.mono ?_; rintro x8 w81 ⟨rfl, hb9⟩; have HB89 := Lib.hid hb9; have HB81 := Lib.hid (HB8.out.trans (hb9.mono HB8.out.size)); obtain ⟨e0, e1, e2, e3, hel, heW⟩ := HXX.out _ (HSW.out _ (HB3.out.trans (HB81.out.mono HB3.out.size))); clear hb9 ho)
                | (go_at_call 18; have ho := HEL5.out a3 c3 L3 w81 heW (HAT3.out.below HB81.out) HLT.out.1; rw [HLL.out] at ho; refine ho.mono ?_; rintro x9 w9 ⟨X, hX, v9, rfl, hown9, hb9⟩; obtain ⟨a9, c9, hv9, he9, _⟩ := elems_own hown9; subst hv9; have HE9 := Lib.hid he9; have HB819 := Lib.hid hb9; have HB9 := Lib.hid (HB81.out.trans (hb9.mono HB81.out.size)); clear hown9 hb9 he9 ho)
                | fail)
              obtain ⟨nx, hnx⟩ : ∃ n, X.length = n := ⟨_, rfl⟩
              have HNX := Lib.hid hnx
              rw [hnx] at hX ⊢
              have HE6Z := Lib.hid (fun (wx : World) (hx : Below w9.heap.size w9 wx) => ((((HE6.out.below HB68.out).below HB89.out).below HB819.out).below hx))
              have HB49 := Lib.hid (show Below w4.heap.size w4 w9 from by
                have h1 := HB45.out
                have h2 := h1.trans (HB56.out.mono h1.size)
                have h3 := h2.trans (HB68.out.mono h2.size)
                have h4 := h3.trans (HB89.out.mono h3.size)
                exact h4.trans (HB819.out.mono h4.size))
              have HOW9 := Lib.hid (owns_belE (owns_belE (owns_belE (owns_belE HOW5.out HB56.out) HB68.out) HB89.out) HB819.out)
              clear hnx e0 e1 e2 e3 hel heW cg3 hg3 cg0 hg0 HEL5
              go_loopw [13] (fun s13 wr => ∃ k : Nat, s13 = .int .i64 k ∧ k ≤ nx ∧ Below w9.heap.size w9 wr) (fun s13 _ => nx - (RowKit.intOf s13).toNat)
              case atStart => exact ⟨0, rfl, Nat.zero_le _, Below.refl _ _⟩
              case round =>
                obtain ⟨k, rfl, hk, hbk⟩ := hrel
                have HBK := Lib.hid hbk
                have HB3K := Lib.hid (HB9.out.trans (hbk.mono HB9.out.size))
                by_cases hcond : k < nx ∧ (q : Int) < 2
                · obtain ⟨hkx, hq2⟩ := hcond
                  have hkl : k < X.length := by rw [HNX.out]; exact hkx
                  have hd0 : decide ((k : Int) < (nx : Int)) = true := decide_eq_true (by omega)
                  have hd1 : decide ((q : Int) < 2) = true := decide_eq_true hq2
                  obtain ⟨b7, off7, rfl, hb7, y0, y1, y2⟩ := HE9.out.cell k hkl
                  generalize X[k] = e at *
                  clear hkl
                  have hrow3 : rowP (OpR.os L3) := by rw [HOS3.out]; exact HROW.out
                  have hxo3 : ordE (OpR.os L3) = XO := by rw [HOS3.out]; exact HXO.out
                  have hkids : (unE (OpR.os L3) e).length ≤ 1000 := by
                    unfold unE
                    rw [List.length_map]
                    refine Nat.le_trans (kids_length _ _) ?_
                    have h1 : (ordT (OpR.os L3)).length = XO.length := by rw [← hxo3]; unfold ordE; rw [List.length_map]
                    rw [h1, HN5.out]
                    omega
                  have HWR := Lib.hid (fun (wx : World) (hx : Below w3.heap.size w3 wx) => Written_any a3 c3 L3 e wx (HTB.out _ (HTW.out _ (HB3.out.trans (hx.mono HB3.out.size)))) (HSZ.out L3 HOS3.out) (HAT3.out.below hx))
                  have HRU := Lib.hid (fun (wx : World) (hx : Below w3.heap.size w3 wx) => rUnder_any a3 c3 L3 e wx (HTB.out _ (HTW.out _ (HB3.out.trans (hx.mono HB3.out.size)))) (HSZ.out L3 HOS3.out) (HAT3.out.below hx) (by rw [HLL.out]; omega))
                  have HATP := Lib.hid (fun (wx : World) (hx : Below w9.heap.size w9 wx) => At_any a6 c6 XO e wx (HE6Z.out wx hx) (by rw [HN5.out]; omega))
                  have HPA := Lib.hid (fun (wx : World) (hx : Below w3.heap.size w3 wx) => tPlace_at a3 c3 L3 e wx (HAT3.out.below hx) hrow3)
                  have HPN := Lib.hid (fun (wx : World) (hx : Below w3.heap.size w3 wx) => tPlace_no a3 c3 L3 e wx (HAT3.out.below hx) hrow3)
                  have HUO := Lib.hid (fun (wx : World) (hx : Below w3.heap.size w3 wx) => tUnder_ok a3 c3 L3 e wx (HAT3.out.below hx) hrow3)
                  have HUX := Lib.hid (fun (wx : World) (hx : Below w3.heap.size w3 wx) => tUnder_none a3 c3 L3 e wx (HAT3.out.below hx) hrow3)
                  have HUP := Lib.hid (fun he => undP_eq (l := OpR.os L3) hrow3.2 (e := e) he)
                  have HORD := Lib.hid (fun he => ord_i (l := OpR.os L3) hrow3.2 (e := e) he)
                  have HWO := Lib.hid (fun hb => wrt_ord (l := OpR.os L3) hrow3 (e := e) hb)
                  rw [hxo3] at HPA HPN HUO HUX HUP HORD HWO
                  rw [HLL.out] at HWR HRU HPA HPN HUO HUX
                  rw [HN5.out] at HATP
                  have hz0 : e ∈ XO → 0 ≤ atI XO e := atI_pos
                  have hz1 : e ∉ XO → atI XO e = -1 := atI_neg
                  have hz2 : atI XO e ≤ 200 := by have := atI_le (l := XO) (e := e); rw [HN5.out] at this; omega
                  clear hrow3 hxo3
                  generalize unE (OpR.os L3) e = U at *
                  generalize wrt (OpR.os L3) e = wb at *
                  generalize undP (OpR.os L3) e = UP at *
                  obtain ⟨nu, hnu⟩ : ∃ n, U.length = n := ⟨_, rfl⟩
                  have HNU := Lib.hid hnu
                  rw [hnu] at hkids
                  clear hnu
                  have hsp := el_split e B0
                  have hbg := begin_iff e
                  obtain ⟨es, eq, ei⟩ := e
                  simp only at y0 y1 y2
                  have HY := Lib.hid (fun (wx : World) (hx : Below w9.heap.size w9 wx) => And.intro ((hx.cell (p := ⟨b7, off7 + k * 3, none⟩) hb7).trans y0) (And.intro ((hx.cell (p := ⟨b7, off7 + k * 3 + 1, none⟩) hb7).trans y1) (And.intro ((hx.cell (p := ⟨b7, off7 + k * 3 + 2, none⟩) hb7).trans y2) (Nat.lt_of_lt_of_le hb7 hx.size))))
                  obtain ⟨z0, z1, z2, zl⟩ := HY.out wr hbk
                  unfold B0 at hsp hbg HUP
                  simp only at hsp
                  clear y0 y1 y2 hbk
                  by_cases hm : (⟨es, eq, ei⟩ : El) ∈ XO
                  · -- in the order
                    have hz3 := hz0 hm
                    obtain ⟨hi0, hi1, hbf⟩ := HORD.out hm
                    have hwb : wb = true := (HWO.out hbf).trans (decide_eq_true hm)
                    have hup := HUP.out (.inr hm)
                    have HPA2 := Lib.hid (fun wx hx => HPA.out wx hx hm)
                    have HUO2 := Lib.hid (fun wx hx => HUO.out wx hx (by rw [decide_eq_true hm]; simp))
                    have hi1b : ei ≤ 12 := hi1
                    have HRU2 := Lib.hid (fun wx hx => HRU.out wx hx hi0 (show ei ≤ 1000 from by omega))
                    rw [hbf, hwb] at HWR
                    simp only [Bool.not_false, Bool.true_and] at HWR
                    have hne : ¬ (⟨es, eq, ei⟩ : El) = ⟨0, 0, 0⟩ := fun h => by rw [hbg.2 h] at hbf; cases hbf
                    rw [hup] at HRU2
                    unfold El.v at HPA2 HUO2 HRU2 HWR HATP
                    unfold UndOk at HUO2
                    unfold OwnPost at HRU2
                    simp only at HPA2 HUO2 HRU2 HWR HATP
                    generalize atI XO ⟨es, eq, ei⟩ = z at *
                    clear HPA HPN HUO HUX HUP HORD HWO HRU hz0 hz1 hup hbg hbf hm
                    rcases hsp with ⟨h0, _⟩ | ⟨_, hzz⟩
                    · exact absurd h0 hne
                    clear hne
                    rcases hzz with v0 | ⟨v0, v1⟩ | ⟨v0, v1, v2⟩
                    all_goals
                      try subst v0
                      try subst v1
                      go_wp2_with (first
                        | (go_at_call 19; refine (HPA2.out _ HB3K.out).mono ?_; rintro x10 w10 ⟨rfl, hb10⟩; have HB10 := Lib.hid (HBK.out.trans (hb10.mono HBK.out.size)); obtain ⟨u0, u1, u2, ul⟩ := HY.out _ HB10.out; clear hb10)
                        | (go_at_call 20; refine (HUO2.out _ (HB9.out.trans (HB10.out.mono HB9.out.size))).mono ?_; rintro x11 w11 ⟨v11, rfl, hown11, hb11⟩; obtain ⟨a11, c11, hv11, he11, _⟩ := elems_own hown11; rw [HNU.out] at hv11; subst hv11; have HE11 := Lib.hid he11; have HB11 := Lib.hid (HB10.out.trans (hb11.mono HB10.out.size)); obtain ⟨t0, t1, t2, tl⟩ := HY.out _ HB11.out; clear hb11 hown11 he11)
                        | (go_at_call 21; refine (HATP.out _ HB11.out).mono ?_; rintro x12 w12 ⟨rfl, hb12⟩; have HB12 := Lib.hid (HB11.out.trans (hb12.mono HB11.out.size)); have HE12 := Lib.hid (HE11.out.below hb12); obtain ⟨s0, s1, s2, sl⟩ := HY.out _ HB12.out; clear hb12)
                        | (go_at_call 22; refine (HWR.out _ (HB9.out.trans (HB12.out.mono HB9.out.size))).mono ?_; rintro x13 w13 ⟨rfl, hb13⟩; have HB13 := Lib.hid (HB12.out.trans (hb13.mono HB12.out.size)); have HE13 := Lib.hid (HE12.out.below hb13); obtain ⟨r0, r1, r2, rl0⟩ := HY.out _ HB13.out; clear hb13)
                        | (go_at_call 23; refine (HRU2.out _ (HB9.out.trans (HB13.out.mono HB9.out.size))).mono ?_; rintro x14 w14 ⟨v14, rfl, hown14, hb14⟩; obtain ⟨a14, c14, hv14, he14, _⟩ := elems_own hown14; rw [HNU.out] at hv14; subst hv14; have HE14 := Lib.hid he14; have HE15 := Lib.hid (HE13.out.below hb14); have HB14 := Lib.hid (HB13.out.trans (hb14.mono HB13.out.size)); clear hb14 hown14 he14)
                        | (go_at_call 15; refine (num_same _ _).mono ?_; rintro x7 w7 ⟨rfl, h7⟩; have h7s := h7.symm; clear h7; subst h7s)
                        | (go_at_call 17; have ho := EqElems_any a11 a14 c11 c14 U U w14 HE15.out HE14.out (by rw [HNU.out]; omega) (by rw [HNU.out]; omega); rw [HNU.out, decide_eq_true (rfl : U = U)] at ho; refine ho.mono ?_; rintro x15 w15 ⟨rfl, hb15⟩; have HB15 := Lib.hid (HB14.out.trans (hb15.mono HB14.out.size)); clear hb15 ho)
                        | fail)
                      go_roundw
                      case rel => exact ⟨k + 1, by go_num, by omega, HB15.out⟩
                      case measure => simp [RowKit.intOf]; omega
                  · have hz3 := hz1 hm
                    have HPN2 := Lib.hid (fun wx hx => HPN.out wx hx hm)
                    rcases hsp with ⟨h0, v0, v1, v2⟩ | ⟨hne, hzz⟩
                    · -- the begin
                      have hup := HUP.out (.inl h0)
                      have HUO2 := Lib.hid (fun wx hx => HUO.out wx hx (by rw [hbg.2 h0]; rfl))
                      subst v0 v1 v2
                      have HRU2 := Lib.hid (fun wx hx => HRU.out wx hx (Int.le_refl 0) (show (0 : Int) ≤ 1000 from by omega))
                      rw [hup] at HRU2
                      rw [hz3] at HATP
                      unfold El.v at HPN2 HUO2 HRU2 HATP
                      unfold UndOk at HUO2
                      unfold OwnPost at HRU2
                      simp only at HPN2 HUO2 HRU2 HATP
                      clear HPA HPN HUO HUX HUP HORD HWO HRU HWR hz0 hz1 hz2 hz3 hup hbg hm h0
                      go_wp2_with (first
                        | (go_at_call 19; refine (HPN2.out _ HB3K.out).mono ?_; rintro x10 w10 ⟨rfl, hb10⟩; have HB10 := Lib.hid (HBK.out.trans (hb10.mono HBK.out.size)); obtain ⟨u0, u1, u2, ul⟩ := HY.out _ HB10.out; clear hb10)
                        | (go_at_call 20; refine (HUO2.out _ (HB9.out.trans (HB10.out.mono HB9.out.size))).mono ?_; rintro x11 w11 ⟨v11, rfl, hown11, hb11⟩; obtain ⟨a11, c11, hv11, he11, _⟩ := elems_own hown11; rw [HNU.out] at hv11; subst hv11; have HE11 := Lib.hid he11; have HB11 := Lib.hid (HB10.out.trans (hb11.mono HB10.out.size)); obtain ⟨t0, t1, t2, tl⟩ := HY.out _ HB11.out; clear hb11 hown11 he11)
                        | (go_at_call 21; refine (HATP.out _ HB11.out).mono ?_; rintro x12 w12 ⟨rfl, hb12⟩; have HB12 := Lib.hid (HB11.out.trans (hb12.mono HB11.out.size)); have HE12 := Lib.hid (HE11.out.below hb12); obtain ⟨s0, s1, s2, sl⟩ := HY.out _ HB12.out; clear hb12)
                        | (go_at_call 23; refine (HRU2.out _ (HB9.out.trans (HB12.out.mono HB9.out.size))).mono ?_; rintro x14 w14 ⟨v14, rfl, hown14, hb14⟩; obtain ⟨a14, c14, hv14, he14, _⟩ := elems_own hown14; rw [HNU.out] at hv14; subst hv14; have HE14 := Lib.hid he14; have HE15 := Lib.hid (HE12.out.below hb14); have HB14 := Lib.hid (HB12.out.trans (hb14.mono HB12.out.size)); clear hb14 hown14 he14)
                        | (go_at_call 15; refine (num_same _ _).mono ?_; rintro x7 w7 ⟨rfl, h7⟩; have h7s := h7.symm; clear h7; subst h7s)
                        | (go_at_call 17; have ho := EqElems_any a11 a14 c11 c14 U U w14 HE15.out HE14.out (by rw [HNU.out]; omega) (by rw [HNU.out]; omega); rw [HNU.out, decide_eq_true (rfl : U = U)] at ho; refine ho.mono ?_; rintro x15 w15 ⟨rfl, hb15⟩; have HB15 := Lib.hid (HB14.out.trans (hb15.mono HB14.out.size)); clear hb15 ho)
                        | fail)
                      go_roundw
                      case rel => exact ⟨k + 1, by go_num, by omega, HB15.out⟩
                      case measure => simp [RowKit.intOf]; omega
                    · -- nothing that is written
                      have hbf : (⟨es, eq, ei⟩ : El).begin = false := by
                        cases hh : (⟨es, eq, ei⟩ : El).begin with
                        | false => rfl
                        | true => exact absurd (hbg.1 hh) hne
                      have hwb : wb = false := (HWO.out hbf).trans (decide_eq_false hm)
                      have HUX2 := Lib.hid (fun wx hx => HUX.out wx hx (by rw [decide_eq_false hm, hbf]; rfl))
                      rw [hbf, hwb] at HWR
                      simp only [Bool.not_false, Bool.true_and] at HWR
                      rw [hz3] at HATP
                      unfold El.v at HPN2 HUX2 HWR HATP
                      unfold UndNo at HUX2
                      simp only at HPN2 HUX2 HWR HATP
                      clear HPA HPN HUO HUX HUP HORD HWO HRU hz0 hz1 hz2 hz3 hbg hbf hm hne
                      rcases hzz with v0 | ⟨v0, v1⟩ | ⟨v0, v1, v2⟩
                      all_goals
                        try subst v0
                        try subst v1
                        go_wp2_with (first
                          | (go_at_call 19; refine (HPN2.out _ HB3K.out).mono ?_; rintro x10 w10 ⟨rfl, hb10⟩; have HB10 := Lib.hid (HBK.out.trans (hb10.mono HBK.out.size)); obtain ⟨u0, u1, u2, ul⟩ := HY.out _ HB10.out; clear hb10)
                          | (go_at_call 20; refine (HUX2.out _ (HB9.out.trans (HB10.out.mono HB9.out.size))).mono ?_; rintro x11 w11 ⟨rfl, hb11⟩; have HB11 := Lib.hid (HB10.out.trans (hb11.mono HB10.out.size)); obtain ⟨t0, t1, t2, tl⟩ := HY.out _ HB11.out; clear hb11)
                          | (go_at_call 21; refine (HATP.out _ HB11.out).mono ?_; rintro x12 w12 ⟨rfl, hb12⟩; have HB12 := Lib.hid (HB11.out.trans (hb12.mono HB11.out.size)); obtain ⟨s0, s1, s2, sl⟩ := HY.out _ HB12.out; clear hb12)
                          | (go_at_call 22; refine (HWR.out _ (HB9.out.trans (HB12.out.mono HB9.out.size))).mono ?_; rintro x13 w13 ⟨rfl, hb13⟩; have HB13 := Lib.hid (HB12.out.trans (hb13.mono HB12.out.size)); clear hb13)
                          | (go_at_call 15; refine (num_same _ _).mono ?_; rintro x7 w7 ⟨rfl, h7⟩; have h7s := h7.symm; clear h7; subst h7s)
                          | (go_at_call 17; have ho := EqElems_any none none 0 0 [] [] w13 (ElemsAt.nil none) (ElemsAt.nil none) (by simp) (by simp); refine ho.mono ?_; rintro x15 w15 ⟨rfl, hb15⟩; have HB15 := Lib.hid (HB13.out.trans (hb15.mono HB13.out.size)); clear hb15 ho)
                          | fail)
                        go_roundw
                        case rel => exact ⟨k + 1, by go_num, by omega, HB15.out⟩
                        case measure => simp [RowKit.intOf]; omega
                · have HOW5K := Lib.hid (owns_belE HOW9.out hbk)
                  have HB4K := Lib.hid (HB49.out.trans (hbk.mono HB49.out.size))
                  have HSP := Lib.hid (Spoil_own a5 c5 n5 w4.heap.size w4.heap.size (ecs XO) w4 wr HOW5K.out (Nat.le_refl _) HB4K.out (by omega))
                  clear hbk
                  by_cases hkx : k < nx
                  · have hd0 : decide ((k : Int) < (nx : Int)) = true := decide_eq_true (by omega)
                    have hd1 : decide ((q : Int) < 2) = false := decide_eq_false (fun h => hcond ⟨hkx, h⟩)
                    go_wp2_with (first
                      | (go_at_call 24; refine HSP.out.mono ?_; rintro x10 w10 ⟨rfl, hb10⟩; have HB10 := Lib.hid (HB4.out.trans (hb10.mono HB4.out.size)); obtain ⟨cg4, hg4⟩ := HCG.out _ (HB3.out.trans (HB10.out.mono HB3.out.size)); clear hb10)
                      | (go_at_call 25; have ho := EqOps_yes a3 ma c3 mc L3 ml w10 (HAT3.out.below HB10.out) (HM3.out.below HB10.out) HOS3.out (HGN.out L3 HOS3.out) (by rw [HLL.out]; omega); rw [HLL.out, HNM.out] at ho; refine ho.mono ?_; rintro x11 w11 ⟨rfl, hb11⟩; have HB11 := Lib.hid (HB10.out.trans (hb11.mono HB10.out.size)); clear hb11 ho)
                      | fail)
                    go_roundw
                    case rel => exact ⟨q + 1, by go_num, by omega, HB3.out.trans (HB11.out.mono HB3.out.size)⟩
                    case measure => simp [RowKit.intOf]; omega
                  · have hd0 : decide ((k : Int) < (nx : Int)) = false := decide_eq_false (by omega)
                    go_wp2_with (first
                      | (go_at_call 24; refine HSP.out.mono ?_; rintro x10 w10 ⟨rfl, hb10⟩; have HB10 := Lib.hid (HB4.out.trans (hb10.mono HB4.out.size)); obtain ⟨cg4, hg4⟩ := HCG.out _ (HB3.out.trans (HB10.out.mono HB3.out.size)); clear hb10)
                      | (go_at_call 25; have ho := EqOps_yes a3 ma c3 mc L3 ml w10 (HAT3.out.below HB10.out) (HM3.out.below HB10.out) HOS3.out (HGN.out L3 HOS3.out) (by rw [HLL.out]; omega); rw [HLL.out, HNM.out] at ho; refine ho.mono ?_; rintro x11 w11 ⟨rfl, hb11⟩; have HB11 := Lib.hid (HB10.out.trans (hb11.mono HB10.out.size)); clear hb11 ho)
                      | fail)
                    go_roundw
                    case rel => exact ⟨q + 1, by go_num, by omega, HB3.out.trans (HB11.out.mono HB3.out.size)⟩
                    case measure => simp [RowKit.intOf]; omega
              -- @G end
            · -- @B
              have HNR := Lib.hid hrow
              rw [show rowB (OpR.os ml) = false from by cases h : rowB (OpR.os ml) with | false => rfl | true => exact absurd ((rowB_iff _).1 h) hrow] at HRR
              clear hrow
              go_wp2_with (first
                | (go_at_call 11; refine HCO.out.mono ?_; rintro x3 w3 ⟨v3, L3, rfl, hown3, hos3, hb3⟩; have hl3 : L3.length = nm := (by have h := congrArg List.length hos3; rw [os_len, os_len, HNM.out] at h; exact h); obtain ⟨a3, c3, rfl, hat3, hc3⟩ := hown3.ops (by unfold BIG; omega); rw [hl3]; have HLL := Lib.hid hl3; have HAT3 := Lib.hid hat3; have HOS3 := Lib.hid hos3; have HB3 := Lib.hid (HBQ.out.trans (hb3.mono HBQ.out.size)); have HM3 := Lib.hid (HAT.out.below hb3); obtain ⟨cg3, hg3⟩ := HCG.out _ HB3.out; clear hown3 hat3 hos3 hb3 hl3 hc3)
                | (go_at_call 12; refine (HRR.out w3 HB3.out HM3.out).mono ?_; rintro x4 w4 ⟨rfl, hb4⟩; have HB4 := Lib.hid hb4; clear hb4)
                | (go_at_call 13; have ho := tOrder_bad a3 c3 L3 w4 (HAT3.out.below HB4.out) (by rw [HOS3.out]; exact HNR.out); rw [HLL.out] at ho; refine ho.mono ?_; rintro x5 w5 ⟨rfl, hb5⟩; have HB5 := Lib.hid (HB4.out.trans (hb5.mono HB4.out.size)); clear hb5 ho)
                | (go_at_call 16; have ho := tCheck_any a3 c3 L3 w5 (HAT3.out.below HB5.out); rw [HLL.out, show errO (rowB (OpR.os L3)) = 1 from by (rw [HOS3.out]; cases h : rowB (OpR.os ml) with | false => rfl | true => exact absurd ((rowB_iff _).1 h) HNR.out)] at ho; refine ho.mono ?_; rintro x6 w6 ⟨rfl, hb6⟩; have HB6 := Lib.hid (HB5.out.trans (hb6.mono HB5.out.size)); clear hb6 ho)
                | (go_at_call 15; refine (num_same _ _).mono ?_; rintro x7 w7 ⟨rfl, h7⟩; have h7s := h7.symm; clear h7; subst h7s)
                | (go_at_call 17; have ho := EqElems_any none none 0 0 [] [] w6 (ElemsAt.nil none) (ElemsAt.nil none) (by simp) (by simp); refine ho.mono ?_; rintro x8 w8 ⟨rfl, hb8⟩; have HB8 := Lib.hid (HB6.out.trans (hb8.mono HB6.out.size)); obtain ⟨e0, e1, e2, e3, hel, heW⟩ := HXX.out _ (HSW.out _ (HB3.out.trans (HB8.out.mono HB3.out.size))); clear hb8 ho)
                | (go_at_call 18; have ho := HEL5.out a3 c3 L3 w8 heW (HAT3.out.below HB8.out) HLT.out.1; rw [HLL.out] at ho; refine ho.mono ?_; rintro x9 w9 ⟨X, hX, v9, rfl, hown9, hb9⟩; obtain ⟨a9, c9, hv9, he9, _⟩ := elems_own hown9; subst hv9; have HE9 := Lib.hid he9; have HB9 := Lib.hid (HB8.out.trans (hb9.mono HB8.out.size)); clear hown9 hb9 he9 ho)
                | fail)
              obtain ⟨nx, hnx⟩ : ∃ n, X.length = n := ⟨_, rfl⟩
              have HNX := Lib.hid hnx
              rw [hnx] at hX ⊢
              clear hnx e0 e1 e2 e3 hel heW cg3 hg3 cg0 hg0 HEL5
              go_loopw [13] (fun s13 wr => ∃ k : Nat, s13 = .int .i64 k ∧ k ≤ nx ∧ Below w9.heap.size w9 wr) (fun s13 _ => nx - (RowKit.intOf s13).toNat)
              case atStart => exact ⟨0, rfl, Nat.zero_le _, Below.refl _ _⟩
              case round =>
                obtain ⟨k, rfl, hk, hbk⟩ := hrel
                have HBK := Lib.hid hbk
                have HB3K := Lib.hid (HB9.out.trans (hbk.mono HB9.out.size))
                by_cases hcond : k < nx ∧ (q : Int) < 2
                · obtain ⟨hkx, hq2⟩ := hcond
                  have hkl : k < X.length := by rw [HNX.out]; exact hkx
                  have hd0 : decide ((k : Int) < (nx : Int)) = true := decide_eq_true (by omega)
                  have hd1 : decide ((q : Int) < 2) = true := decide_eq_true hq2
                  obtain ⟨b7, off7, rfl, hb7, y0, y1, y2⟩ := HE9.out.cell k hkl
                  generalize X[k] = e at *
                  clear hkl
                  obtain ⟨es, eq, ei⟩ := e
                  simp only at y0 y1 y2
                  have HY := Lib.hid (fun (wx : World) (hx : Below w9.heap.size w9 wx) => And.intro ((hx.cell (p := ⟨b7, off7 + k * 3, none⟩) hb7).trans y0) (And.intro ((hx.cell (p := ⟨b7, off7 + k * 3 + 1, none⟩) hb7).trans y1) (And.intro ((hx.cell (p := ⟨b7, off7 + k * 3 + 2, none⟩) hb7).trans y2) (Nat.lt_of_lt_of_le hb7 hx.size))))
                  obtain ⟨z0, z1, z2, zl⟩ := HY.out wr hbk
                  clear y0 y1 y2 hbk
                  have HPL := Lib.hid (fun (wx : World) (hx : Below w3.heap.size w3 wx) => tPlace_bad a3 c3 L3 ⟨es, eq, ei⟩ wx (HAT3.out.below hx) (by rw [HOS3.out]; exact HNR.out))
                  have HUN := Lib.hid (fun (wx : World) (hx : Below w3.heap.size w3 wx) => tUnder_bad a3 c3 L3 ⟨es, eq, ei⟩ wx (HAT3.out.below hx) (by rw [HOS3.out]; exact HNR.out))
                  unfold El.v at HPL HUN
                  simp only [HLL.out] at HPL HUN
                  go_wp2_with (first
                    | (go_at_call 19; refine (HPL.out _ HB3K.out).mono ?_; rintro x10 w10 ⟨rfl, hb10⟩; have HB10 := Lib.hid (HBK.out.trans (hb10.mono HBK.out.size)); obtain ⟨u0, u1, u2, ul⟩ := HY.out _ HB10.out; clear hb10)
                    | (go_at_call 20; refine (HUN.out _ (HB9.out.trans (HB10.out.mono HB9.out.size))).mono ?_; rintro x11 w11 ⟨rfl, hb11⟩; have HB11 := Lib.hid (HB10.out.trans (hb11.mono HB10.out.size)); clear hb11)
                    | (go_at_call 15; refine (num_same _ _).mono ?_; rintro x7 w7 ⟨rfl, h7⟩; have h7s := h7.symm; clear h7; subst h7s)
                    | (go_at_call 17; have ho := EqElems_any none none 0 0 [] [] w11 (ElemsAt.nil none) (ElemsAt.nil none) (by simp) (by simp); refine ho.mono ?_; rintro x12 w12 ⟨rfl, hb12⟩; have HB12 := Lib.hid (HB11.out.trans (hb12.mono HB11.out.size)); clear hb12 ho)
                    | fail)
                  go_roundw
                  case rel => exact ⟨k + 1, by go_num, by omega, HB12.out⟩
                  case measure => simp [RowKit.intOf]; omega
                · skip
                  have HSP := Lib.hid (Spoil_own none 0 0 wr.heap.size wr.heap.size [] wr wr (World.ownsRow_nil _ _ _ _) (Nat.le_refl _) (Below.refl _ _) (by omega))
                  clear hbk
                  by_cases hkx : k < nx
                  · have hd0 : decide ((k : Int) < (nx : Int)) = true := decide_eq_true (by omega)
                    have hd1 : decide ((q : Int) < 2) = false := decide_eq_false (fun h => hcond ⟨hkx, h⟩)
                    go_wp2_with (first
                      | (go_at_call 24; refine HSP.out.mono ?_; rintro x10 w10 ⟨rfl, hb10⟩; have HB10 := Lib.hid (HB3K.out.trans (hb10.mono HB3K.out.size)); obtain ⟨cg4, hg4⟩ := HCG.out _ (HB3.out.trans (HB10.out.mono HB3.out.size)); clear hb10)
                      | (go_at_call 25; have ho := EqOps_yes a3 ma c3 mc L3 ml w10 (HAT3.out.below HB10.out) (HM3.out.below HB10.out) HOS3.out (HGN.out L3 HOS3.out) (by rw [HLL.out]; omega); rw [HLL.out, HNM.out] at ho; refine ho.mono ?_; rintro x11 w11 ⟨rfl, hb11⟩; have HB11 := Lib.hid (HB10.out.trans (hb11.mono HB10.out.size)); clear hb11 ho)
                      | fail)
                    go_roundw
                    case rel => exact ⟨q + 1, by go_num, by omega, HB3.out.trans (HB11.out.mono HB3.out.size)⟩
                    case measure => simp [RowKit.intOf]; omega
                  · have hd0 : decide ((k : Int) < (nx : Int)) = false := decide_eq_false (by omega)
                    go_wp2_with (first
                      | (go_at_call 24; refine HSP.out.mono ?_; rintro x10 w10 ⟨rfl, hb10⟩; have HB10 := Lib.hid (HB3K.out.trans (hb10.mono HB3K.out.size)); obtain ⟨cg4, hg4⟩ := HCG.out _ (HB3.out.trans (HB10.out.mono HB3.out.size)); clear hb10)
                      | (go_at_call 25; have ho := EqOps_yes a3 ma c3 mc L3 ml w10 (HAT3.out.below HB10.out) (HM3.out.below HB10.out) HOS3.out (HGN.out L3 HOS3.out) (by rw [HLL.out]; omega); rw [HLL.out, HNM.out] at ho; refine ho.mono ?_; rintro x11 w11 ⟨rfl, hb11⟩; have HB11 := Lib.hid (HB10.out.trans (hb11.mono HB10.out.size)); clear hb11 ho)
                      | fail)
                    go_roundw
                    case rel => exact ⟨q + 1, by go_num, by omega, HB3.out.trans (HB11.out.mono HB3.out.size)⟩
                    case measure => simp [RowKit.intOf]; omega
              -- @B end
          · -- @C
            have HBZ := Lib.hid (HSW.out _ hb)
            clear hb
            go_wp2_with fail
            go_roundw
            case rel => exact ⟨i + 1, by go_num, by omega, HBZ.out⟩
            case measure => simp [RowKit.intOf]; omega
            -- @C end
      · have hd4 : decide ((i : Int) < 4) = false := decide_eq_false h4
        go_wp2_with (first | (go_at_call 26; refine (HWK.out _).mono ?_; rintro x2 w2 ⟨rfl, hb2⟩; have HB2 := Lib.hid (HBW.out.trans (hb2.mono HBW.out.size)); clear hb2) | fail)
        go_ret
        exact ⟨rfl, HB2.out⟩
    · have hd4 : decide ((i : Int) < (n0 : Int)) = false := decide_eq_false (by omega)
      go_wp2_with (first | (go_at_call 26; refine (HWK.out _).mono ?_; rintro x2 w2 ⟨rfl, hb2⟩; have HB2 := Lib.hid (HBW.out.trans (hb2.mono HBW.out.size)); clear hb2) | fail)
      go_ret
      exact ⟨rfl, HB2.out⟩
end Go.Proofs.YtjkgmpohddcgpaaGreatDoor
