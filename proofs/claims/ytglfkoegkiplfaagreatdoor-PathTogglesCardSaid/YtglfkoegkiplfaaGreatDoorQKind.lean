/- lectionarylaw10.kind: the walk that three laws share -/
import Derived.Test.YtglfkoegkiplfaaGreatDoorQRef
import Derived.Test.YtglfkoegkiplfaaGreatDoorQRepl
import Derived.Test.YtglfkoegkiplfaaGreatDoorYNear
import Derived.Test.YtglfkoegkiplfaaGreatDoorVArgs
namespace Go.Proofs.YtglfkoegkiplfaaGreatDoor
open Go.RowKit Go.Lib Go.Sort

theorem fill11 {w : World} {b : Nat} {t : TypeId} {z0 z1 z2 z3 z4 z5 z6 z7 z8 z9 za : Value} (h : w.heap[b]? = some (.cells #[z0, z1, z2, z3, z4, z5, z6, z7, z8, z9, za] t (0, 0))) (v0 v1 v2 v3 v4 v5 v6 v7 v8 v9 va : Value) :
    (((((((((((w.setCell ⟨b, 0, none⟩ v0).setCell ⟨b, 1, none⟩ v1).setCell ⟨b, 2, none⟩ v2).setCell ⟨b, 3, none⟩ v3).setCell ⟨b, 4, none⟩ v4).setCell ⟨b, 5, none⟩ v5).setCell ⟨b, 6, none⟩ v6).setCell ⟨b, 7, none⟩ v7).setCell ⟨b, 8, none⟩ v8).setCell ⟨b, 9, none⟩ v9).setCell ⟨b, 10, none⟩ va).heap[b]? = some (.cells #[v0, v1, v2, v3, v4, v5, v6, v7, v8, v9, va] t (0, 0)) := by
  unfold World.setCell
  simp [Array.getElem?_modify, h]
theorem below11 {B b : Nat} {w0 w : World} (h : Below B w0 w) (hB : B ≤ b) (v0 v1 v2 v3 v4 v5 v6 v7 v8 v9 va : Value) :
    Below B w0 (((((((((((w.setCell ⟨b, 0, none⟩ v0).setCell ⟨b, 1, none⟩ v1).setCell ⟨b, 2, none⟩ v2).setCell ⟨b, 3, none⟩ v3).setCell ⟨b, 4, none⟩ v4).setCell ⟨b, 5, none⟩ v5).setCell ⟨b, 6, none⟩ v6).setCell ⟨b, 7, none⟩ v7).setCell ⟨b, 8, none⟩ v8).setCell ⟨b, 9, none⟩ v9).setCell ⟨b, 10, none⟩ va) := by
  iterate 11 (refine Below.setCell ?_ hB _)
  exact h
theorem elems11 {b : Nat} {w : World} {a : Option Addr} {l : List El} (h : ElemsAt w a l) (hne : ∀ ad, a = some ad → ad.block ≠ b) (v0 v1 v2 v3 v4 v5 v6 v7 v8 v9 va : Value) :
    ElemsAt (((((((((((w.setCell ⟨b, 0, none⟩ v0).setCell ⟨b, 1, none⟩ v1).setCell ⟨b, 2, none⟩ v2).setCell ⟨b, 3, none⟩ v3).setCell ⟨b, 4, none⟩ v4).setCell ⟨b, 5, none⟩ v5).setCell ⟨b, 6, none⟩ v6).setCell ⟨b, 7, none⟩ v7).setCell ⟨b, 8, none⟩ v8).setCell ⟨b, 9, none⟩ v9).setCell ⟨b, 10, none⟩ va) a l := by
  iterate 11 (refine ElemsAt.setP ?_ hne)
  exact h
theorem cell11 {b b2 o2 : Nat} {u : Value} {w : World} (hne : b2 ≠ b) (h : w.cell? ⟨b2, o2, none⟩ = some u) (v0 v1 v2 v3 v4 v5 v6 v7 v8 v9 va : Value) :
    (((((((((((w.setCell ⟨b, 0, none⟩ v0).setCell ⟨b, 1, none⟩ v1).setCell ⟨b, 2, none⟩ v2).setCell ⟨b, 3, none⟩ v3).setCell ⟨b, 4, none⟩ v4).setCell ⟨b, 5, none⟩ v5).setCell ⟨b, 6, none⟩ v6).setCell ⟨b, 7, none⟩ v7).setCell ⟨b, 8, none⟩ v8).setCell ⟨b, 9, none⟩ v9).setCell ⟨b, 10, none⟩ va).cell? ⟨b2, o2, none⟩ = some u := by
  iterate 11 (refine cell_far ?_ hne)
  exact h
/-- an op that may stand behind the row, or an error: its parts by name -/
def RepX (D : List OpD) (w : World) (e : Ending) (w' : World) : Prop := ∃ (es eq ek ex ey ez : Int) (et : ByteArray) (eg : List El) (gl : Nat) (ef em en : Int) (oa : Option Addr) (oc : Nat) (er : Int), e = .returned (.tuple #[.agg #[.int .i64 es, .int .i64 eq, .int .i64 ek, .int .i64 ex, .int .i64 ey, .int .i64 ez, .string et, .slice oa gl oc, .int .i64 ef, .int .i64 em, .int .i64 en], .int .i64 er]) ∧ gl = eg.length ∧ (er = 0 → OpAt w' ⟨es, eq, ek, ⟨ex, ey, ez⟩, et, eg, ef, em, en⟩ oa oc ∧ rowP (D ++ [⟨es, eq, ek, ⟨ex, ey, ez⟩, et, eg, ef, em, en⟩])) ∧ (∀ ad, oa = some ad → w.heap.size ≤ ad.block) ∧ Below w.heap.size w w'
theorem rep_x {D : List OpD} {w : World} {e : Ending} {w' : World} (h : RepPost D w e w') : RepX D w e w' := by
  obtain ⟨⟨es, eq, ek, ⟨ex, ey, ez⟩, et, eg, ef, em, en⟩, oa, oc, er, he, h1, h2, h3⟩ := h
  exact ⟨es, eq, ek, ex, ey, ez, et, eg, eg.length, ef, em, en, oa, oc, er, he, rfl, h1, h2, h3⟩
theorem uvw_ok : okT ⟨#[117, 118, 119]⟩ = true := by kernel_rfl
theorem uvw_rns : rns ⟨#[117, 118, 119]⟩ = [117, 118, 119] := by kernel_rfl
theorem uvw_ne : (⟨#[117, 118, 119]⟩ : ByteArray).toList ≠ [] := fun h => by
  have := (toList_nil_iff_emptyBytes _).1 h
  cases this
theorem em_ok : okT ⟨#[]⟩ = true := by kernel_rfl
theorem em_rns : rns ⟨#[]⟩ = [] := by kernel_rfl
theorem z_ok : okT ⟨#[122]⟩ = true := by kernel_rfl
theorem z_rns : rns ⟨#[122]⟩ = [122] := by kernel_rfl
/-- both ways of telling the steps, and that they are the same -/
def KndO (w : World) (m : Nat) (P : List Pr) (e : Ending) (w' : World) : Prop := ∃ a c, e = .returned (.tuple #[.slice a m c, .int .i64 0]) ∧ PrimsAt w' a P ∧ Below w.heap.size w w'
def KndR (w : World) (m : Nat) (P : List Pr) (e : Ending) (w' : World) : Prop := ∃ a c, e = .returned (.slice a m c) ∧ PrimsAt w' a P ∧ Below w.heap.size w w'
theorem knd_o {w w' : World} {P : List Pr} {e : Ending} (h : OfPost P w e w') : KndO w P.length P e w' := by
  obtain ⟨v, he, hown, hb⟩ := h
  obtain ⟨a, c, hv, hp, -⟩ := prims_own hown
  exact ⟨a, c, by rw [he, hv], hp, hb⟩
theorem knd_r {w w' : World} {P : List Pr} {e : Ending} (h : OwnPP P w e w') : KndR w P.length P e w' := by
  obtain ⟨v, he, hown, hb⟩ := h
  obtain ⟨a, c, hv, hp, -⟩ := prims_own hown
  exact ⟨a, c, by rw [he, hv], hp, hb⟩
set_option maxRecDepth 100000 in
set_option maxHeartbeats 16000000 in
theorem kind0_any (p : AskD) (W : World) (h : AskAt W p) (hT : Tabs W) : Calls Tryz.prog 30 #[p.v, .int .i64 0] W (BoB true W) := by
  have HHV := Lib.hid (fun wx (hx : Below W.heap.size W wx) => Heavy_light p wx (h.below hx))
  have HX := Lib.hid (BoxA.new W p)
  have hb0 : Below W.heap.size W (W.alloc p.obj) := (Below.refl _ _).alloc (Nat.le_refl _) _
  have HB0 := Lib.hid hb0
  have HRW := Lib.hid h.l
  have HTB := Lib.hid (fun wx (hx : Below W.heap.size W wx) => hT.next hx)
  have hl3 := h.l.len
  have HWK := Lib.hid wakes10_any
  clear h hb0 hT
  unfold AskD.v at HHV ⊢
  generalize hLP : Light p = LP at HHV
  have HLP := Lib.hid (show LP → Light p from fun h => by rw [hLP]; exact h)
  clear hLP
  unfold Light at HLP
  obtain ⟨lr, le, lo, ln, ar, ae, ao, an, cr, ce, co, cn⟩ := p
  unfold AskD.obj at HX HB0
  simp only at HHV HX HB0 HRW hl3 HLP ⊢
  have hbi := big_is
  obtain ⟨n0, hn0⟩ : ∃ n, lr.length = n := ⟨_, rfl⟩
  have HL0 := Lib.hid hn0
  have h0a : (n0 : Int) ≤ 140737488351232 := by omega
  rw [hn0] at HHV HX HB0 ⊢
  clear hl3 hbi hn0
  generalize hn2 : le.length = n2 at *
  generalize hn1 : lo.length = n1 at *
  generalize hn3 : ln.length = n3 at *
  have HL2 := Lib.hid hn2
  have HL1 := Lib.hid hn1
  have HL3 := Lib.hid hn3
  clear hn1 hn2 hn3
  go_enter Tryz.func30, Tryz.ntmps30
  go_wp2_with (first | (go_at_call 8; refine (HHV.out _ HB0.out).mono ?_; rintro x1 w1 ⟨b1, rfl, hlp, hb1⟩; have HPP := Lib.hid hlp; have HB1 := Lib.hid (HB0.out.trans (hb1.mono HB0.out.size)); have HA1 := Lib.hid (HX.out.next hb1 HX.out.lt); clear hb1 hlp; cases b1) | fail)
  rotate_left
  · go_wp2_with fail
    go_ret
    exact ⟨rfl, HB1.out⟩
  have HLT := Lib.hid (HLP.out (HPP.out (by simp)))
  clear HLP HPP
  go_wp2_with fail
  clear HHV
  have HXX := Lib.hid (fun (wx : World) (hx : Below w1.heap.size w1 wx) => And.intro ((hx.cell (p := ⟨W.heap.size, 0, none⟩) HA1.out.lt).trans HA1.out.c0) (And.intro (Nat.lt_of_lt_of_le HA1.out.lt hx.size) (HB1.out.trans (hx.mono HB1.out.size))))
  simp only [HL0.out] at HXX
  go_loopw [5] (fun s5 wr => ∃ i : Nat, s5 = .int .i64 i ∧ i ≤ n0 ∧ Below w1.heap.size w1 wr) (fun s5 _ => n0 - (RowKit.intOf s5).toNat)
  case atStart => exact ⟨0, rfl, Nat.zero_le _, Below.refl _ _⟩
  case round =>
    obtain ⟨i, rfl, hi, hb⟩ := hrel
    obtain ⟨q0, hq0, hbW⟩ := HXX.out _ hb
    have HB := Lib.hid hb
    have HBW := Lib.hid hbW
    by_cases hlt : i < n0
    · by_cases h4 : (i : Int) < 4
      · have hil : i < lr.length := by rw [HL0.out]; exact hlt
        obtain ⟨b, off, rfl, hbb, cW⟩ := HRW.out.cell i hil
        have hro := HRW.out.row i hil
        have hlr := light_row (HLT.out.2.2.2 i hil)
        generalize lr[i] = r at *
        clear hil
        obtain ⟨rl, ra, rc⟩ := r
        simp only at cW hro hlr
        have hcap := hro.2
        have HOP := Lib.hid (fun (wx : World) (hx : Below W.heap.size W wx) => hro.1.below hx)
        have HRR := Lib.hid (fun (wx : World) (hx : Below W.heap.size W wx) => rRow_any ra rc rl wx (HTB.out _ hx) (fun r hr => by have := (hlr.2 r hr).1; omega) (hro.1.below hx) hro.2)
        obtain ⟨nr, hnr⟩ : ∃ n, rl.length = n := ⟨_, rfl⟩
        have HNR := Lib.hid hnr
        rw [hnr] at cW hcap HRR
        have HCAP := Lib.hid hcap
        have HCW := Lib.hid (fun (wx : World) (hx : Below W.heap.size W wx) => And.intro ((hx.cell (p := ⟨b, off + i, none⟩) hbb).trans cW) (Nat.lt_of_lt_of_le hbb hx.size))
        obtain ⟨cr0, hbr⟩ := HCW.out _ hbW
        clear hnr hro hb hbW cW hlr HRW hcap
        by_cases hrow : rowP (OpR.os rl)
        · rw [show rowB (OpR.os rl) = true from (rowB_iff _).2 hrow] at HRR
          have HROW := Lib.hid hrow
          have HVS := Lib.hid (fun wx (hx : Below W.heap.size W wx) => rVis_any ra rc rl wx (HTB.out _ hx) (szs_rowP hrow).1 (HOP.out wx hx) hrow)
          have hv200 := visE_le hrow.2
          have hl40 : nr ≤ 40 := by have := hrow.1; rw [os_len, HNR.out] at this; exact this
          obtain ⟨XV, hXV⟩ : ∃ X, visE (OpR.os rl) = X := ⟨_, rfl⟩
          rw [hXV] at HVS hv200
          obtain ⟨nv, hnv⟩ : ∃ q, XV.length = q := ⟨_, rfl⟩
          have HNV := Lib.hid hnv
          have HXV := Lib.hid hXV
          rw [hnv] at hv200
          rw [HNR.out] at HVS
          clear hrow hXV hnv
          go_wp2_with (first
            | (go_at_call 10; refine (HRR.out wr HBW.out).mono ?_; rintro x2 w2 ⟨rfl, hb2⟩; have HB2 := Lib.hid (HB.out.trans (hb2.mono HB.out.size)); clear hb2)
            | (go_at_call 44; refine (HVS.out w2 (HXX.out _ HB2.out).2.2).mono ?_; rintro x3 w3 ⟨v3, rfl, hown3, hb3⟩; obtain ⟨a3, c3, hv3, he3, -⟩ := elems_own hown3; rw [HNV.out] at hv3; subst hv3; have HB3 := Lib.hid (HB2.out.trans (hb3.mono HB2.out.size)); clear hown3 hb3 he3)
            | fail)
          clear HRR HVS cr0 hbr q0 hq0
          go_loopw [8] (fun s8 wr => ∃ n : Nat, s8 = .int .i64 n ∧ n ≤ 6 ∧ Below w3.heap.size w3 wr) (fun s8 _ => 6 - (RowKit.intOf s8).toNat)
          case atStart => exact ⟨0, rfl, by omega, Below.refl _ _⟩
          case round =>
            obtain ⟨n, rfl, hn, hb⟩ := hrel
            have HBN := Lib.hid hb
            by_cases hn6 : n < 6
            · have hn6i : (n : Int) < 6 := by omega
              have hmd : ((n : Int) * 5 + (i : Int)).tmod ((nv : Int) + 1) = (((n * 5 + i) % (nv + 1) : Nat) : Int) := by
                rw [show ((n : Int) * 5 + (i : Int)) = ((n * 5 + i : Nat) : Int) from by omega, show ((nv : Int) + 1) = ((nv + 1 : Nat) : Int) from by omega, Int.tmod_eq_emod_of_nonneg (by omega)]
                rfl
              have hat9 : (n * 5 + i) % (nv + 1) < nv + 1 := Nat.mod_lt _ (by omega)
              generalize hat0 : (n * 5 + i) % (nv + 1) = at9 at *
              have hm3 : ((n : Int)).tmod 3 = ((n % 3 : Nat) : Int) := by
                rw [Int.tmod_eq_emod_of_nonneg (by omega)]
                rfl
              have hs3 : n % 3 < 3 := Nat.mod_lt _ (by decide)
              generalize hst : n % 3 = st at *
              have hnz : ¬ ((nv : Int) + 1 = 0) := by omega
              have hnvi : (nv : Int) ≤ 200 := by omega
              have hat9i : (at9 : Int) ≤ (nv : Int) := by omega
              have hsti : (st : Int) ≤ 2 := by omega
              have HBA := Lib.hid ((Below.refl wr.heap.size wr).alloc (Nat.le_refl _) (.cells #[.int .i64 0, .int .i64 0, .int .i64 0, .int .i64 0, .int .i64 0, .int .i64 0, .string ⟨#[]⟩, .slice none 0 0, .int .i64 0, .int .i64 0, .int .i64 0] 48))
              have HQA := Lib.hid (heap_alloc_new wr (.cells #[.int .i64 0, .int .i64 0, .int .i64 0, .int .i64 0, .int .i64 0, .int .i64 0, .string ⟨#[]⟩, .slice none 0 0, .int .i64 0, .int .i64 0, .int .i64 0] 48))
              have HLA := Lib.hid (show wr.heap.size < (wr.alloc (.cells #[.int .i64 0, .int .i64 0, .int .i64 0, .int .i64 0, .int .i64 0, .int .i64 0, .string ⟨#[]⟩, .slice none 0 0, .int .i64 0, .int .i64 0, .int .i64 0] 48)).heap.size by simp)
              have HBB := Lib.hid (HBN.out.trans (HBA.out.mono HBN.out.size))
              have HWB := Lib.hid (HB3.out.trans (HBB.out.mono HB3.out.size))
              clear hat0 hst hb
              have HRP := Lib.hid (fun (s3 : Int) wx (hx : Below W.heap.size W wx) => (by
                have h9 := rRep_any ra rc rl s3 at9 0 ⟨#[117, 118, 119]⟩ wx (HTB.out _ hx) (HOP.out wx hx) HROW.out uvw_ok (by decide) (by rw [uvw_rns]; decide) (by rw [HXV.out, HNV.out]; omega) (fun _ => uvw_ne)
                rw [HNR.out] at h9
                exact h9.mono (fun _ _ h => rep_x h) : Calls Tryz.prog 54 #[.slice ra nr rc, .int .i64 s3, .int .i64 (at9 : Int), .int .i64 0, .string ⟨#[117, 118, 119]⟩] wx (RepX (OpR.os rl) wx)))
              unfold RepX at HRP
              go_upto_region 21 with (first
                | (go_at_call 54; refine (HRP.out _ _ (HXX.out _ HWB.out).2.2).mono ?_; rintro x5 w5 ⟨es, eq, ek, ex, ey, ez, et, eg, gl, ef, em, en, oa, oc, er, rfl, hgl, hok, hge, hb5⟩; have HGL := Lib.hid hgl; have HOK := Lib.hid hok; have HGE := Lib.hid hge; have HB5 := Lib.hid (HBB.out.trans (hb5.mono HBB.out.size)); have hq5 := (hb5.block wr.heap.size HLA.out).trans HQA.out; have HQ5 := Lib.hid hq5; obtain ⟨k0, k1, k2, k3, k4, k5, k6, k7, k8, k9, ka, kf, kl⟩ := cells11P hq5; clear hgl hok hge hb5 hq5)
                | fail)
              have hfl := fill11 HQ5.out (.int .i64 es) (.int .i64 eq) (.int .i64 ek) (.int .i64 ex) (.int .i64 ey) (.int .i64 ez) (.string et) (.slice oa gl oc) (.int .i64 ef) (.int .i64 em) (.int .i64 en)
              have HB6 := Lib.hid (below11 (b := wr.heap.size) HB5.out HBN.out.size (.int .i64 es) (.int .i64 eq) (.int .i64 ek) (.int .i64 ex) (.int .i64 ey) (.int .i64 ez) (.string et) (.slice oa gl oc) (.int .i64 ef) (.int .i64 em) (.int .i64 en))
              have HE6 := Lib.hid (fun (hel : ElemsAt w5 oa eg) => elems11 (b := wr.heap.size) hel (fun ad had => Nat.ne_of_gt (Nat.lt_of_lt_of_le HLA.out (HGE.out ad had))) (.int .i64 es) (.int .i64 eq) (.int .i64 ek) (.int .i64 ex) (.int .i64 ey) (.int .i64 ez) (.string et) (.slice oa gl oc) (.int .i64 ef) (.int .i64 em) (.int .i64 en))
              generalize (((((((((((w5.setCell ⟨wr.heap.size, 0, none⟩ (.int .i64 es)).setCell ⟨wr.heap.size, 1, none⟩ (.int .i64 eq)).setCell ⟨wr.heap.size, 2, none⟩ (.int .i64 ek)).setCell ⟨wr.heap.size, 3, none⟩ (.int .i64 ex)).setCell ⟨wr.heap.size, 4, none⟩ (.int .i64 ey)).setCell ⟨wr.heap.size, 5, none⟩ (.int .i64 ez)).setCell ⟨wr.heap.size, 6, none⟩ (.string et)).setCell ⟨wr.heap.size, 7, none⟩ (.slice oa gl oc)).setCell ⟨wr.heap.size, 8, none⟩ (.int .i64 ef)).setCell ⟨wr.heap.size, 9, none⟩ (.int .i64 em)).setCell ⟨wr.heap.size, 10, none⟩ (.int .i64 en)) = w6 at *
              clear k0 k1 k2 k3 k4 k5 k6 k7 k8 k9 ka kf kl
              generalize wr.heap.size = b9 at *
              by_cases her : er = 0
              · subst her
                have HFL := Lib.hid hfl
                obtain ⟨k0, k1, k2, k3, k4, k5, k6, k7, k8, k9, ka, kf, kl⟩ := cells11P hfl
                clear hfl
                have hoo := HOK.out rfl
                have hop6 : OpAt w6 ⟨es, eq, ek, ⟨ex, ey, ez⟩, et, eg, ef, em, en⟩ oa oc := ⟨HE6.out hoo.1.gone, hoo.1.len, hoo.1.size, hoo.1.none⟩
                have HBW6 := Lib.hid (HXX.out _ (HB3.out.trans (HB6.out.mono HB3.out.size))).2.2
                have HPO := Lib.hid (fun wx (hx : Below w6.heap.size w6 wx) => (by
                  have h9 := pOf_ok ra rc rl ⟨es, eq, ek, ⟨ex, ey, ez⟩, et, eg, ef, em, en⟩ oa oc wx (HOP.out wx (HBW6.out.trans (hx.mono HBW6.out.size))) (by rw [HNR.out]; exact HCAP.out) HROW.out (hop6.below hx) hoo.2
                  rw [HNR.out] at h9
                  unfold OpD.v at h9
                  simp only [← HGL.out] at h9
                  exact h9.mono (fun _ _ h => knd_o h) : Calls Tryz.prog 21 #[.slice ra nr rc, .agg #[.int .i64 es, .int .i64 eq, .int .i64 ek, .int .i64 ex, .int .i64 ey, .int .i64 ez, .string et, .slice oa gl oc, .int .i64 ef, .int .i64 em, .int .i64 en]] wx (KndO wx (pathP (OpR.os rl) ⟨es, eq, ek, ⟨ex, ey, ez⟩, et, eg, ef, em, en⟩).length (pathP (OpR.os rl) ⟨es, eq, ek, ⟨ex, ey, ez⟩, et, eg, ef, em, en⟩))))
                have HRO := Lib.hid (fun wx (hx : Below w6.heap.size w6 wx) => (by
                  have h9 := rOf_ok ra rc rl ⟨es, eq, ek, ⟨ex, ey, ez⟩, et, eg, ef, em, en⟩ oa oc wx (HTB.out _ (HBW6.out.trans (hx.mono HBW6.out.size))) (HOP.out wx (HBW6.out.trans (hx.mono HBW6.out.size))) HROW.out (hop6.below hx) hoo.2
                  rw [HNR.out] at h9
                  unfold OpD.v at h9
                  simp only [← HGL.out] at h9
                  exact h9.mono (fun _ _ h => knd_r h) : Calls Tryz.prog 23 #[.slice ra nr rc, .agg #[.int .i64 es, .int .i64 eq, .int .i64 ek, .int .i64 ex, .int .i64 ey, .int .i64 ez, .string et, .slice oa gl oc, .int .i64 ef, .int .i64 em, .int .i64 en]] wx (KndR wx (pathP (OpR.os rl) ⟨es, eq, ek, ⟨ex, ey, ez⟩, et, eg, ef, em, en⟩).length (pathP (OpR.os rl) ⟨es, eq, ek, ⟨ex, ey, ez⟩, et, eg, ef, em, en⟩))))
                have HLE := Lib.hid (pathP_len HROW.out hoo.2)
                unfold KndO at HPO
                unfold KndR at HRO
                generalize pathP (OpR.os rl) ⟨es, eq, ek, ⟨ex, ey, ez⟩, et, eg, ef, em, en⟩ = P at *
                obtain ⟨mp, hmp⟩ : ∃ q, P.length = q := ⟨_, rfl⟩
                have HMP := Lib.hid hmp
                rw [hmp] at HPO HRO HLE
                clear hmp hoo hop6
                go_wp2_with (first
                  | (go_at_call 21; refine (HPO.out w6 (Below.refl _ _)).mono ?_; rintro x7 w7 ⟨a7, c7, rfl, hp7, hb7⟩; have HP7 := Lib.hid hp7; have HB7 := Lib.hid hb7; obtain ⟨r0, r1, r2, r3, r4, r5, r6, r7, r8, r9, ra9, rf, rl9⟩ := cells11P ((hb7.block b9 kl).trans HFL.out); clear hp7 hb7 k0 k1 k2 k3 k4 k5 k6 k7 k8 k9 ka kf kl)
                  | (go_at_call 23; refine (HRO.out w7 HB7.out).mono ?_; rintro x8 w8 ⟨a8, c8, rfl, hp8, hb8⟩; have HP8 := Lib.hid hp8; have HQ8 := Lib.hid (HP7.out.below hb8); have HB8 := Lib.hid (HB7.out.trans (hb8.mono HB7.out.size)); clear hp8 hb8 r0 r1 r2 r3 r4 r5 r6 r7 r8 r9 ra9 rf rl9)
                  | (go_at_call 17; refine (EqPrims_yes a7 a8 c7 c8 mp P w8 HQ8.out HP8.out HMP.out (by have := HLE.out; omega)).mono ?_; rintro x9 w9 ⟨rfl, hb9⟩; have HB9 := Lib.hid (HB8.out.trans (hb9.mono HB8.out.size)); clear hb9)
                  | (go_at_call 16; refine (num10_same _ _).mono ?_; rintro xn wn ⟨rfl, hnn⟩; have hns := hnn.symm; clear hnn; subst hns)
                  | fail)
                go_roundw
                case rel => exact ⟨n + 1, by go_num, by omega, HB6.out.trans (HB9.out.mono HB6.out.size)⟩
                case measure => simp [RowKit.intOf]; omega
              · have her2 : (er == 0) = false := by simp; exact her
                have her3 : (er != 0) = true := by simp; exact her
                clear hfl
                go_wp2_with fail
                go_roundw
                case rel => exact ⟨n + 1, by go_num, by omega, HB6.out⟩
                case measure => simp [RowKit.intOf]; omega
            · have hn6i : ¬ (n : Int) < 6 := by omega
              clear hb
              go_wp2_with fail
              go_roundw
              case rel => exact ⟨i + 1, by go_num, by omega, HB3.out.trans (HBN.out.mono HB3.out.size)⟩
              case measure => simp [RowKit.intOf]; omega
        · rw [show rowB (OpR.os rl) = false from rowB_no hrow] at HRR
          clear hrow
          go_wp2_with (first
            | (go_at_call 10; refine (HRR.out wr HBW.out).mono ?_; rintro x2 w2 ⟨rfl, hb2⟩; have HB2 := Lib.hid (HB.out.trans (hb2.mono HB.out.size)); clear hb2)
            | fail)
          go_roundw
          case rel => exact ⟨i + 1, by go_num, by omega, HB2.out⟩
          case measure => simp [RowKit.intOf]; omega
      · have hd4 : decide ((i : Int) < 4) = false := decide_eq_false h4
        go_wp2_with (first | (go_at_call 25; refine (HWK.out _).mono ?_; rintro x2 w2 ⟨rfl, hb2⟩; have HB2 := Lib.hid (HBW.out.trans (hb2.mono HBW.out.size)); clear hb2) | fail)
        go_ret
        exact ⟨rfl, HB2.out⟩
    · have hd4 : decide ((i : Int) < (n0 : Int)) = false := decide_eq_false (by omega)
      go_wp2_with (first | (go_at_call 25; refine (HWK.out _).mono ?_; rintro x2 w2 ⟨rfl, hb2⟩; have HB2 := Lib.hid (HBW.out.trans (hb2.mono HBW.out.size)); clear hb2) | fail)
      go_ret
      exact ⟨rfl, HB2.out⟩
set_option maxRecDepth 100000 in
set_option maxHeartbeats 16000000 in
theorem kind1_any (p : AskD) (W : World) (h : AskAt W p) (hT : Tabs W) : Calls Tryz.prog 30 #[p.v, .int .i64 1] W (BoB true W) := by
  have HHV := Lib.hid (fun wx (hx : Below W.heap.size W wx) => Heavy_light p wx (h.below hx))
  have HX := Lib.hid (BoxA.new W p)
  have hb0 : Below W.heap.size W (W.alloc p.obj) := (Below.refl _ _).alloc (Nat.le_refl _) _
  have HB0 := Lib.hid hb0
  have HRW := Lib.hid h.l
  have HTB := Lib.hid (fun wx (hx : Below W.heap.size W wx) => hT.next hx)
  have hl3 := h.l.len
  have HWK := Lib.hid wakes10_any
  clear h hb0 hT
  unfold AskD.v at HHV ⊢
  generalize hLP : Light p = LP at HHV
  have HLP := Lib.hid (show LP → Light p from fun h => by rw [hLP]; exact h)
  clear hLP
  unfold Light at HLP
  obtain ⟨lr, le, lo, ln, ar, ae, ao, an, cr, ce, co, cn⟩ := p
  unfold AskD.obj at HX HB0
  simp only at HHV HX HB0 HRW hl3 HLP ⊢
  have hbi := big_is
  obtain ⟨n0, hn0⟩ : ∃ n, lr.length = n := ⟨_, rfl⟩
  have HL0 := Lib.hid hn0
  have h0a : (n0 : Int) ≤ 140737488351232 := by omega
  rw [hn0] at HHV HX HB0 ⊢
  clear hl3 hbi hn0
  generalize hn2 : le.length = n2 at *
  generalize hn1 : lo.length = n1 at *
  generalize hn3 : ln.length = n3 at *
  have HL2 := Lib.hid hn2
  have HL1 := Lib.hid hn1
  have HL3 := Lib.hid hn3
  clear hn1 hn2 hn3
  go_enter Tryz.func30, Tryz.ntmps30
  go_wp2_with (first | (go_at_call 8; refine (HHV.out _ HB0.out).mono ?_; rintro x1 w1 ⟨b1, rfl, hlp, hb1⟩; have HPP := Lib.hid hlp; have HB1 := Lib.hid (HB0.out.trans (hb1.mono HB0.out.size)); have HA1 := Lib.hid (HX.out.next hb1 HX.out.lt); clear hb1 hlp; cases b1) | fail)
  rotate_left
  · go_wp2_with fail
    go_ret
    exact ⟨rfl, HB1.out⟩
  have HLT := Lib.hid (HLP.out (HPP.out (by simp)))
  clear HLP HPP
  go_wp2_with fail
  clear HHV
  have HXX := Lib.hid (fun (wx : World) (hx : Below w1.heap.size w1 wx) => And.intro ((hx.cell (p := ⟨W.heap.size, 0, none⟩) HA1.out.lt).trans HA1.out.c0) (And.intro (Nat.lt_of_lt_of_le HA1.out.lt hx.size) (HB1.out.trans (hx.mono HB1.out.size))))
  simp only [HL0.out] at HXX
  go_loopw [5] (fun s5 wr => ∃ i : Nat, s5 = .int .i64 i ∧ i ≤ n0 ∧ Below w1.heap.size w1 wr) (fun s5 _ => n0 - (RowKit.intOf s5).toNat)
  case atStart => exact ⟨0, rfl, Nat.zero_le _, Below.refl _ _⟩
  case round =>
    obtain ⟨i, rfl, hi, hb⟩ := hrel
    obtain ⟨q0, hq0, hbW⟩ := HXX.out _ hb
    have HB := Lib.hid hb
    have HBW := Lib.hid hbW
    by_cases hlt : i < n0
    · by_cases h4 : (i : Int) < 4
      · have hil : i < lr.length := by rw [HL0.out]; exact hlt
        obtain ⟨b, off, rfl, hbb, cW⟩ := HRW.out.cell i hil
        have hro := HRW.out.row i hil
        have hlr := light_row (HLT.out.2.2.2 i hil)
        generalize lr[i] = r at *
        clear hil
        obtain ⟨rl, ra, rc⟩ := r
        simp only at cW hro hlr
        have hcap := hro.2
        have HOP := Lib.hid (fun (wx : World) (hx : Below W.heap.size W wx) => hro.1.below hx)
        have HRR := Lib.hid (fun (wx : World) (hx : Below W.heap.size W wx) => rRow_any ra rc rl wx (HTB.out _ hx) (fun r hr => by have := (hlr.2 r hr).1; omega) (hro.1.below hx) hro.2)
        obtain ⟨nr, hnr⟩ : ∃ n, rl.length = n := ⟨_, rfl⟩
        have HNR := Lib.hid hnr
        rw [hnr] at cW hcap HRR
        have HCAP := Lib.hid hcap
        have HCW := Lib.hid (fun (wx : World) (hx : Below W.heap.size W wx) => And.intro ((hx.cell (p := ⟨b, off + i, none⟩) hbb).trans cW) (Nat.lt_of_lt_of_le hbb hx.size))
        obtain ⟨cr0, hbr⟩ := HCW.out _ hbW
        clear hnr hro hb hbW cW hlr HRW hcap
        by_cases hrow : rowP (OpR.os rl)
        · rw [show rowB (OpR.os rl) = true from (rowB_iff _).2 hrow] at HRR
          have HROW := Lib.hid hrow
          have HVS := Lib.hid (fun wx (hx : Below W.heap.size W wx) => rVis_any ra rc rl wx (HTB.out _ hx) (szs_rowP hrow).1 (HOP.out wx hx) hrow)
          have hv200 := visE_le hrow.2
          have hl40 : nr ≤ 40 := by have := hrow.1; rw [os_len, HNR.out] at this; exact this
          obtain ⟨XV, hXV⟩ : ∃ X, visE (OpR.os rl) = X := ⟨_, rfl⟩
          rw [hXV] at HVS hv200
          obtain ⟨nv, hnv⟩ : ∃ q, XV.length = q := ⟨_, rfl⟩
          have HNV := Lib.hid hnv
          have HXV := Lib.hid hXV
          rw [hnv] at hv200
          rw [HNR.out] at HVS
          clear hrow hXV hnv
          go_wp2_with (first
            | (go_at_call 10; refine (HRR.out wr HBW.out).mono ?_; rintro x2 w2 ⟨rfl, hb2⟩; have HB2 := Lib.hid (HB.out.trans (hb2.mono HB.out.size)); clear hb2)
            | (go_at_call 44; refine (HVS.out w2 (HXX.out _ HB2.out).2.2).mono ?_; rintro x3 w3 ⟨v3, rfl, hown3, hb3⟩; obtain ⟨a3, c3, hv3, he3, -⟩ := elems_own hown3; rw [HNV.out] at hv3; subst hv3; have HB3 := Lib.hid (HB2.out.trans (hb3.mono HB2.out.size)); clear hown3 hb3 he3)
            | fail)
          clear HRR HVS cr0 hbr q0 hq0
          go_loopw [8] (fun s8 wr => ∃ n : Nat, s8 = .int .i64 n ∧ n ≤ 6 ∧ Below w3.heap.size w3 wr) (fun s8 _ => 6 - (RowKit.intOf s8).toNat)
          case atStart => exact ⟨0, rfl, by omega, Below.refl _ _⟩
          case round =>
            obtain ⟨n, rfl, hn, hb⟩ := hrel
            have HBN := Lib.hid hb
            by_cases hn6 : n < 6
            · have hn6i : (n : Int) < 6 := by omega
              have hmd : ((n : Int) * 5 + (i : Int)).tmod ((nv : Int) + 1) = (((n * 5 + i) % (nv + 1) : Nat) : Int) := by
                rw [show ((n : Int) * 5 + (i : Int)) = ((n * 5 + i : Nat) : Int) from by omega, show ((nv : Int) + 1) = ((nv + 1 : Nat) : Int) from by omega, Int.tmod_eq_emod_of_nonneg (by omega)]
                rfl
              have hat9 : (n * 5 + i) % (nv + 1) < nv + 1 := Nat.mod_lt _ (by omega)
              generalize hat0 : (n * 5 + i) % (nv + 1) = at9 at *
              have hm3 : ((n : Int)).tmod 3 = ((n % 3 : Nat) : Int) := by
                rw [Int.tmod_eq_emod_of_nonneg (by omega)]
                rfl
              have hs3 : n % 3 < 3 := Nat.mod_lt _ (by decide)
              generalize hst : n % 3 = st at *
              have hnz : ¬ ((nv : Int) + 1 = 0) := by omega
              have hnvi : (nv : Int) ≤ 200 := by omega
              have hat9i : (at9 : Int) ≤ (nv : Int) := by omega
              have hsti : (st : Int) ≤ 2 := by omega
              have HBA := Lib.hid ((Below.refl wr.heap.size wr).alloc (Nat.le_refl _) (.cells #[.int .i64 0, .int .i64 0, .int .i64 0, .int .i64 0, .int .i64 0, .int .i64 0, .string ⟨#[]⟩, .slice none 0 0, .int .i64 0, .int .i64 0, .int .i64 0] 48))
              have HQA := Lib.hid (heap_alloc_new wr (.cells #[.int .i64 0, .int .i64 0, .int .i64 0, .int .i64 0, .int .i64 0, .int .i64 0, .string ⟨#[]⟩, .slice none 0 0, .int .i64 0, .int .i64 0, .int .i64 0] 48))
              have HLA := Lib.hid (show wr.heap.size < (wr.alloc (.cells #[.int .i64 0, .int .i64 0, .int .i64 0, .int .i64 0, .int .i64 0, .int .i64 0, .string ⟨#[]⟩, .slice none 0 0, .int .i64 0, .int .i64 0, .int .i64 0] 48)).heap.size by simp)
              have HBB := Lib.hid (HBN.out.trans (HBA.out.mono HBN.out.size))
              have HWB := Lib.hid (HB3.out.trans (HBB.out.mono HB3.out.size))
              clear hat0 hst hb
              by_cases hlt9 : at9 < nv
              · have hl1 : decide (at9 < nv) = true := decide_eq_true hlt9
                have hl2 : decide ((at9 : Int) < (nv : Int)) = true := decide_eq_true (by omega)
                have hmn : (nv - at9 = 1 ∧ min 2 (nv - at9) = 1) ∨ (2 ≤ nv - at9 ∧ min 2 (nv - at9) = 2) := by omega
                have HRP := Lib.hid (fun (s3 : Int) (m : Nat) (hm : m = min 2 (nv - at9)) (s : ByteArray) (hs : s = ⟨#[]⟩ ∨ s = ⟨#[122]⟩) wx (hx : Below W.heap.size W wx) => (by
                  have h9 := rRep_any ra rc rl s3 at9 m s wx (HTB.out _ hx) (HOP.out wx hx) HROW.out (by rcases hs with rfl | rfl; exact em_ok; exact z_ok) (by rcases hs with rfl | rfl <;> decide) (by rcases hs with rfl | rfl; rw [em_rns]; decide; rw [z_rns]; decide) (by rw [HXV.out, HNV.out]; omega) (fun h => by omega)
                  rw [HNR.out] at h9
                  exact h9.mono (fun _ _ h => rep_x h) : Calls Tryz.prog 54 #[.slice ra nr rc, .int .i64 s3, .int .i64 (at9 : Int), .int .i64 (m : Int), .string s] wx (RepX (OpR.os rl) wx)))
                unfold RepX at HRP
                have hm2 : ((n : Int)).tmod 2 = ((n % 2 : Nat) : Int) := by
                  rw [Int.tmod_eq_emod_of_nonneg (by omega)]
                  rfl
                have hr2 : n % 2 = 0 ∨ n % 2 = 1 := by omega
                go_upto_region 18 with fail
                have HWS := Lib.hid ((Below.refl (wr.alloc (.cells #[.int .i64 0, .int .i64 0, .int .i64 0, .int .i64 0, .int .i64 0, .int .i64 0, .string ⟨#[]⟩, .slice none 0 0, .int .i64 0, .int .i64 0, .int .i64 0] 48)).heap.size (wr.alloc (.cells #[.int .i64 0, .int .i64 0, .int .i64 0, .int .i64 0, .int .i64 0, .int .i64 0, .string ⟨#[]⟩, .slice none 0 0, .int .i64 0, .int .i64 0, .int .i64 0] 48))).alloc (Nat.le_refl _) (.cells #[.string ⟨#[]⟩, .string ⟨#[122]⟩] 9))
                have HQB := Lib.hid ((HWS.out.block wr.heap.size HLA.out).trans HQA.out)
                have HLB := Lib.hid (Nat.lt_of_lt_of_le HLA.out HWS.out.size)
                have HBC := Lib.hid (HBB.out.trans (HWS.out.mono HBB.out.size))
                have HWC := Lib.hid (HB3.out.trans (HBC.out.mono HB3.out.size))
                clear HQA HLA HBB HWB
                have HQA := HQB
                have HLA := HLB
                have HBB := HBC
                have HWB := HWC
                clear HQB HLB HBC HWC HWS
                have hmx : (∃ m : Nat, m = min 2 (nv - at9) ∧ min (2 : Int) ((nv : Int) - (at9 : Int)) = (m : Int)) := ⟨min 2 (nv - at9), rfl, by rcases hmn with ⟨h1, h2⟩ | ⟨h1, h2⟩ <;> omega⟩
                obtain ⟨mm, hmm, hmi⟩ := hmx
                have HMM := Lib.hid hmm
                clear hmm
                have hcs : ∃ sv : ByteArray, (sv = ⟨#[]⟩ ∨ sv = ⟨#[122]⟩) ∧ ((n % 2 = 0 ∧ sv = ⟨#[]⟩) ∨ (n % 2 = 1 ∧ sv = ⟨#[122]⟩)) := by
                  rcases hr2 with h | h
                  · exact ⟨_, .inl rfl, .inl ⟨h, rfl⟩⟩
                  · exact ⟨_, .inr rfl, .inr ⟨h, rfl⟩⟩
                generalize hr0 : n % 2 = r2 at *
                clear hr0 hmn hr2
                obtain ⟨sv, hsv, hsw⟩ := hcs
                have HSV := Lib.hid hsv
                clear hsv
                rcases hsw with ⟨rfl, rfl⟩ | ⟨rfl, rfl⟩
                all_goals
                  go_upto_region 21 with (first
                    | (go_at_call 54; refine (HRP.out _ mm HMM.out _ HSV.out _ (HXX.out _ HWB.out).2.2).mono ?_; rintro x5 w5 ⟨es, eq, ek, ex, ey, ez, et, eg, gl, ef, em, en, oa, oc, er, rfl, hgl, hok, hge, hb5⟩; have HGL := Lib.hid hgl; have HOK := Lib.hid hok; have HGE := Lib.hid hge; have HB5 := Lib.hid (HBB.out.trans (hb5.mono HBB.out.size)); have hq5 := (hb5.block wr.heap.size HLA.out).trans HQA.out; have HQ5 := Lib.hid hq5; obtain ⟨k0, k1, k2, k3, k4, k5, k6, k7, k8, k9, ka, kf, kl⟩ := cells11P hq5; clear hgl hok hge hb5 hq5)
                    | fail)
                  have hfl := fill11 HQ5.out (.int .i64 es) (.int .i64 eq) (.int .i64 ek) (.int .i64 ex) (.int .i64 ey) (.int .i64 ez) (.string et) (.slice oa gl oc) (.int .i64 ef) (.int .i64 em) (.int .i64 en)
                  have HB6 := Lib.hid (below11 (b := wr.heap.size) HB5.out HBN.out.size (.int .i64 es) (.int .i64 eq) (.int .i64 ek) (.int .i64 ex) (.int .i64 ey) (.int .i64 ez) (.string et) (.slice oa gl oc) (.int .i64 ef) (.int .i64 em) (.int .i64 en))
                  have HE6 := Lib.hid (fun (hel : ElemsAt w5 oa eg) => elems11 (b := wr.heap.size) hel (fun ad had => Nat.ne_of_gt (Nat.lt_of_lt_of_le HLA.out (HGE.out ad had))) (.int .i64 es) (.int .i64 eq) (.int .i64 ek) (.int .i64 ex) (.int .i64 ey) (.int .i64 ez) (.string et) (.slice oa gl oc) (.int .i64 ef) (.int .i64 em) (.int .i64 en))
                  generalize (((((((((((w5.setCell ⟨wr.heap.size, 0, none⟩ (.int .i64 es)).setCell ⟨wr.heap.size, 1, none⟩ (.int .i64 eq)).setCell ⟨wr.heap.size, 2, none⟩ (.int .i64 ek)).setCell ⟨wr.heap.size, 3, none⟩ (.int .i64 ex)).setCell ⟨wr.heap.size, 4, none⟩ (.int .i64 ey)).setCell ⟨wr.heap.size, 5, none⟩ (.int .i64 ez)).setCell ⟨wr.heap.size, 6, none⟩ (.string et)).setCell ⟨wr.heap.size, 7, none⟩ (.slice oa gl oc)).setCell ⟨wr.heap.size, 8, none⟩ (.int .i64 ef)).setCell ⟨wr.heap.size, 9, none⟩ (.int .i64 em)).setCell ⟨wr.heap.size, 10, none⟩ (.int .i64 en)) = w6 at *
                  clear k0 k1 k2 k3 k4 k5 k6 k7 k8 k9 ka kf kl
                  generalize wr.heap.size = b9 at *
                  by_cases her : er = 0
                  · subst her
                    have HFL := Lib.hid hfl
                    obtain ⟨k0, k1, k2, k3, k4, k5, k6, k7, k8, k9, ka, kf, kl⟩ := cells11P hfl
                    clear hfl
                    have hoo := HOK.out rfl
                    have hop6 : OpAt w6 ⟨es, eq, ek, ⟨ex, ey, ez⟩, et, eg, ef, em, en⟩ oa oc := ⟨HE6.out hoo.1.gone, hoo.1.len, hoo.1.size, hoo.1.none⟩
                    have HBW6 := Lib.hid (HXX.out _ (HB3.out.trans (HB6.out.mono HB3.out.size))).2.2
                    have HPO := Lib.hid (fun wx (hx : Below w6.heap.size w6 wx) => (by
                      have h9 := pOf_ok ra rc rl ⟨es, eq, ek, ⟨ex, ey, ez⟩, et, eg, ef, em, en⟩ oa oc wx (HOP.out wx (HBW6.out.trans (hx.mono HBW6.out.size))) (by rw [HNR.out]; exact HCAP.out) HROW.out (hop6.below hx) hoo.2
                      rw [HNR.out] at h9
                      unfold OpD.v at h9
                      simp only [← HGL.out] at h9
                      exact h9.mono (fun _ _ h => knd_o h) : Calls Tryz.prog 21 #[.slice ra nr rc, .agg #[.int .i64 es, .int .i64 eq, .int .i64 ek, .int .i64 ex, .int .i64 ey, .int .i64 ez, .string et, .slice oa gl oc, .int .i64 ef, .int .i64 em, .int .i64 en]] wx (KndO wx (pathP (OpR.os rl) ⟨es, eq, ek, ⟨ex, ey, ez⟩, et, eg, ef, em, en⟩).length (pathP (OpR.os rl) ⟨es, eq, ek, ⟨ex, ey, ez⟩, et, eg, ef, em, en⟩))))
                    have HRO := Lib.hid (fun wx (hx : Below w6.heap.size w6 wx) => (by
                      have h9 := rOf_ok ra rc rl ⟨es, eq, ek, ⟨ex, ey, ez⟩, et, eg, ef, em, en⟩ oa oc wx (HTB.out _ (HBW6.out.trans (hx.mono HBW6.out.size))) (HOP.out wx (HBW6.out.trans (hx.mono HBW6.out.size))) HROW.out (hop6.below hx) hoo.2
                      rw [HNR.out] at h9
                      unfold OpD.v at h9
                      simp only [← HGL.out] at h9
                      exact h9.mono (fun _ _ h => knd_r h) : Calls Tryz.prog 23 #[.slice ra nr rc, .agg #[.int .i64 es, .int .i64 eq, .int .i64 ek, .int .i64 ex, .int .i64 ey, .int .i64 ez, .string et, .slice oa gl oc, .int .i64 ef, .int .i64 em, .int .i64 en]] wx (KndR wx (pathP (OpR.os rl) ⟨es, eq, ek, ⟨ex, ey, ez⟩, et, eg, ef, em, en⟩).length (pathP (OpR.os rl) ⟨es, eq, ek, ⟨ex, ey, ez⟩, et, eg, ef, em, en⟩))))
                    have HLE := Lib.hid (pathP_len HROW.out hoo.2)
                    unfold KndO at HPO
                    unfold KndR at HRO
                    generalize pathP (OpR.os rl) ⟨es, eq, ek, ⟨ex, ey, ez⟩, et, eg, ef, em, en⟩ = P at *
                    obtain ⟨mp, hmp⟩ : ∃ q, P.length = q := ⟨_, rfl⟩
                    have HMP := Lib.hid hmp
                    rw [hmp] at HPO HRO HLE
                    clear hmp hoo hop6
                    go_wp2_with (first
                      | (go_at_call 21; refine (HPO.out w6 (Below.refl _ _)).mono ?_; rintro x7 w7 ⟨a7, c7, rfl, hp7, hb7⟩; have HP7 := Lib.hid hp7; have HB7 := Lib.hid hb7; obtain ⟨r0, r1, r2, r3, r4, r5, r6, r7, r8, r9, ra9, rf, rl9⟩ := cells11P ((hb7.block b9 kl).trans HFL.out); clear hp7 hb7 k0 k1 k2 k3 k4 k5 k6 k7 k8 k9 ka kf kl)
                      | (go_at_call 23; refine (HRO.out w7 HB7.out).mono ?_; rintro x8 w8 ⟨a8, c8, rfl, hp8, hb8⟩; have HP8 := Lib.hid hp8; have HQ8 := Lib.hid (HP7.out.below hb8); have HB8 := Lib.hid (HB7.out.trans (hb8.mono HB7.out.size)); clear hp8 hb8 r0 r1 r2 r3 r4 r5 r6 r7 r8 r9 ra9 rf rl9)
                      | (go_at_call 17; refine (EqPrims_yes a7 a8 c7 c8 mp P w8 HQ8.out HP8.out HMP.out (by have := HLE.out; omega)).mono ?_; rintro x9 w9 ⟨rfl, hb9⟩; have HB9 := Lib.hid (HB8.out.trans (hb9.mono HB8.out.size)); clear hb9)
                      | (go_at_call 16; refine (num10_same _ _).mono ?_; rintro xn wn ⟨rfl, hnn⟩; have hns := hnn.symm; clear hnn; subst hns)
                      | fail)
                    go_roundw
                    case rel => exact ⟨n + 1, by go_num, by omega, HB6.out.trans (HB9.out.mono HB6.out.size)⟩
                    case measure => simp [RowKit.intOf]; omega
                  · have her2 : (er == 0) = false := by simp; exact her
                    have her3 : (er != 0) = true := by simp; exact her
                    clear hfl
                    go_wp2_with fail
                    go_roundw
                    case rel => exact ⟨n + 1, by go_num, by omega, HB6.out⟩
                    case measure => simp [RowKit.intOf]; omega
              · have hl1 : decide (at9 < nv) = false := decide_eq_false hlt9
                have hl2 : decide ((at9 : Int) < (nv : Int)) = false := decide_eq_false (by omega)
                go_wp2_with fail
                go_roundw
                case rel => exact ⟨n + 1, by go_num, by omega, HBB.out⟩
                case measure => simp [RowKit.intOf]; omega
            · have hn6i : ¬ (n : Int) < 6 := by omega
              clear hb
              go_wp2_with fail
              go_roundw
              case rel => exact ⟨i + 1, by go_num, by omega, HB3.out.trans (HBN.out.mono HB3.out.size)⟩
              case measure => simp [RowKit.intOf]; omega
        · rw [show rowB (OpR.os rl) = false from rowB_no hrow] at HRR
          clear hrow
          go_wp2_with (first
            | (go_at_call 10; refine (HRR.out wr HBW.out).mono ?_; rintro x2 w2 ⟨rfl, hb2⟩; have HB2 := Lib.hid (HB.out.trans (hb2.mono HB.out.size)); clear hb2)
            | fail)
          go_roundw
          case rel => exact ⟨i + 1, by go_num, by omega, HB2.out⟩
          case measure => simp [RowKit.intOf]; omega
      · have hd4 : decide ((i : Int) < 4) = false := decide_eq_false h4
        go_wp2_with (first | (go_at_call 25; refine (HWK.out _).mono ?_; rintro x2 w2 ⟨rfl, hb2⟩; have HB2 := Lib.hid (HBW.out.trans (hb2.mono HBW.out.size)); clear hb2) | fail)
        go_ret
        exact ⟨rfl, HB2.out⟩
    · have hd4 : decide ((i : Int) < (n0 : Int)) = false := decide_eq_false (by omega)
      go_wp2_with (first | (go_at_call 25; refine (HWK.out _).mono ?_; rintro x2 w2 ⟨rfl, hb2⟩; have HB2 := Lib.hid (HBW.out.trans (hb2.mono HBW.out.size)); clear hb2) | fail)
      go_ret
      exact ⟨rfl, HB2.out⟩
set_option maxRecDepth 100000 in
set_option maxHeartbeats 16000000 in
theorem kind2_any (p : AskD) (W : World) (h : AskAt W p) (hT : Tabs W) : Calls Tryz.prog 30 #[p.v, .int .i64 2] W (BoB true W) := by
  have HHV := Lib.hid (fun wx (hx : Below W.heap.size W wx) => Heavy_light p wx (h.below hx))
  have HX := Lib.hid (BoxA.new W p)
  have hb0 : Below W.heap.size W (W.alloc p.obj) := (Below.refl _ _).alloc (Nat.le_refl _) _
  have HB0 := Lib.hid hb0
  have HRW := Lib.hid h.l
  have HTB := Lib.hid (fun wx (hx : Below W.heap.size W wx) => hT.next hx)
  have hl3 := h.l.len
  have HWK := Lib.hid wakes10_any
  clear h hb0 hT
  unfold AskD.v at HHV ⊢
  generalize hLP : Light p = LP at HHV
  have HLP := Lib.hid (show LP → Light p from fun h => by rw [hLP]; exact h)
  clear hLP
  unfold Light at HLP
  obtain ⟨lr, le, lo, ln, ar, ae, ao, an, cr, ce, co, cn⟩ := p
  unfold AskD.obj at HX HB0
  simp only at HHV HX HB0 HRW hl3 HLP ⊢
  have hbi := big_is
  obtain ⟨n0, hn0⟩ : ∃ n, lr.length = n := ⟨_, rfl⟩
  have HL0 := Lib.hid hn0
  have h0a : (n0 : Int) ≤ 140737488351232 := by omega
  rw [hn0] at HHV HX HB0 ⊢
  clear hl3 hbi hn0
  generalize hn2 : le.length = n2 at *
  generalize hn1 : lo.length = n1 at *
  generalize hn3 : ln.length = n3 at *
  have HL2 := Lib.hid hn2
  have HL1 := Lib.hid hn1
  have HL3 := Lib.hid hn3
  clear hn1 hn2 hn3
  go_enter Tryz.func30, Tryz.ntmps30
  go_wp2_with (first | (go_at_call 8; refine (HHV.out _ HB0.out).mono ?_; rintro x1 w1 ⟨b1, rfl, hlp, hb1⟩; have HPP := Lib.hid hlp; have HB1 := Lib.hid (HB0.out.trans (hb1.mono HB0.out.size)); have HA1 := Lib.hid (HX.out.next hb1 HX.out.lt); clear hb1 hlp; cases b1) | fail)
  rotate_left
  · go_wp2_with fail
    go_ret
    exact ⟨rfl, HB1.out⟩
  have HLT := Lib.hid (HLP.out (HPP.out (by simp)))
  clear HLP HPP
  go_wp2_with fail
  clear HHV
  have HXX := Lib.hid (fun (wx : World) (hx : Below w1.heap.size w1 wx) => And.intro ((hx.cell (p := ⟨W.heap.size, 0, none⟩) HA1.out.lt).trans HA1.out.c0) (And.intro (Nat.lt_of_lt_of_le HA1.out.lt hx.size) (HB1.out.trans (hx.mono HB1.out.size))))
  simp only [HL0.out] at HXX
  go_loopw [5] (fun s5 wr => ∃ i : Nat, s5 = .int .i64 i ∧ i ≤ n0 ∧ Below w1.heap.size w1 wr) (fun s5 _ => n0 - (RowKit.intOf s5).toNat)
  case atStart => exact ⟨0, rfl, Nat.zero_le _, Below.refl _ _⟩
  case round =>
    obtain ⟨i, rfl, hi, hb⟩ := hrel
    obtain ⟨q0, hq0, hbW⟩ := HXX.out _ hb
    have HB := Lib.hid hb
    have HBW := Lib.hid hbW
    by_cases hlt : i < n0
    · by_cases h4 : (i : Int) < 4
      · have hil : i < lr.length := by rw [HL0.out]; exact hlt
        obtain ⟨b, off, rfl, hbb, cW⟩ := HRW.out.cell i hil
        have hro := HRW.out.row i hil
        have hlr := light_row (HLT.out.2.2.2 i hil)
        generalize lr[i] = r at *
        clear hil
        obtain ⟨rl, ra, rc⟩ := r
        simp only at cW hro hlr
        have hcap := hro.2
        have HOP := Lib.hid (fun (wx : World) (hx : Below W.heap.size W wx) => hro.1.below hx)
        have HRR := Lib.hid (fun (wx : World) (hx : Below W.heap.size W wx) => rRow_any ra rc rl wx (HTB.out _ hx) (fun r hr => by have := (hlr.2 r hr).1; omega) (hro.1.below hx) hro.2)
        obtain ⟨nr, hnr⟩ : ∃ n, rl.length = n := ⟨_, rfl⟩
        have HNR := Lib.hid hnr
        rw [hnr] at cW hcap HRR
        have HCAP := Lib.hid hcap
        have HCW := Lib.hid (fun (wx : World) (hx : Below W.heap.size W wx) => And.intro ((hx.cell (p := ⟨b, off + i, none⟩) hbb).trans cW) (Nat.lt_of_lt_of_le hbb hx.size))
        obtain ⟨cr0, hbr⟩ := HCW.out _ hbW
        clear hnr hro hb hbW cW hlr HRW hcap
        by_cases hrow : rowP (OpR.os rl)
        · rw [show rowB (OpR.os rl) = true from (rowB_iff _).2 hrow] at HRR
          have HROW := Lib.hid hrow
          have HVS := Lib.hid (fun wx (hx : Below W.heap.size W wx) => rVis_any ra rc rl wx (HTB.out _ hx) (szs_rowP hrow).1 (HOP.out wx hx) hrow)
          have hv200 := visE_le hrow.2
          have hl40 : nr ≤ 40 := by have := hrow.1; rw [os_len, HNR.out] at this; exact this
          obtain ⟨XV, hXV⟩ : ∃ X, visE (OpR.os rl) = X := ⟨_, rfl⟩
          rw [hXV] at HVS hv200
          obtain ⟨nv, hnv⟩ : ∃ q, XV.length = q := ⟨_, rfl⟩
          have HNV := Lib.hid hnv
          have HXV := Lib.hid hXV
          rw [hnv] at hv200
          rw [HNR.out] at HVS
          clear hrow hXV hnv
          go_wp2_with (first
            | (go_at_call 10; refine (HRR.out wr HBW.out).mono ?_; rintro x2 w2 ⟨rfl, hb2⟩; have HB2 := Lib.hid (HB.out.trans (hb2.mono HB.out.size)); clear hb2)
            | (go_at_call 44; refine (HVS.out w2 (HXX.out _ HB2.out).2.2).mono ?_; rintro x3 w3 ⟨v3, rfl, hown3, hb3⟩; obtain ⟨a3, c3, hv3, he3, -⟩ := elems_own hown3; rw [HNV.out] at hv3; subst hv3; have HB3 := Lib.hid (HB2.out.trans (hb3.mono HB2.out.size)); clear hown3 hb3 he3)
            | fail)
          clear HRR HVS cr0 hbr q0 hq0
          go_loopw [8] (fun s8 wr => ∃ n : Nat, s8 = .int .i64 n ∧ n ≤ 6 ∧ Below w3.heap.size w3 wr) (fun s8 _ => 6 - (RowKit.intOf s8).toNat)
          case atStart => exact ⟨0, rfl, by omega, Below.refl _ _⟩
          case round =>
            obtain ⟨n, rfl, hn, hb⟩ := hrel
            have HBN := Lib.hid hb
            by_cases hn6 : n < 6
            · have hn6i : (n : Int) < 6 := by omega
              have hmd : ((n : Int) * 5 + (i : Int)).tmod ((nv : Int) + 1) = (((n * 5 + i) % (nv + 1) : Nat) : Int) := by
                rw [show ((n : Int) * 5 + (i : Int)) = ((n * 5 + i : Nat) : Int) from by omega, show ((nv : Int) + 1) = ((nv + 1 : Nat) : Int) from by omega, Int.tmod_eq_emod_of_nonneg (by omega)]
                rfl
              have hat9 : (n * 5 + i) % (nv + 1) < nv + 1 := Nat.mod_lt _ (by omega)
              generalize hat0 : (n * 5 + i) % (nv + 1) = at9 at *
              have hm3 : ((n : Int)).tmod 3 = ((n % 3 : Nat) : Int) := by
                rw [Int.tmod_eq_emod_of_nonneg (by omega)]
                rfl
              have hs3 : n % 3 < 3 := Nat.mod_lt _ (by decide)
              generalize hst : n % 3 = st at *
              have hnz : ¬ ((nv : Int) + 1 = 0) := by omega
              have hnvi : (nv : Int) ≤ 200 := by omega
              have hat9i : (at9 : Int) ≤ (nv : Int) := by omega
              have hsti : (st : Int) ≤ 2 := by omega
              have HBA := Lib.hid ((Below.refl wr.heap.size wr).alloc (Nat.le_refl _) (.cells #[.int .i64 0, .int .i64 0, .int .i64 0, .int .i64 0, .int .i64 0, .int .i64 0, .string ⟨#[]⟩, .slice none 0 0, .int .i64 0, .int .i64 0, .int .i64 0] 48))
              have HQA := Lib.hid (heap_alloc_new wr (.cells #[.int .i64 0, .int .i64 0, .int .i64 0, .int .i64 0, .int .i64 0, .int .i64 0, .string ⟨#[]⟩, .slice none 0 0, .int .i64 0, .int .i64 0, .int .i64 0] 48))
              have HLA := Lib.hid (show wr.heap.size < (wr.alloc (.cells #[.int .i64 0, .int .i64 0, .int .i64 0, .int .i64 0, .int .i64 0, .int .i64 0, .string ⟨#[]⟩, .slice none 0 0, .int .i64 0, .int .i64 0, .int .i64 0] 48)).heap.size by simp)
              have HBB := Lib.hid (HBN.out.trans (HBA.out.mono HBN.out.size))
              have HWB := Lib.hid (HB3.out.trans (HBB.out.mono HB3.out.size))
              clear hat0 hst hb
              have HTG := Lib.hid (fun (s3 s4 s5 : Int) wx (hx : Below W.heap.size W wx) => (by
                have h9 := rToggle_any ra rc rl s3 s4 s5 wx (HTB.out _ hx) (HOP.out wx hx) HROW.out
                rw [HNR.out] at h9
                exact h9.mono (fun _ _ h => rep_x h) : Calls Tryz.prog 55 #[.slice ra nr rc, .int .i64 s3, .int .i64 s4, .int .i64 s5] wx (RepX (OpR.os rl) wx)))
              unfold RepX at HTG
              by_cases hn0 : nr = 0
              · have hz1 : decide (0 < nr) = false := decide_eq_false (by omega)
                have hz2 : decide ((0 : Int) < (nr : Int)) = false := decide_eq_false (by omega)
                have hz3 : ¬ 0 < nr := by omega
                go_wp2_with fail
                go_roundw
                case rel => exact ⟨n + 1, by go_num, by omega, HBB.out⟩
                case measure => simp [RowKit.intOf]; omega
              have hz1 : decide (0 < nr) = true := decide_eq_true (by omega)
              have hz2 : decide ((0 : Int) < (nr : Int)) = true := decide_eq_true (by omega)
              have hz3 : 0 < nr := by omega
              have hz4 : ¬ ((nr : Int) = 0) := by omega
              have hmr : ((n : Int)).tmod (nr : Int) = ((n % nr : Nat) : Int) := by
                rw [Int.tmod_eq_emod_of_nonneg (by omega)]
                rfl
              have hjr : n % nr < nr := Nat.mod_lt _ (by omega)
              generalize hj0 : n % nr = j at *
              have hjl : j < rl.length := by rw [HNR.out]; exact hjr
              have hj1 : (j : Int) < (nr : Int) := by omega
              have hj2 : (0 : Int) ≤ (j : Int) := by omega
              have hnri : (nr : Int) ≤ 40 := by omega
              obtain ⟨rb, ro, rfl, hrb, c0, c1, -⟩ := (HOP.out wr (HXX.out _ (HB3.out.trans (HBN.out.mono HB3.out.size))).2.2).cells j hjl
              generalize rl[j].o.site = js at *
              generalize rl[j].o.seq = jq at *
              have hw3 : IntKind.i64.wrap ((st : Nat) : Int) = (st : Int) := IntWalk.i64_in _ (by omega)
              have hw4 : IntKind.i64.wrap (1 + (st : Int)) = 1 + (st : Int) := IntWalk.i64_in _ (by omega)
              have hw5 : IntKind.i64.wrap ((j : Nat) : Int) = (j : Int) := IntWalk.i64_in _ (by omega)
              have y0 := (HBA.out.cell (p := ⟨rb, ro + j * 11, none⟩) hrb).trans c0
              have y1 := (HBA.out.cell (p := ⟨rb, ro + j * 11 + 1, none⟩) hrb).trans c1
              have yl := Nat.lt_of_lt_of_le hrb HBA.out.size
              have HNE := Lib.hid (show rb ≠ wr.heap.size from Nat.ne_of_lt hrb)
              clear hj0 hjl hjr c0 c1 hrb
              go_upto_region 20 with fail
              generalize (wr.alloc (.cells #[.int .i64 0, .int .i64 0, .int .i64 0, .int .i64 0, .int .i64 0, .int .i64 0, .string ⟨#[]⟩, .slice none 0 0, .int .i64 0, .int .i64 0, .int .i64 0] 48)) = wu at *
              have YY := Lib.hid (And.intro y0 (And.intro y1 yl))
              have hyd : wu.drew.cell? ⟨rb, ro + j * 11, none⟩ = some (.int .i64 js) ∧ wu.drew.cell? ⟨rb, ro + j * 11 + 1, none⟩ = some (.int .i64 jq) := ⟨y0, y1⟩
              go_region_held3 (fun w' => w'.cell? ⟨rb, ro + j * 11, none⟩ = some (.int .i64 js) ∧ w'.cell? ⟨rb, ro + j * 11 + 1, none⟩ = some (.int .i64 jq)) (first | with_reducible exact hyd | with_reducible exact hz5 | with_reducible exact hz6) (first
                | (go_at_call 55; refine (HTG.out _ _ _ wu.drew (HXX.out _ (HB3.out.trans (HBB.out.drew.mono HB3.out.size))).2.2).mono ?_; rintro x5 w5 ⟨es, eq, ek, ex, ey, ez, et, eg, gl, ef, em, en, oa, oc, er, rfl, hgl, hok, hge, hb5⟩; have HGL := Lib.hid hgl; have HOK := Lib.hid hok; have HGE := Lib.hid hge; have HB5 := Lib.hid (HBB.out.drew.trans (hb5.mono HBB.out.size)); have hq5 := (hb5.block wr.heap.size HLA.out).trans HQA.out; have HQ5 := Lib.hid hq5; obtain ⟨k0, k1, k2, k3, k4, k5, k6, k7, k8, k9, ka, kf, kl⟩ := cells11P hq5; have hz5 : w5.cell? ⟨rb, ro + j * 11, none⟩ = some (.int .i64 js) ∧ w5.cell? ⟨rb, ro + j * 11 + 1, none⟩ = some (.int .i64 jq) := ⟨(hb5.cell (p := ⟨rb, ro + j * 11, none⟩) YY.out.2.2).trans YY.out.1, (hb5.cell (p := ⟨rb, ro + j * 11 + 1, none⟩) YY.out.2.2).trans YY.out.2.1⟩; have hz6 := And.intro (cell11 (b := wr.heap.size) HNE.out hz5.1 (.int .i64 es) (.int .i64 eq) (.int .i64 ek) (.int .i64 ex) (.int .i64 ey) (.int .i64 ez) (.string et) (.slice oa gl oc) (.int .i64 ef) (.int .i64 em) (.int .i64 en)) (cell11 (b := wr.heap.size) HNE.out hz5.2 (.int .i64 es) (.int .i64 eq) (.int .i64 ek) (.int .i64 ex) (.int .i64 ey) (.int .i64 ez) (.string et) (.slice oa gl oc) (.int .i64 ef) (.int .i64 em) (.int .i64 en)); clear hgl hok hge hb5 hq5)
                | fail)
              clear hyd hz5 hz6 y0 y1 yl
              go_upto_region 21 with fail
              have hfl := fill11 HQ5.out (.int .i64 es) (.int .i64 eq) (.int .i64 ek) (.int .i64 ex) (.int .i64 ey) (.int .i64 ez) (.string et) (.slice oa gl oc) (.int .i64 ef) (.int .i64 em) (.int .i64 en)
              have HB6 := Lib.hid (below11 (b := wr.heap.size) HB5.out HBN.out.size (.int .i64 es) (.int .i64 eq) (.int .i64 ek) (.int .i64 ex) (.int .i64 ey) (.int .i64 ez) (.string et) (.slice oa gl oc) (.int .i64 ef) (.int .i64 em) (.int .i64 en))
              have HE6 := Lib.hid (fun (hel : ElemsAt w5 oa eg) => elems11 (b := wr.heap.size) hel (fun ad had => Nat.ne_of_gt (Nat.lt_of_lt_of_le HLA.out (HGE.out ad had))) (.int .i64 es) (.int .i64 eq) (.int .i64 ek) (.int .i64 ex) (.int .i64 ey) (.int .i64 ez) (.string et) (.slice oa gl oc) (.int .i64 ef) (.int .i64 em) (.int .i64 en))
              generalize (((((((((((w5.setCell ⟨wr.heap.size, 0, none⟩ (.int .i64 es)).setCell ⟨wr.heap.size, 1, none⟩ (.int .i64 eq)).setCell ⟨wr.heap.size, 2, none⟩ (.int .i64 ek)).setCell ⟨wr.heap.size, 3, none⟩ (.int .i64 ex)).setCell ⟨wr.heap.size, 4, none⟩ (.int .i64 ey)).setCell ⟨wr.heap.size, 5, none⟩ (.int .i64 ez)).setCell ⟨wr.heap.size, 6, none⟩ (.string et)).setCell ⟨wr.heap.size, 7, none⟩ (.slice oa gl oc)).setCell ⟨wr.heap.size, 8, none⟩ (.int .i64 ef)).setCell ⟨wr.heap.size, 9, none⟩ (.int .i64 em)).setCell ⟨wr.heap.size, 10, none⟩ (.int .i64 en)) = w6 at *
              clear k0 k1 k2 k3 k4 k5 k6 k7 k8 k9 ka kf kl
              generalize wr.heap.size = b9 at *
              by_cases her : er = 0
              · subst her
                have HFL := Lib.hid hfl
                obtain ⟨k0, k1, k2, k3, k4, k5, k6, k7, k8, k9, ka, kf, kl⟩ := cells11P hfl
                clear hfl
                have hoo := HOK.out rfl
                have hop6 : OpAt w6 ⟨es, eq, ek, ⟨ex, ey, ez⟩, et, eg, ef, em, en⟩ oa oc := ⟨HE6.out hoo.1.gone, hoo.1.len, hoo.1.size, hoo.1.none⟩
                have HBW6 := Lib.hid (HXX.out _ (HB3.out.trans (HB6.out.mono HB3.out.size))).2.2
                have HPO := Lib.hid (fun wx (hx : Below w6.heap.size w6 wx) => (by
                  have h9 := pOf_ok (some ⟨rb, ro, none⟩) rc rl ⟨es, eq, ek, ⟨ex, ey, ez⟩, et, eg, ef, em, en⟩ oa oc wx (HOP.out wx (HBW6.out.trans (hx.mono HBW6.out.size))) (by rw [HNR.out]; exact HCAP.out) HROW.out (hop6.below hx) hoo.2
                  rw [HNR.out] at h9
                  unfold OpD.v at h9
                  simp only [← HGL.out] at h9
                  exact h9.mono (fun _ _ h => knd_o h) : Calls Tryz.prog 21 #[.slice (some ⟨rb, ro, none⟩) nr rc, .agg #[.int .i64 es, .int .i64 eq, .int .i64 ek, .int .i64 ex, .int .i64 ey, .int .i64 ez, .string et, .slice oa gl oc, .int .i64 ef, .int .i64 em, .int .i64 en]] wx (KndO wx (pathP (OpR.os rl) ⟨es, eq, ek, ⟨ex, ey, ez⟩, et, eg, ef, em, en⟩).length (pathP (OpR.os rl) ⟨es, eq, ek, ⟨ex, ey, ez⟩, et, eg, ef, em, en⟩))))
                have HRO := Lib.hid (fun wx (hx : Below w6.heap.size w6 wx) => (by
                  have h9 := rOf_ok (some ⟨rb, ro, none⟩) rc rl ⟨es, eq, ek, ⟨ex, ey, ez⟩, et, eg, ef, em, en⟩ oa oc wx (HTB.out _ (HBW6.out.trans (hx.mono HBW6.out.size))) (HOP.out wx (HBW6.out.trans (hx.mono HBW6.out.size))) HROW.out (hop6.below hx) hoo.2
                  rw [HNR.out] at h9
                  unfold OpD.v at h9
                  simp only [← HGL.out] at h9
                  exact h9.mono (fun _ _ h => knd_r h) : Calls Tryz.prog 23 #[.slice (some ⟨rb, ro, none⟩) nr rc, .agg #[.int .i64 es, .int .i64 eq, .int .i64 ek, .int .i64 ex, .int .i64 ey, .int .i64 ez, .string et, .slice oa gl oc, .int .i64 ef, .int .i64 em, .int .i64 en]] wx (KndR wx (pathP (OpR.os rl) ⟨es, eq, ek, ⟨ex, ey, ez⟩, et, eg, ef, em, en⟩).length (pathP (OpR.os rl) ⟨es, eq, ek, ⟨ex, ey, ez⟩, et, eg, ef, em, en⟩))))
                have HLE := Lib.hid (pathP_len HROW.out hoo.2)
                unfold KndO at HPO
                unfold KndR at HRO
                generalize pathP (OpR.os rl) ⟨es, eq, ek, ⟨ex, ey, ez⟩, et, eg, ef, em, en⟩ = P at *
                obtain ⟨mp, hmp⟩ : ∃ q, P.length = q := ⟨_, rfl⟩
                have HMP := Lib.hid hmp
                rw [hmp] at HPO HRO HLE
                clear hmp hoo hop6
                go_wp2_with (first
                  | (go_at_call 21; refine (HPO.out w6 (Below.refl _ _)).mono ?_; rintro x7 w7 ⟨a7, c7, rfl, hp7, hb7⟩; have HP7 := Lib.hid hp7; have HB7 := Lib.hid hb7; obtain ⟨r0, r1, r2, r3, r4, r5, r6, r7, r8, r9, ra9, rf, rl9⟩ := cells11P ((hb7.block b9 kl).trans HFL.out); clear hp7 hb7 k0 k1 k2 k3 k4 k5 k6 k7 k8 k9 ka kf kl)
                  | (go_at_call 23; refine (HRO.out w7 HB7.out).mono ?_; rintro x8 w8 ⟨a8, c8, rfl, hp8, hb8⟩; have HP8 := Lib.hid hp8; have HQ8 := Lib.hid (HP7.out.below hb8); have HB8 := Lib.hid (HB7.out.trans (hb8.mono HB7.out.size)); clear hp8 hb8 r0 r1 r2 r3 r4 r5 r6 r7 r8 r9 ra9 rf rl9)
                  | (go_at_call 17; refine (EqPrims_yes a7 a8 c7 c8 mp P w8 HQ8.out HP8.out HMP.out (by have := HLE.out; omega)).mono ?_; rintro x9 w9 ⟨rfl, hb9⟩; have HB9 := Lib.hid (HB8.out.trans (hb9.mono HB8.out.size)); clear hb9)
                  | (go_at_call 16; refine (num10_same _ _).mono ?_; rintro xn wn ⟨rfl, hnn⟩; have hns := hnn.symm; clear hnn; subst hns)
                  | fail)
                go_roundw
                case rel => exact ⟨n + 1, by go_num, by omega, HB6.out.trans (HB9.out.mono HB6.out.size)⟩
                case measure => simp [RowKit.intOf]; omega
              · have her2 : (er == 0) = false := by simp; exact her
                have her3 : (er != 0) = true := by simp; exact her
                clear hfl
                go_wp2_with fail
                go_roundw
                case rel => exact ⟨n + 1, by go_num, by omega, HB6.out⟩
                case measure => simp [RowKit.intOf]; omega
            · have hn6i : ¬ (n : Int) < 6 := by omega
              clear hb
              go_wp2_with fail
              go_roundw
              case rel => exact ⟨i + 1, by go_num, by omega, HB3.out.trans (HBN.out.mono HB3.out.size)⟩
              case measure => simp [RowKit.intOf]; omega
        · rw [show rowB (OpR.os rl) = false from rowB_no hrow] at HRR
          clear hrow
          go_wp2_with (first
            | (go_at_call 10; refine (HRR.out wr HBW.out).mono ?_; rintro x2 w2 ⟨rfl, hb2⟩; have HB2 := Lib.hid (HB.out.trans (hb2.mono HB.out.size)); clear hb2)
            | fail)
          go_roundw
          case rel => exact ⟨i + 1, by go_num, by omega, HB2.out⟩
          case measure => simp [RowKit.intOf]; omega
      · have hd4 : decide ((i : Int) < 4) = false := decide_eq_false h4
        go_wp2_with (first | (go_at_call 25; refine (HWK.out _).mono ?_; rintro x2 w2 ⟨rfl, hb2⟩; have HB2 := Lib.hid (HBW.out.trans (hb2.mono HBW.out.size)); clear hb2) | fail)
        go_ret
        exact ⟨rfl, HB2.out⟩
    · have hd4 : decide ((i : Int) < (n0 : Int)) = false := decide_eq_false (by omega)
      go_wp2_with (first | (go_at_call 25; refine (HWK.out _).mono ?_; rintro x2 w2 ⟨rfl, hb2⟩; have HB2 := Lib.hid (HBW.out.trans (hb2.mono HBW.out.size)); clear hb2) | fail)
      go_ret
      exact ⟨rfl, HB2.out⟩
end Go.Proofs.YtglfkoegkiplfaaGreatDoor
