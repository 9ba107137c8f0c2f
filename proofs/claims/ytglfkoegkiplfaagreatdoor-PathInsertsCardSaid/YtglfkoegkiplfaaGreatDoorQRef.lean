/- the page's Of: the steps of an op behind a row -/
import Derived.Test.YtglfkoegkiplfaaGreatDoorQPath
import Derived.Test.YtglfkoegkiplfaaGreatDoorZWith
import Derived.Test.YtglfkoegkiplfaaGreatDoorOPut
import Derived.Laws.Closers25b
namespace Go.Proofs.YtglfkoegkiplfaaGreatDoor
open Go.RowKit Go.Lib Go.Sort

theorem lk_at (v : List El) (e : El) : lk v e = decide (atI v e < 0) := by
  unfold lk
  by_cases h : e ∈ v
  · have := atI_pos h
    rw [decide_eq_true h, decide_eq_false (by omega)]
    rfl
  · rw [atI_neg h, decide_eq_false h]
    rfl
theorem atI_ge (v : List El) (e : El) : -1 ≤ atI v e := by
  by_cases h : e ∈ v
  · have := atI_pos h
    omega
  · rw [atI_neg h]
    omega
def BehO (n : Nat) (D : List OpD) (w : World) (e : Ending) (w' : World) : Prop := ∃ a2 c2 L, e = .returned (.slice a2 n c2) ∧ L.length = n ∧ n ≤ c2 ∧ OpsAt w' a2 L ∧ OpR.os L = D ∧ Below w.heap.size w w'
theorem szs_rowP {L : List OpR} (hr : rowP (OpR.os L)) : Szs L ∧ ∀ r ∈ L, r.o.gone.length ≤ 1000000 := by
  refine ⟨fun r hm => ?_, fun r hm => ?_⟩
  · have := (okOp_text (row_ok hr.2 r.o (List.mem_map_of_mem hm))).2.2
    omega
  · have := (gone_ok (row_ok hr.2 r.o (List.mem_map_of_mem hm))).1
    omega
theorem rBehind_o (a : Option Addr) (cap : Nat) (l : List OpR) (o : OpD) (oa : Option Addr) (oc : Nat) (w : World) (h : OpsAt w a l) (hr : rowP (OpR.os l)) (ho : ElemsAt w oa o.gone) (hgl : o.gone.length ≤ 1000000) (hts : o.text.size ≤ 60000) :
    Calls Tryz.prog 22 #[.slice a l.length cap, o.v oa oc] w (BehO (l.length + 1) (OpR.os l ++ [o]) w) := by
  have hl40 : l.length ≤ 40 := by have := hr.1; rw [os_len] at this; exact this
  refine (rBehind_any a cap l o oa oc w h (szs_rowP hr).2 (by omega) ho hgl (by unfold BIG; omega)).mono ?_
  rintro x w' ⟨v, L, rfl, hown, hos, hb⟩
  have hlen : L.length = l.length + 1 := by
    have := congrArg List.length hos
    rw [os_len, List.length_append, os_len] at this
    exact this
  obtain ⟨a2, c2, hv, hops, hc⟩ := hown.ops (by rw [hlen]; unfold BIG; omega)
  rw [hlen] at hv hc
  exact ⟨a2, c2, L, by rw [hv], hlen, hc, hops, hos, hb⟩
set_option maxRecDepth 100000 in
set_option maxHeartbeats 8000000 in
theorem rOf_ok (a : Option Addr) (cap : Nat) (l : List OpR) (o : OpD) (oa : Option Addr) (oc : Nat) (w : World) (hT : Tabs w) (h : OpsAt w a l) (hr : rowP (OpR.os l)) (ho : OpAt w o oa oc) (hn : rowP (OpR.os l ++ [o])) :
    Calls Tryz.prog 23 #[.slice a l.length cap, o.v oa oc] w (OwnPP (pathP (OpR.os l) o) w) := by
  obtain ⟨i0, hq0, hz0, hz1, hz2⟩ := info_parts Tryz.infoPrim
  have hoo := row_ok hn.2 o (by simp)
  have hX := BoxO.new w o oa oc
  have HB0 : RowKit.Hid (Below w.heap.size w (w.alloc (o.obj oa oc))) := Lib.hid ((Below.refl _ _).alloc (Nat.le_refl _) _)
  have HVA := Lib.hid (fun wx (hx : Below w.heap.size w wx) => rVis_any a cap l wx (hT.next hx) (szs_rowP hr).1 (h.below hx) hr)
  have HBH := Lib.hid (fun wx (hx : Below w.heap.size w wx) => rBehind_o a cap l o oa oc wx (h.below hx) hr (ho.gone.below hx) (Nat.le_trans (gone_ok hoo).1 (by decide)) (by have := (okOp_text hoo).2.2; omega))
  have HVB := Lib.hid (fun (a2 : Option Addr) (c2 : Nat) (L : List OpR) wx (hx : Below w.heap.size w wx) (hl : L.length = l.length + 1) (hL : OpsAt wx a2 L) (hD : OpR.os L = OpR.os l ++ [o]) => (by
    have hr2 : rowP (OpR.os L) := by rw [hD]; exact hn
    have h9 := rVis_any a2 c2 L wx (hT.next hx) (szs_rowP hr2).1 hL hr2
    rw [hl, hD] at h9
    exact h9 : Calls Tryz.prog 44 #[.slice a2 (l.length + 1) c2] wx (OwnPost (visE (OpR.os l ++ [o])) wx)))
  have HRU := Lib.hid (fun (a2 : Option Addr) (c2 : Nat) (L : List OpR) (e : El) wx (hx : Below w.heap.size w wx) (hl : L.length = l.length + 1) (hL : OpsAt wx a2 L) (hD : OpR.os L = OpR.os l ++ [o]) (he : e ∈ ordE (OpR.os l ++ [o])) => (by
    have hr2 : rowP (OpR.os L) := by rw [hD]; exact hn
    have h9 := rRn_any a2 c2 L e wx (hT.next hx) (szs_rowP hr2).1 hL hr2 (by rw [hD]; exact he)
    rw [hl, hD] at h9
    exact h9 : Calls Tryz.prog 46 #[.slice a2 (l.length + 1) c2, e.v] wx (RnPost (rnE (OpR.os l ++ [o]) e) wx)))
  have HPO := Lib.hid (show outP (OpR.os l) o = (sg (visE (OpR.os l)) (lk (visE (OpR.os l ++ [o]))) (gOut (OpR.os l) o.site) 0).reverse from rfl)
  have HPI := Lib.hid (show inP (OpR.os l) o = pk (visE (OpR.os l ++ [o])) (lk (visE (OpR.os l))) (gIn (OpR.os l ++ [o]) o.site) (visE (OpR.os l ++ [o])).length from rfl)
  have HGO := Lib.hid (fun i (hi : i < (visE (OpR.os l)).length) => gOut_is hn.2 o.site hi)
  have HGI := Lib.hid (fun i (hi : i < (visE (OpR.os l ++ [o])).length) => gIn_is o.site hi)
  have HOA := Lib.hid (fun e (he : e ∈ visE (OpR.os l)) => visE_more_ord o he)
  have HOB := Lib.hid (fun e (he : e ∈ visE (OpR.os l ++ [o])) => visE_ord he)
  have hV1 := visE_le hr.2
  have hV2 := visE_le hn.2
  have HL1 := Lib.hid (outP_len hr.2 o)
  unfold OwnPost at HVA HVB
  unfold BehO at HBH
  unfold RnPost at HRU
  unfold OwnPP pathP
  generalize hD2 : OpR.os l ++ [o] = D2 at *
  generalize outP (OpR.os l) o = PO at *
  generalize inP (OpR.os l) o = PI at *
  generalize gOut (OpR.os l) o.site = gO at *
  generalize gIn D2 o.site = gI at *
  generalize visE (OpR.os l) = VA at *
  generalize visE D2 = VB at *
  generalize rnE D2 = rN at *
  generalize ordE D2 = OD at *
  obtain ⟨n, hln⟩ : ∃ n, l.length = n := ⟨_, rfl⟩
  obtain ⟨na, hna⟩ : ∃ n, VA.length = n := ⟨_, rfl⟩
  obtain ⟨nb, hnb⟩ : ∃ n, VB.length = n := ⟨_, rfl⟩
  rw [hln] at HVA HBH HVB HRU ⊢
  rw [hna] at hV1
  rw [hnb] at HPI hV2
  have HNA := Lib.hid hna
  have HNB := Lib.hid hnb
  clear h hr hln hn ho hoo hna hnb hT hD2
  obtain ⟨site, seq, kind, ⟨es, eq, ei⟩, text, gone, of, num, gen⟩ := o
  unfold OpD.v at HBH ⊢
  unfold OpD.obj at HB0 hX
  simp only at hX HB0 HBH HGO HGI ⊢
  obtain ⟨gl, hgg⟩ : ∃ gl, gone.length = gl := ⟨_, rfl⟩
  have HGG := Lib.hid hgg
  rw [hgg] at hX HB0 HBH ⊢
  clear hgg
  generalize hwu : (w.alloc (.cells #[.int .i64 site, .int .i64 seq, .int .i64 kind, .int .i64 es, .int .i64 eq, .int .i64 ei, .string text, .slice oa gl oc, .int .i64 of, .int .i64 num, .int .i64 gen] 48)) = wu at *
  have HA := Lib.hid (fun (wx : World) (hx : Below wu.heap.size wu wx) => (by
    have h9 := hX.step hx
    have d0 := h9.c0
    have d1 := h9.c1
    have d2 := h9.c2
    have d3 := h9.c3
    have d4 := h9.c4
    have d5 := h9.c5
    have d6 := h9.c6
    have d7 := h9.c7
    have d8 := h9.c8
    have d9 := h9.c9
    have da := h9.ca
    simp only [HGG.out] at d0 d1 d2 d3 d4 d5 d6 d7 d8 d9 da
    exact ⟨d0, d1, d2, d3, d4, d5, d6, d7, d8, d9, da⟩ : wx.cell? ⟨w.heap.size, 0, none⟩ = some (.int .i64 site) ∧ wx.cell? ⟨w.heap.size, 1, none⟩ = some (.int .i64 seq) ∧ wx.cell? ⟨w.heap.size, 2, none⟩ = some (.int .i64 kind) ∧ wx.cell? ⟨w.heap.size, 3, none⟩ = some (.int .i64 es) ∧ wx.cell? ⟨w.heap.size, 4, none⟩ = some (.int .i64 eq) ∧ wx.cell? ⟨w.heap.size, 5, none⟩ = some (.int .i64 ei) ∧ wx.cell? ⟨w.heap.size, 6, none⟩ = some (.string text) ∧ wx.cell? ⟨w.heap.size, 7, none⟩ = some (.slice oa gl oc) ∧ wx.cell? ⟨w.heap.size, 8, none⟩ = some (.int .i64 of) ∧ wx.cell? ⟨w.heap.size, 9, none⟩ = some (.int .i64 num) ∧ wx.cell? ⟨w.heap.size, 10, none⟩ = some (.int .i64 gen)))
  have hlt0 := hX.lt
  have HWU := Lib.hid hwu
  clear hwu hX
  go_enter Tryz.func23, Tryz.ntmps23
  go_upto_region 1 with fail
  rw [HWU.out]
  have hb0 := (Below.refl wu.heap.size wu).drew
  -- @R
  go_region_held3 (fun w' => w'.cell? ⟨w.heap.size, 0, none⟩ = some (.int .i64 site) ∧ w'.cell? ⟨w.heap.size, 1, none⟩ = some (.int .i64 seq) ∧ w'.cell? ⟨w.heap.size, 2, none⟩ = some (.int .i64 kind) ∧ w'.cell? ⟨w.heap.size, 3, none⟩ = some (.int .i64 es) ∧ w'.cell? ⟨w.heap.size, 4, none⟩ = some (.int .i64 eq) ∧ w'.cell? ⟨w.heap.size, 5, none⟩ = some (.int .i64 ei) ∧ w'.cell? ⟨w.heap.size, 6, none⟩ = some (.string text) ∧ w'.cell? ⟨w.heap.size, 7, none⟩ = some (.slice oa gl oc) ∧ w'.cell? ⟨w.heap.size, 8, none⟩ = some (.int .i64 of) ∧ w'.cell? ⟨w.heap.size, 9, none⟩ = some (.int .i64 num) ∧ w'.cell? ⟨w.heap.size, 10, none⟩ = some (.int .i64 gen)) (first | exact HA.out _ hb0 | exact HA.out _ hb1 | exact HA.out _ hb2 | exact HA.out _ hb3) (first
    | (go_at_call 44; refine (HVB.out a2 c2 L2 w2 HBW2.out hl2 hops2 hos2).mono ?_; rintro x3 w3 ⟨v3, rfl, hown3, hb3'⟩; have hb3 := hb2.trans (hb3'.mono hb2.size); obtain ⟨a3, c3, hv3, he3, -⟩ := elems_own hown3; rw [HNB.out] at hv3; subst hv3; have HE3 := Lib.hid he3; have HE1b := Lib.hid (HE1a.out.below hb3'); clear hown3 he3 hb3')
    | (go_at_call 22; refine (HBH.out w1 HBW1.out).mono ?_; rintro x2 w2 ⟨a2, c2, L2, rfl, hl2, -, hops2, hos2, hb2'⟩; have hb2 := hb1.trans (hb2'.mono hb1.size); have HBW2 := Lib.hid (HBW1.out.trans (hb2'.mono HBW1.out.size)); have HE1a := Lib.hid (HE1.out.below hb2'); clear hb2')
    | (go_at_call 44; refine (HVA.out wu.drew HB0.out.drew).mono ?_; rintro x1 w1 ⟨v1, rfl, hown1, hb1'⟩; have hb1 := hb0.trans (hb1'.mono (Nat.le_refl _)); obtain ⟨a1, c1, hv1, he1, -⟩ := elems_own hown1; rw [HNA.out] at hv1; subst hv1; have HE1 := Lib.hid he1; have HBW1 := Lib.hid (HB0.out.trans (hb1.mono HB0.out.size)); clear hown1 he1 hb1')
    | fail)
  -- @R end
  clear hb0 hb1 hb2 hl2 hops2 hos2
  have HB3 := Lib.hid hb3
  obtain ⟨d0, d1, d2, d3, d4, d5, d6, d7, d8, d9, da⟩ := HA.out _ hb3
  have dl : w.heap.size < w3.heap.size := Nat.lt_of_lt_of_le hlt0 hb3.size
  clear hb3
  go_upto_region 4 with (first
    | (go_at_call 22; refine (HBH.out w3 (HB0.out.trans (HB3.out.mono HB0.out.size))).mono ?_; rintro x4 w4 ⟨a4, c4, L4, rfl, hl4, -, hops4, hos4, hb4'⟩; have HB4 := Lib.hid (HB3.out.trans (hb4'.mono HB3.out.size)); have HEA := Lib.hid (HE1b.out.below hb4'); have HEB := Lib.hid (HE3.out.below hb4'); have HL4 := Lib.hid hl4; have HO4 := Lib.hid hops4; have HD4 := Lib.hid hos4; clear hb4' hl4 hops4 hos4)
    | fail)
  clear d0 d1 d2 d3 d4 d5 d6 d7 d8 d9 da dl
  have HW4 := Lib.hid (HB0.out.trans (HB4.out.mono HB0.out.size))
  have HSI := Lib.hid (fun (wx : World) (hx : Below w4.heap.size w4 wx) => And.intro (HA.out wx (HB4.out.trans (hx.mono HB4.out.size))).1 (Nat.lt_of_lt_of_le hlt0 (Nat.le_trans HB4.out.size hx.size)))
  have HCR := Lib.hid (fun (e : El) (wx : World) (hx : Below w4.heap.size w4 wx) (he : e ∈ OD) => HRU.out a4 c4 L4 e wx (HW4.out.trans (hx.mono HW4.out.size)) HL4.out (HO4.out.below hx) HD4.out he)
  clear hlt0
  have HSE := Lib.hid (show sg VA (lk VB) gO na = [] from by rw [← HNA.out]; exact sg_end _ _ _)
  have HLN := Lib.hid (fun k => (show (sg VA (lk VB) gO k).reverse.length ≤ 200 from by
    rw [List.length_reverse]
    have h1 : (sg VA (lk VB) gO k).length ≤ (sg VA (lk VB) gO 0).length := by
      unfold sg
      rw [List.drop_zero]
      have h2 := List.take_append_drop k (List.range VA.length)
      have h3 : ((List.range VA.length).flatMap (pk1 VA (lk VB) gO)).length = (((List.range VA.length).take k).flatMap (pk1 VA (lk VB) gO)).length + (((List.range VA.length).drop k).flatMap (pk1 VA (lk VB) gO)).length := by
        rw [← List.length_append, ← List.flatMap_append, h2]
      omega
    have h4 := congrArg List.length HPO.out
    rw [List.length_reverse] at h4
    have := HL1.out
    omega))
  go_wp2_with fail
  go_loopw [8, 9] (fun s8 s9 wr => ∃ k : Nat, s9 = .int .i64 ((k : Int) - 1) ∧ k ≤ na ∧ wr.ownsRow w4.heap.size 58 4 s8 (sg VA (lk VB) gO k).reverse.length (pcs (sg VA (lk VB) gO k).reverse) ∧ Below w4.heap.size w4 wr) (fun _ s9 _ => (RowKit.intOf s9 + 1).toNat)
  case atStart => exact ⟨na, rfl, Nat.le_refl _, by rw [HSE.out]; exact World.ownsRow_nil _ _ _ _, Below.refl _ _⟩
  case round =>
    obtain ⟨k, rfl, hk, ho, hb⟩ := hrel
    by_cases hk0 : 0 < k
    · obtain ⟨j, rfl⟩ : ∃ j, k = j + 1 := ⟨k - 1, by omega⟩
      -- @X
      rw [show ((j + 1 : Nat) : Int) - 1 = (j : Int) from by omega]
      have hml := HLN.out (j + 1)
      have hSR := sg_rev (v := VA) (i := j) (by rw [HNA.out]; omega) (lk VB) gO
      generalize (sg VA (lk VB) gO (j + 1)).reverse = X at *
      obtain ⟨mx, hmx⟩ : ∃ q, X.length = q := ⟨_, rfl⟩
      have HMX := Lib.hid hmx
      rw [hmx] at ho hml
      clear hmx
      obtain ⟨av, cv, hv⟩ := own_form ho
      subst hv
      have HO := Lib.hid ho
      have HM1 := Lib.hid (show mx + 1 ≤ maxLen from by unfold maxLen; omega)
      have HM2 := Lib.hid (show (mx + 1) * 32 ≤ 140737488355328 from by omega)
      have hjl : j < VA.length := by rw [HNA.out]; omega
      have hj1 : (j : Int) < (na : Int) := by omega
      have hj0 : (0 : Int) ≤ (j : Int) := by omega
      obtain ⟨eb, eo, rfl, heb, x0, x1, x2⟩ := (HEA.out.below hb).cell j hjl
      have HAT := Lib.hid (fun wx (hx : Below w4.heap.size w4 wx) => At_any a3 c3 VB VA[j] wx (HEB.out.below hx) (by rw [HNB.out]; omega))
      rw [HNB.out] at HAT
      unfold IntB at HAT
      have HRE := Lib.hid (fun wx (hx : Below w4.heap.size w4 wx) => HCR.out VA[j] wx hx (HOA.out VA[j] (List.getElem_mem hjl)))
      have HGJ := Lib.hid (HGO.out j hjl)
      have hP1 := pk1_at hjl (lk VB) gO
      rw [HGJ.out, lk_at] at hP1
      have HSX := Lib.hid hSR
      clear hSR
      rw [hP1] at HSX
      have hmv := atI_le (l := VB) (e := VA[j])
      rw [HNB.out] at hmv
      have hm0 : -1 ≤ atI VB VA[j] := atI_ge _ _
      generalize atI VB VA[j] = m at *
      generalize rN VA[j] = r at *
      generalize VA[j] = e at *
      obtain ⟨qs, qq, qi⟩ := e
      unfold El.v at HAT HRE
      simp only at x0 x1 x2 HAT HRE
      clear hjl hP1 hk0 ho HGJ
      have HB := Lib.hid hb
      clear hb
      by_cases hm : m < 0
      · have hd : decide (m < 0) = true := decide_eq_true hm
        rw [hd, if_pos rfl] at HSX
        clear hm
        go_wp2_with (first
          | (go_at_call 45; refine (HAT.out wr HB.out).mono ?_; rintro x5 w5 ⟨rfl, hb5⟩; have y0 := (hb5.cell (p := ⟨eb, eo + j * 3, none⟩) heb).trans x0; have y1 := (hb5.cell (p := ⟨eb, eo + j * 3 + 1, none⟩) heb).trans x1; have y2 := (hb5.cell (p := ⟨eb, eo + j * 3 + 2, none⟩) heb).trans x2; have yl : eb < w5.heap.size := Nat.lt_of_lt_of_le heb hb5.size; have HB5 := Lib.hid (HB.out.trans (hb5.mono HB.out.size)); have HO5 := Lib.hid ((same_drew w5).owns (owns_belE HO.out hb5)); obtain ⟨s0, sl⟩ := HSI.out w5 HB5.out; clear x0 x1 x2 heb hb5)
          | fail)
        go_region_law (first
          | (go_simp; go_at_call 46; refine (HRE.out w5.drew HB5.out.drew).mono ?_; rintro x6 w6 ⟨rfl, hb6⟩; have HB6 := Lib.hid (HB5.out.drew.trans (hb6.mono HB5.out.size)); have HO6 := Lib.hid (owns_belE HO5.out hb6); obtain ⟨q0, ql⟩ := HSI.out w6 HB6.out; clear hb6)
          | (refine step_append_lies _ (by rfl) _ _ _ (by rfl) w4.heap.size 58 i0 (.agg #[.int .i64 0, .int .i64 0, .int .i32 0, .int .i64 0]) 4 32 Tryz.underlying31 hq0 hz0 hz1 hz2 (by rfl) (by decide) (.slice av mx cv) mx _ (by rfl) (HO6.out.alloc _) ⟨w6.heap.size, 0, none⟩ 1 1 (Pr.cs ⟨2, j, r, site⟩) (by rfl) (by rfl) (cell_prim_new _ ⟨2, j, r, site⟩ _) (pcs_one1 ⟨2, j, r, site⟩) (by omega) HM1.out HM2.out (by have := HB6.out.size; simp; omega) _ rfl ?_; intro g8 c8 w8 hown8 hgrow8 hat8 hlt8; have HB8 := Lib.hid ((HB6.out.alloc HB6.out.size _).grown hgrow8 (by have := HB6.out.size; simp; omega) (fun q hq => own_ge HO6.out q hq)); have HO8 := Lib.hid hown8; clear hown8 hgrow8 hat8 hlt8)
          | fail)
        all_goals
          go_wp2_with fail
          go_roundw
          case rel => exact ⟨j, rfl, by omega, by rw [HSX.out, List.length_append, HMX.out, pcs_append, show pcs [(⟨2, (j : Int), r, site⟩ : Pr)] = Pr.cs ⟨2, j, r, site⟩ from by simp [pcs]]; exact HO8.out, HB8.out⟩
          case measure => simp [RowKit.intOf] <;> omega
      · have hd : decide (m < 0) = false := decide_eq_false hm
        rw [hd, if_neg (by decide), List.append_nil] at HSX
        clear hm
        go_wp2_with (first
          | (go_at_call 45; refine (HAT.out wr HB.out).mono ?_; rintro x5 w5 ⟨rfl, hb5⟩; have HB5 := Lib.hid (HB.out.trans (hb5.mono HB.out.size)); have HO5 := Lib.hid (owns_belE HO.out hb5); clear x0 x1 x2 heb hb5)
          | fail)
        go_roundw
        case rel => exact ⟨j, rfl, by omega, by rw [HSX.out, HMX.out]; exact HO5.out, HB5.out⟩
        case measure => simp [RowKit.intOf] <;> omega
      -- @X end
    · have h0 : k = 0 := by omega
      subst h0
      rw [← HPO.out] at ho
      have HO0 := Lib.hid ho
      have HB0x := Lib.hid hb
      rw [show ((0 : Nat) : Int) - 1 = -1 from rfl]
      clear ho hk0 hk
      -- @Y
      go_wp2_with fail
      go_loopw [8, 10] (fun s8 s10 wr => ∃ k : Nat, s10 = .int .i64 k ∧ k ≤ nb ∧ wr.ownsRow w4.heap.size 58 4 s8 (PO ++ pk VB (lk VA) gI k).length (pcs (PO ++ pk VB (lk VA) gI k)) ∧ Below w4.heap.size w4 wr) (fun _ s10 _ => nb - (RowKit.intOf s10).toNat)
      case atStart => exact ⟨0, rfl, Nat.zero_le _, by rw [pk_zero, List.append_nil]; exact HO0.out, HB0x.out⟩
      case round =>
        clear HO0 HB0x hb
        obtain ⟨k, rfl, hk, ho, hb⟩ := hrel
        by_cases hk0 : k < nb
        · have hpl := pk_len VB (lk VA) gI k
          have hSR := congrArg (PO ++ ·) (pk_succ VB (lk VA) gI k)
          simp only [← List.append_assoc] at hSR
          have hml : (PO ++ pk VB (lk VA) gI k).length ≤ 400 := by rw [List.length_append]; have := HL1.out; omega
          generalize PO ++ pk VB (lk VA) gI k = X at *
          obtain ⟨mx, hmx⟩ : ∃ q, X.length = q := ⟨_, rfl⟩
          have HMX := Lib.hid hmx
          rw [hmx] at ho hml
          clear hmx hpl
          obtain ⟨av, cv, hv⟩ := own_form ho
          subst hv
          have HO := Lib.hid ho
          have HM1 := Lib.hid (show mx + 1 ≤ maxLen from by unfold maxLen; omega)
          have HM2 := Lib.hid (show (mx + 1) * 32 ≤ 140737488355328 from by omega)
          have hjl : k < VB.length := by rw [HNB.out]; omega
          have hj1 : (k : Int) < (nb : Int) := by omega
          have hj0 : (0 : Int) ≤ (k : Int) := by omega
          obtain ⟨eb, eo, rfl, heb, x0, x1, x2⟩ := (HEB.out.below hb).cell k hjl
          have HAT := Lib.hid (fun wx (hx : Below w4.heap.size w4 wx) => At_any a1 c1 VA VB[k] wx (HEA.out.below hx) (by rw [HNA.out]; omega))
          rw [HNA.out] at HAT
          unfold IntB at HAT
          have HRE := Lib.hid (fun wx (hx : Below w4.heap.size w4 wx) => HCR.out VB[k] wx hx (HOB.out VB[k] (List.getElem_mem hjl)))
          have HGJ := Lib.hid (HGI.out k hjl)
          have hP1 := pk1_at hjl (lk VA) gI
          rw [HGJ.out, lk_at] at hP1
          have HSX := Lib.hid hSR
          clear hSR
          rw [hP1] at HSX
          have hmv := atI_le (l := VA) (e := VB[k])
          rw [HNA.out] at hmv
          have hm0 : -1 ≤ atI VA VB[k] := atI_ge _ _
          generalize atI VA VB[k] = m at *
          generalize rN VB[k] = r at *
          generalize VB[k] = e at *
          obtain ⟨qs, qq, qi⟩ := e
          unfold El.v at HAT HRE
          simp only at x0 x1 x2 HAT HRE
          clear hjl hP1 hk0 ho HGJ
          have HB := Lib.hid hb
          clear hb
          by_cases hm : m < 0
          · have hd : decide (m < 0) = true := decide_eq_true hm
            rw [hd, if_pos rfl] at HSX
            clear hm
            go_wp2_with (first
              | (go_at_call 45; refine (HAT.out wr HB.out).mono ?_; rintro x5 w5 ⟨rfl, hb5⟩; have y0 := (hb5.cell (p := ⟨eb, eo + k * 3, none⟩) heb).trans x0; have y1 := (hb5.cell (p := ⟨eb, eo + k * 3 + 1, none⟩) heb).trans x1; have y2 := (hb5.cell (p := ⟨eb, eo + k * 3 + 2, none⟩) heb).trans x2; have yl : eb < w5.heap.size := Nat.lt_of_lt_of_le heb hb5.size; have HB5 := Lib.hid (HB.out.trans (hb5.mono HB.out.size)); have HO5 := Lib.hid ((same_drew w5).owns (owns_belE HO.out hb5)); obtain ⟨s0, sl⟩ := HSI.out w5 HB5.out; clear x0 x1 x2 heb hb5)
              | fail)
            go_region_law (first
              | (go_simp; go_at_call 46; refine (HRE.out w5.drew HB5.out.drew).mono ?_; rintro x6 w6 ⟨rfl, hb6⟩; have HB6 := Lib.hid (HB5.out.drew.trans (hb6.mono HB5.out.size)); have HO6 := Lib.hid (owns_belE HO5.out hb6); obtain ⟨q0, ql⟩ := HSI.out w6 HB6.out; clear hb6)
              | (refine step_append_lies _ (by rfl) _ _ _ (by rfl) w4.heap.size 58 i0 (.agg #[.int .i64 0, .int .i64 0, .int .i32 0, .int .i64 0]) 4 32 Tryz.underlying31 hq0 hz0 hz1 hz2 (by rfl) (by decide) (.slice av mx cv) mx _ (by rfl) (HO6.out.alloc _) ⟨w6.heap.size, 0, none⟩ 1 1 (Pr.cs ⟨1, k, r, site⟩) (by rfl) (by rfl) (cell_prim_new _ ⟨1, k, r, site⟩ _) (pcs_one1 ⟨1, k, r, site⟩) (by omega) HM1.out HM2.out (by have := HB6.out.size; simp; omega) _ rfl ?_; intro g8 c8 w8 hown8 hgrow8 hat8 hlt8; have HB8 := Lib.hid ((HB6.out.alloc HB6.out.size _).grown hgrow8 (by have := HB6.out.size; simp; omega) (fun q hq => own_ge HO6.out q hq)); have HO8 := Lib.hid hown8; clear hown8 hgrow8 hat8 hlt8)
              | fail)
            all_goals
              go_wp2_with fail
              go_roundw
              case rel => exact ⟨k + 1, by go_num, by omega, by rw [HSX.out, List.length_append, HMX.out, pcs_append, show pcs [(⟨1, (k : Int), r, site⟩ : Pr)] = Pr.cs ⟨1, k, r, site⟩ from by simp [pcs]]; exact HO8.out, HB8.out⟩
              case measure => simp [RowKit.intOf] <;> omega
          · have hd : decide (m < 0) = false := decide_eq_false hm
            rw [hd, if_neg (by decide), List.append_nil] at HSX
            clear hm
            go_wp2_with (first
              | (go_at_call 45; refine (HAT.out wr HB.out).mono ?_; rintro x5 w5 ⟨rfl, hb5⟩; have HB5 := Lib.hid (HB.out.trans (hb5.mono HB.out.size)); have HO5 := Lib.hid (owns_belE HO.out hb5); clear x0 x1 x2 heb hb5)
              | fail)
            go_roundw
            case rel => exact ⟨k + 1, by go_num, by omega, by rw [HSX.out, HMX.out]; exact HO5.out, HB5.out⟩
            case measure => simp [RowKit.intOf] <;> omega
        · have h0 : k = nb := by omega
          subst h0
          rw [← HPI.out] at ho
          have HO9 := Lib.hid ho
          have HB9 := Lib.hid hb
          clear ho hb hk0 hk
          go_wp2_with fail
          go_ret
          exact ⟨_, rfl, owns_base HO9.out HW4.out.size, HW4.out.trans (HB9.out.mono HW4.out.size)⟩
      -- @Y end
end Go.Proofs.YtglfkoegkiplfaaGreatDoor
/- the page's Toggle: what it tells may stand behind the row -/
namespace Go.Proofs.YtglfkoegkiplfaaGreatDoor
open Go.RowKit Go.Lib Go.Sort

theorem rRow_o {l : List OpR} {o : OpD} (hr : rowP (OpR.os l)) (hts : o.text.size ≤ 60000) (a2 : Option Addr) (c2 : Nat) (L : List OpR) (wx : World) (hT : Tabs wx) (hl : L.length = l.length + 1) (hc : l.length + 1 ≤ c2) (hops : OpsAt wx a2 L) (hos : OpR.os L = OpR.os l ++ [o]) :
    Calls Tryz.prog 10 #[.slice a2 (l.length + 1) c2] wx (BoB (rowB (OpR.os l ++ [o])) wx) := by
  have hsz : Szs L := fun r hm => by
    have h1 : r.o ∈ OpR.os L := List.mem_map_of_mem hm
    rw [hos, List.mem_append, List.mem_singleton] at h1
    rcases h1 with h1 | h1
    · have := (okOp_text (row_ok hr.2 r.o h1)).2.2
      omega
    · rw [h1]
      exact hts
  have h9 := rRow_any a2 c2 L wx hT hsz hops (by omega)
  rw [hl, hos] at h9
  exact h9
theorem cells11P {w : World} {b : Nat} {t : TypeId} {c0 c1 c2 c3 c4 c5 c6 c7 c8 c9 ca : Value} (h : w.heap[b]? = some (.cells #[c0, c1, c2, c3, c4, c5, c6, c7, c8, c9, ca] t (0, 0))) :
    w.cell? ⟨b, 0, none⟩ = some c0 ∧ w.cell? ⟨b, 1, none⟩ = some c1 ∧ w.cell? ⟨b, 2, none⟩ = some c2 ∧ w.cell? ⟨b, 3, none⟩ = some c3 ∧ w.cell? ⟨b, 4, none⟩ = some c4 ∧ w.cell? ⟨b, 5, none⟩ = some c5 ∧ w.cell? ⟨b, 6, none⟩ = some c6 ∧ w.cell? ⟨b, 7, none⟩ = some c7 ∧ w.cell? ⟨b, 8, none⟩ = some c8 ∧ w.cell? ⟨b, 9, none⟩ = some c9 ∧ w.cell? ⟨b, 10, none⟩ = some ca ∧ (∀ c, w.frozen? ⟨b, c, none⟩ = false) ∧ b < w.heap.size := by
  refine ⟨?_, ?_, ?_, ?_, ?_, ?_, ?_, ?_, ?_, ?_, ?_, fun c => ?_, (Array.getElem?_eq_some_iff.1 h).1⟩
  all_goals first | (simp [World.cell?, h]; done) | (simp [World.frozen?, h])
def zopV : Value := .agg #[.int .i64 0, .int .i64 0, .int .i64 0, .int .i64 0, .int .i64 0, .int .i64 0, .string ⟨#[]⟩, .slice none 0 0, .int .i64 0, .int .i64 0, .int .i64 0]
/-- an op that may stand behind the row, or an error -/
def RepPost (D : List OpD) (w : World) (e : Ending) (w' : World) : Prop := ∃ (o : OpD) (oa : Option Addr) (oc : Nat) (er : Int), e = .returned (.tuple #[o.v oa oc, .int .i64 er]) ∧ (er = 0 → OpAt w' o oa oc ∧ rowP (D ++ [o])) ∧ (∀ ad, oa = some ad → w.heap.size ≤ ad.block) ∧ Below w.heap.size w w'
theorem rep_err (D : List OpD) (w w' : World) (er : Int) (he : ¬ er = 0) (hb : Below w.heap.size w w') : RepPost D w (.returned (.tuple #[zopV, .int .i64 er])) w' :=
  ⟨⟨0, 0, 0, ⟨0, 0, 0⟩, ⟨#[]⟩, [], 0, 0, 0⟩, none, 0, er, rfl, fun h => absurd h he, (fun ad h => by cases h), hb⟩
theorem set11 {w w0 : World} {b : Nat} (hb : Below b w w0) (v0 v1 v2 v3 v4 v5 v6 v7 v8 v9 va : Value) : Below b w (((((((((((w0.setCell ⟨b, 0, none⟩ v0).setCell ⟨b, 1, none⟩ v1).setCell ⟨b, 2, none⟩ v2).setCell ⟨b, 3, none⟩ v3).setCell ⟨b, 4, none⟩ v4).setCell ⟨b, 5, none⟩ v5).setCell ⟨b, 6, none⟩ v6).setCell ⟨b, 7, none⟩ v7).setCell ⟨b, 8, none⟩ v8).setCell ⟨b, 9, none⟩ v9).setCell ⟨b, 10, none⟩ va) := by
  have hg : b ≤ b := Nat.le_refl _
  iterate 11 (refine Below.setCell ?_ hg _)
  exact hb
theorem cnt_small {l : List OpD} (hr : rowP l) (s : Int) : cnt l s ≤ 40 := Nat.le_trans (cnt_le l s) hr.1
set_option maxRecDepth 100000 in
set_option maxHeartbeats 4000000 in
theorem rToggle_any (a : Option Addr) (cap : Nat) (l : List OpR) (site of_ num : Int) (w : World) (hT : Tabs w) (h : OpsAt w a l) (hr : rowP (OpR.os l)) :
    Calls Tryz.prog 55 #[.slice a l.length cap, .int .i64 site, .int .i64 of_, .int .i64 num] w (RepPost (OpR.os l) w) := by
  have HED := Lib.hid (fun wx (hx : Below w.heap.size w wx) => rEdit_any a cap l of_ num wx (h.below hx))
  have HMN := Lib.hid (fun wx (hx : Below w.heap.size w wx) => rMany_any a cap l site wx (h.below hx))
  have HCO := Lib.hid (fun wx (hx : Below w.heap.size w wx) => rCount_any a cap l of_ num wx (h.below hx))
  have HBH := Lib.hid (fun (s q k : Int) wx (hx : Below w.heap.size w wx) => rBehind_o a cap l ⟨s, q, 2, ⟨0, 0, 0⟩, ⟨#[]⟩, [], of_, num, k⟩ none 0 wx (h.below hx) hr (ElemsAt.nil none) (Nat.zero_le _) (Nat.zero_le _))
  have HRW := Lib.hid (fun (s q k : Int) (a2 : Option Addr) (c2 : Nat) (L : List OpR) wx (hx : Below w.heap.size w wx) (hl : L.length = l.length + 1) (hc : l.length + 1 ≤ c2) (hops : OpsAt wx a2 L) (hos : OpR.os L = OpR.os l ++ [⟨s, q, 2, ⟨0, 0, 0⟩, ⟨#[]⟩, [], of_, num, k⟩]) => rRow_o hr (Nat.zero_le _) a2 c2 L wx (hT.next hx) hl hc hops hos)
  have HOK := Lib.hid (fun (s q k : Int) wx => (⟨ElemsAt.nil none, Nat.zero_le _, Nat.zero_le _, fun _ => ⟨rfl, rfl⟩⟩ : OpAt wx ⟨s, q, 2, ⟨0, 0, 0⟩, ⟨#[]⟩, [], of_, num, k⟩ none 0))
  have hcn := cnt_small hr site
  unfold BoB at HED HRW
  unfold IntB at HMN HCO
  unfold BehO OpD.v at HBH
  generalize OpR.os l = D at *
  generalize edt D of_ num = be at *
  generalize cnt D site = qn at *
  generalize ct D of_ num = kn at *
  obtain ⟨n, hln⟩ : ∃ n, l.length = n := ⟨_, rfl⟩
  rw [hln] at HED HMN HCO HBH HRW ⊢
  clear h hr hT hln
  have hqn : ((qn : Nat) : Int) ≤ 40 := by omega
  have HQ0 := Lib.hid (show (w.alloc (.cells #[.int .i64 0, .int .i64 0, .int .i64 0, .int .i64 0, .int .i64 0, .int .i64 0, .string ⟨#[]⟩, .slice none 0 0, .int .i64 0, .int .i64 0, .int .i64 0] 48)).heap[w.heap.size]? = some (.cells #[.int .i64 0, .int .i64 0, .int .i64 0, .int .i64 0, .int .i64 0, .int .i64 0, .string ⟨#[]⟩, .slice none 0 0, .int .i64 0, .int .i64 0, .int .i64 0] 48) from heap_alloc_new _ _)
  have HB0 := Lib.hid (show Below w.heap.size w (w.alloc (.cells #[.int .i64 0, .int .i64 0, .int .i64 0, .int .i64 0, .int .i64 0, .int .i64 0, .string ⟨#[]⟩, .slice none 0 0, .int .i64 0, .int .i64 0, .int .i64 0] 48)) from (Below.refl _ _).alloc (Nat.le_refl _) _)
  have HS0 := Lib.hid (show w.heap.size < (w.alloc (.cells #[.int .i64 0, .int .i64 0, .int .i64 0, .int .i64 0, .int .i64 0, .int .i64 0, .string ⟨#[]⟩, .slice none 0 0, .int .i64 0, .int .i64 0, .int .i64 0] 48)).heap.size by simp)
  clear hcn
  go_enter Tryz.func55, Tryz.ntmps55
  cases be
  · go_wp2_with (first
      | (go_at_call 59; refine (HED.out _ HB0.out).mono ?_; rintro x1 w1 ⟨rfl, hb1⟩; have HB1 := Lib.hid (HB0.out.trans (hb1.mono HB0.out.size)); obtain ⟨p0, p1, p2, p3, p4, p5, p6, p7, p8, p9, pa, pf, pl⟩ := cells11P ((hb1.block w.heap.size HS0.out).trans HQ0.out); clear hb1)
      | fail)
    refine bodyPost_ret (v := .tuple #[zopV, .int .i64 3]) (by simp [zopV, results, Tryz.results55, go_sem, p0, p1, p2, p3, p4, p5, p6, p7, p8, p9, pa]) rfl (rep_err D w _ 3 (by decide) ?_)
    exact set11 HB1.out _ _ _ _ _ _ _ _ _ _ _
  · go_upto_region 4 with (first
      | (go_at_call 59; refine (HED.out _ HB0.out).mono ?_; rintro x1 w1 ⟨rfl, hb1⟩; have HB1 := Lib.hid (HB0.out.trans (hb1.mono HB0.out.size)); have HQ1 := Lib.hid ((hb1.block w.heap.size HS0.out).trans HQ0.out); have HS1 := Lib.hid (Nat.lt_of_lt_of_le HS0.out hb1.size); clear hb1)
      | (go_at_call 20; refine (HMN.out w1 HB1.out).mono ?_; rintro x2 w2 ⟨rfl, hb2⟩; have HB2 := Lib.hid (HB1.out.trans (hb2.mono HB1.out.size)); have HQ2 := Lib.hid ((hb2.block w.heap.size HS1.out).trans HQ1.out); have HS2 := Lib.hid (Nat.lt_of_lt_of_le HS1.out hb2.size); clear hb2)
      | (go_at_call 80; refine (HCO.out w2 HB2.out).mono ?_; rintro x3 w3 ⟨rfl, hb3⟩; have HB3 := Lib.hid (HB2.out.trans (hb3.mono HB2.out.size)); have HQ3 := Lib.hid ((hb3.block w.heap.size HS2.out).trans HQ2.out); have HS3 := Lib.hid (Nat.lt_of_lt_of_le HS2.out hb3.size); clear hb3)
      | fail)
    have hba := (Below.refl w3.heap.size w3).alloc (Nat.le_refl _) (.cells #[.int .i64 site, .int .i64 ((qn : Int) + 1), .int .i64 2, .int .i64 0, .int .i64 0, .int .i64 0, .string ⟨#[]⟩, .slice none 0 0, .int .i64 of_, .int .i64 num, .int .i64 kn] 48)
    have HBa := Lib.hid (HB3.out.trans (hba.mono HB3.out.size))
    have HQa := Lib.hid ((hba.block w.heap.size HS3.out).trans HQ3.out)
    have hbx := heap_alloc_new w3 (.cells #[.int .i64 site, .int .i64 ((qn : Int) + 1), .int .i64 2, .int .i64 0, .int .i64 0, .int .i64 0, .string ⟨#[]⟩, .slice none 0 0, .int .i64 of_, .int .i64 num, .int .i64 kn] 48)
    have HSa := Lib.hid (Nat.lt_of_lt_of_le HS3.out hba.size)
    clear hba
    generalize w3.alloc (.cells #[.int .i64 site, .int .i64 ((qn : Int) + 1), .int .i64 2, .int .i64 0, .int .i64 0, .int .i64 0, .string ⟨#[]⟩, .slice none 0 0, .int .i64 of_, .int .i64 num, .int .i64 kn] 48) = wa at *
    generalize w3.heap.size = bx at *
    have HBX := Lib.hid hbx
    obtain ⟨k0, k1, k2, k3, k4, k5, k6, k7, k8, k9, ka, kf, kl⟩ := cells11P hbx
    have HRW2 := Lib.hid (fun (a2 : Option Addr) (c2 : Nat) (L : List OpR) wx => HRW.out site ((qn : Int) + 1) kn a2 c2 L wx)
    have HFI := Lib.hid (fun wx (hr2 : rowP (D ++ [⟨site, (qn : Int) + 1, 2, ⟨0, 0, 0⟩, ⟨#[]⟩, [], of_, num, kn⟩])) (hx : Below w.heap.size w wx) => (⟨⟨site, (qn : Int) + 1, 2, ⟨0, 0, 0⟩, ⟨#[]⟩, [], of_, num, kn⟩, none, 0, 0, rfl, fun _ => ⟨HOK.out _ _ _ wx, hr2⟩, (fun ad h => by cases h), hx⟩ : RepPost D w (.returned (.tuple #[.agg #[.int .i64 site, .int .i64 ((qn : Int) + 1), .int .i64 2, .int .i64 0, .int .i64 0, .int .i64 0, .string ⟨#[]⟩, .slice none 0 0, .int .i64 of_, .int .i64 num, .int .i64 kn], .int .i64 0])) wx))
    have HRB := Lib.hid (rowB_iff (D ++ [⟨site, (qn : Int) + 1, 2, ⟨0, 0, 0⟩, ⟨#[]⟩, [], of_, num, kn⟩]))
    generalize rowB (D ++ [⟨site, (qn : Int) + 1, 2, ⟨0, 0, 0⟩, ⟨#[]⟩, [], of_, num, kn⟩]) = bb at *
    have HBB := Lib.hid (show bb = true → rowP (D ++ [⟨site, (qn : Int) + 1, 2, ⟨0, 0, 0⟩, ⟨#[]⟩, [], of_, num, kn⟩]) from fun hb => HRB.out.1 hb)
    clear HRB hbx
    cases bb
    · go_wp2_with (first
        | (go_at_call 22; refine (HBH.out site ((qn : Int) + 1) kn wa HBa.out).mono ?_; rintro x4 w4 ⟨a4, c4, L4, rfl, hl4, hc4, hops4, hos4, hb4⟩; have HB4 := Lib.hid (HBa.out.trans (hb4.mono HBa.out.size)); have HQ4 := Lib.hid ((hb4.block w.heap.size HSa.out).trans HQa.out); have HS4 := Lib.hid (Nat.lt_of_lt_of_le HSa.out hb4.size); have HR4 := Lib.hid (HRW2.out a4 c4 L4 w4 HB4.out hl4 hc4 hops4 hos4); clear hb4 hl4 hc4 hops4 hos4 k0 k1 k2 k3 k4 k5 k6 k7 k8 k9 ka kf kl)
        | (go_at_call 10; refine HR4.out.mono ?_; rintro x5 w5 ⟨rfl, hb5⟩; have HB5 := Lib.hid (HB4.out.trans (hb5.mono HB4.out.size)); obtain ⟨p0, p1, p2, p3, p4, p5, p6, p7, p8, p9, pa, pf, pl⟩ := cells11P ((hb5.block w.heap.size HS4.out).trans HQ4.out); clear hb5)
        | fail)
      refine bodyPost_ret (v := .tuple #[zopV, .int .i64 6]) (by simp [zopV, results, Tryz.results55, go_sem, p0, p1, p2, p3, p4, p5, p6, p7, p8, p9, pa]) rfl (rep_err D w _ 6 (by decide) ?_)
      exact set11 HB5.out _ _ _ _ _ _ _ _ _ _ _
    · go_wp2_with (first
        | (go_at_call 22; refine (HBH.out site ((qn : Int) + 1) kn wa HBa.out).mono ?_; rintro x4 w4 ⟨a4, c4, L4, rfl, hl4, hc4, hops4, hos4, hb4⟩; have HB4 := Lib.hid (HBa.out.trans (hb4.mono HBa.out.size)); have HQ4 := Lib.hid ((hb4.block w.heap.size HSa.out).trans HQa.out); have HS4 := Lib.hid (Nat.lt_of_lt_of_le HSa.out hb4.size); have HX4 := Lib.hid ((hb4.block bx kl).trans HBX.out); have HXL := Lib.hid (Nat.lt_of_lt_of_le kl hb4.size); have HR4 := Lib.hid (HRW2.out a4 c4 L4 w4 HB4.out hl4 hc4 hops4 hos4); clear hb4 hl4 hc4 hops4 hos4 k0 k1 k2 k3 k4 k5 k6 k7 k8 k9 ka kf kl)
        | (go_at_call 10; refine HR4.out.mono ?_; rintro x5 w5 ⟨rfl, hb5⟩; have HB5 := Lib.hid (HB4.out.trans (hb5.mono HB4.out.size)); obtain ⟨p0, p1, p2, p3, p4, p5, p6, p7, p8, p9, pa, pf, pl⟩ := cells11P ((hb5.block w.heap.size HS4.out).trans HQ4.out); obtain ⟨q0, q1, q2, q3, q4, q5, q6, q7, q8, q9, qa, qf, ql⟩ := cells11P ((hb5.block bx HXL.out).trans HX4.out); clear hb5)
        | fail)
      refine bodyPost_ret (v := .tuple #[.agg #[.int .i64 site, .int .i64 ((qn : Int) + 1), .int .i64 2, .int .i64 0, .int .i64 0, .int .i64 0, .string ⟨#[]⟩, .slice none 0 0, .int .i64 of_, .int .i64 num, .int .i64 kn], .int .i64 0]) (by simp [results, Tryz.results55, go_sem, p0, p1, p2, p3, p4, p5, p6, p7, p8, p9, pa]) rfl (HFI.out _ (HBB.out (by first | rfl | trivial)) ?_)
      exact set11 HB5.out _ _ _ _ _ _ _ _ _ _ _
end Go.Proofs.YtglfkoegkiplfaaGreatDoor
/- lectionarylaw10.num, wakes -/
namespace Go.Proofs.YtglfkoegkiplfaaGreatDoor
open Go.RowKit Go.Lib Go.Sort

theorem num10_same (n : Int) (w : World) : Calls Tryz.prog 16 #[.int .i64 n] w fun e w' => e = .returned (.int .i64 n) ∧ w' = w := by
  go_enter Tryz.func16, Tryz.ntmps16
  go_wp2
  go_ret
  exact ⟨rfl, rfl⟩
def qO : OpD := ⟨1, 1, 1, ⟨0, 0, 0⟩, ⟨#[97, 98]⟩, [], 0, 0, 0⟩
theorem qO_row : rowP [qO] := ⟨by decide, fun k hk => by
  have h0 : k = 0 := by simp at hk; exact hk
  subst h0
  show tk [] qO = true
  kernel_rfl⟩
theorem qnil_row : rowP [] := ⟨Nat.zero_le _, fun k hk => absurd hk (by simp)⟩
theorem qO_path : pathP [] qO = [⟨1, 0, 97, 1⟩, ⟨1, 1, 98, 1⟩] := by kernel_rfl
theorem qO_all : allK [qO] 1 = [⟨1, 0, 97, 1⟩, ⟨1, 1, 98, 1⟩] := by
  rw [show (1 : Nat) = 0 + 1 from rfl, allK_succ (by decide), allK_zero]
  show [] ++ pathP [] qO = _
  rw [qO_path]
  rfl
theorem qops_nil (w : World) : OpsAt w none [] := ⟨fun j hj => absurd hj (by simp), fun j hj => absurd hj (by simp), by decide⟩
theorem opsP_one {w : World} {r : OpR} (ho : OpAt w r.o r.a r.cap) : OpsAt (w.alloc (.cells #[.int .i64 r.o.site, .int .i64 r.o.seq, .int .i64 r.o.kind, .int .i64 r.o.after.s, .int .i64 r.o.after.q, .int .i64 r.o.after.i, .string r.o.text, .slice r.a r.o.gone.length r.cap, .int .i64 r.o.of, .int .i64 r.o.num, .int .i64 r.o.gen] 48)) (some ⟨w.heap.size, 0, none⟩) [r] :=
  ⟨fun j hj => by
    have h0 : j = 0 := by simp at hj; exact hj
    subst h0
    refine ⟨w.heap.size, 0, rfl, by simp, fun c u hu => ?_⟩
    have h9 := cell_op_newR w r 48 c u hu
    rw [Addr.add_lit] at h9
    simpa using h9, fun j hj => by
    have h0 : j = 0 := by simp at hj; exact hj
    subst h0
    exact ho.below ((Below.refl _ _).alloc (Nat.le_refl _) _), by show 1 ≤ BIG; unfold BIG; omega⟩
theorem qO_at (w : World) : OpAt w qO none 0 := ⟨ElemsAt.nil none, Nat.zero_le _, by show 2 ≤ BIG; unfold BIG; omega, fun _ => ⟨rfl, rfl⟩⟩
theorem qO_of (w : World) : Calls Tryz.prog 21 #[.slice none 0 0, .agg #[.int .i64 1, .int .i64 1, .int .i64 1, .int .i64 0, .int .i64 0, .int .i64 0, .string ⟨#[97, 98]⟩, .slice none 0 0, .int .i64 0, .int .i64 0, .int .i64 0]] w fun e w' => ∃ a c, e = .returned (.tuple #[.slice a 2 c, .int .i64 0]) ∧ Below w.heap.size w w' := by
  have h := pOf_ok none 0 [] qO none 0 w (qops_nil w) (Nat.le_refl _) qnil_row (qO_at w) qO_row
  refine h.mono ?_
  rintro e w' ⟨v, rfl, hown, hb⟩
  rw [show OpR.os [] = [] from rfl, qO_path] at hown
  obtain ⟨a, c, hv, -⟩ := prims_own hown
  exact ⟨a, c, by rw [hv]; rfl, hb⟩
theorem qO_play (w : World) : Calls Tryz.prog 12 #[.slice (some ⟨w.heap.size, 0, none⟩) 1 1] (w.alloc (.cells #[.int .i64 1, .int .i64 1, .int .i64 1, .int .i64 0, .int .i64 0, .int .i64 0, .string ⟨#[97, 98]⟩, .slice none 0 0, .int .i64 0, .int .i64 0, .int .i64 0] 48)) fun e w' => e = .returned (.tuple #[S [97, 98], .int .i64 0]) ∧ Below w.heap.size w w' := by
  have hops := opsP_one (w := w) (r := ⟨qO, none, 0⟩) (qO_at w)
  have h := pPlay_app (some ⟨w.heap.size, 0, none⟩) 1 [⟨qO, none, 0⟩] _ hops (Nat.le_refl _) qO_row (fun i hi => by
    have e0 : allK (OpR.os [⟨qO, none, 0⟩]) ([⟨qO, none, 0⟩] : List OpR).length = [⟨1, 0, 97, 1⟩, ⟨1, 1, 98, 1⟩] := qO_all
    have hi2 : i < 2 := by rw [e0] at hi; exact hi
    have h01 : i = 0 ∨ i = 1 := by omega
    rcases h01 with rfl | rfl
    · simp only [e0]; exact ⟨rfl, rfl⟩
    · simp only [e0]; exact ⟨rfl, rfl⟩)
  have e0 : allK (OpR.os [⟨qO, none, 0⟩]) ([⟨qO, none, 0⟩] : List OpR).length = [⟨1, 0, 97, 1⟩, ⟨1, 1, 98, 1⟩] := qO_all
  rw [e0] at h
  have e1 : Go.Proofs.YtglfkoegkiplfaaGreatDoor.mk (([⟨1, 0, 97, 1⟩, ⟨1, 1, 98, 1⟩] : List Pr).map Pr.r) = [97, 98] := by kernel_rfl
  rw [e1] at h
  refine Calls.mono h ?_
  rintro e w' ⟨rfl, hb⟩
  exact ⟨rfl, ((Below.refl w.heap.size w).alloc (Nat.le_refl _) _).trans (hb.mono (by simp))⟩
set_option maxRecDepth 100000 in
set_option maxHeartbeats 2000000 in
theorem wakes10_any (w : World) : Calls Tryz.prog 25 #[] w (BoB true w) := by
  have HOF := Lib.hid qO_of
  have HPL := Lib.hid qO_play
  have hq0 : (w.alloc (.cells #[.int .i64 1, .int .i64 1, .int .i64 1, .int .i64 0, .int .i64 0, .int .i64 0, .string ⟨#[97, 98]⟩, .slice none 0 0, .int .i64 0, .int .i64 0, .int .i64 0] 48)).heap[w.heap.size]? = some (.cells #[.int .i64 1, .int .i64 1, .int .i64 1, .int .i64 0, .int .i64 0, .int .i64 0, .string ⟨#[97, 98]⟩, .slice none 0 0, .int .i64 0, .int .i64 0, .int .i64 0] 48) := heap_alloc_new _ _
  have HQ := Lib.hid hq0
  have HB0 := Lib.hid (show Below w.heap.size w (w.alloc (.cells #[.int .i64 1, .int .i64 1, .int .i64 1, .int .i64 0, .int .i64 0, .int .i64 0, .string ⟨#[97, 98]⟩, .slice none 0 0, .int .i64 0, .int .i64 0, .int .i64 0] 48)) from (Below.refl _ _).alloc (Nat.le_refl _) _)
  clear hq0
  go_enter Tryz.func25, Tryz.ntmps25
  go_wp2_with (first
    | (go_at_call 21; refine (HOF.out _).mono ?_; rintro x1 w1 ⟨a1, c1, rfl, hb1⟩; have HB1 := Lib.hid (HB0.out.trans (hb1.mono HB0.out.size)); obtain ⟨k0, k1, k2, k3, k4, k5, k6, k7, k8, k9, ka, kf, kl⟩ := cells11P ((hb1.block w.heap.size (by simp)).trans HQ.out); clear hb1)
    | (go_at_call 12; refine (HPL.out w1).mono ?_; rintro x2 w2 ⟨rfl, hb2⟩; have HB2 := Lib.hid (HB1.out.trans (hb2.mono HB1.out.size)); clear hb2 k0 k1 k2 k3 k4 k5 k6 k7 k8 k9 ka kf kl)
    | (go_at_call 16; refine (num10_same _ _).mono ?_; rintro x7 w7 ⟨rfl, h7⟩; have h7s := h7.symm; clear h7; subst h7s)
    | fail)
  go_ret
  exact ⟨rfl, HB2.out⟩
end Go.Proofs.YtglfkoegkiplfaaGreatDoor
