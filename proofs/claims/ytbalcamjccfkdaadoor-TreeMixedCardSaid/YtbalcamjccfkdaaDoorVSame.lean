/- lectionarylaw5.same: the walk -/
import Derived.Test.YtbalcamjccfkdaaDoorVRow2
import Derived.Test.YtbalcamjccfkdaaDoorROrders
import Derived.Test.YtbalcamjccfkdaaDoorVWakes
namespace Go.Proofs.YtbalcamjccfkdaaDoor
open Go.RowKit Go.Lib

theorem ord_inv {l : List OpD} (hr : rowP l) : RInv l := by
  have h := row_inv hr.2 l.length (Nat.le_refl _)
  rw [List.take_length] at h
  exact h
theorem ord_len {l : List OpD} (hr : rowP l) : (ordE l).length ≤ 200 := by
  unfold ordE
  rw [List.length_map, (ord_inv hr).len]
  exact row_tot hr.2
theorem un_len {l : List OpD} (hr : rowP l) (e : El) : (unE l e).length ≤ 200 := by
  unfold unE
  rw [List.length_map]
  refine Nat.le_trans (kids_length _ _) ?_
  rw [(ord_inv hr).len]
  exact row_tot hr.2
theorem ord_at {l : List OpD} (hr : rowP l) {k : Nat} (hk : k < (ordE l).length) : atI (ordE l) (ordE l)[k] = k := by
  have hinv := ord_inv hr
  refine atI_at (List.getElem?_eq_getElem hk) (fun j x hj hx he => ?_)
  obtain ⟨h1, h2⟩ := List.getElem?_eq_some_iff.1 hx
  unfold ordE at h1 hk h2 he
  rw [List.length_map] at h1 hk
  rw [List.getElem_map] at h2
  have h3 : ((ordT l)[j]).nd.e = ((ordT l)[k]).nd.e := by
    rw [h2, he]
    exact List.getElem_map ..
  have := hinv.ord.nodup j k _ _ (List.getElem?_eq_getElem h1) (List.getElem?_eq_getElem hk) h3
  omega
theorem ord_i {l : List OpD} (hr : rowP l) {e : El} (he : e ∈ ordE l) : 0 ≤ e.i ∧ e.i ≤ 1000 := by
  have hinv := ord_inv hr
  unfold ordE at he
  obtain ⟨u, hu, rfl⟩ := List.mem_map.1 he
  obtain ⟨m, hm⟩ := List.mem_iff_getElem?.1 hu
  obtain ⟨h0, c, h1, h2⟩ := (hinv.mem u.nd.e).1 ⟨m, u, hm, rfl⟩
  have := (hinv.edk _ _ h1).2.2.2.2.2
  omega
theorem und_false {X : List El} {w w' : World} {x : Ending} (h : UndPost false X w x w') : ∃ v, x = .returned (.tuple #[v, .int .i64 0]) ∧ w'.ownsRow w.heap.size 31 3 v X.length (ecs X) ∧ Below w.heap.size w w' := by
  rcases h with ⟨_, ⟨v, h1, h2⟩, h3⟩ | ⟨h, _⟩
  · exact ⟨v, h1, h2, h3⟩
  · cases h
set_option maxRecDepth 100000 in
set_option maxHeartbeats 16000000 in
theorem same_any (p : AskD) (kind c : Nat) (W : World) (hT : Tabs W) (hrow : ∀ (n : Nat) (wx : World), n ≤ 24 → Calls Tryd.prog 13 #[p.v, .int .i64 n, .int .i64 kind] wx (RowPost (mrow kind c n) wx)) : Calls Tryd.prog 8 #[p.v, .int .i64 kind] W (BoB true W) := by
  have HX := Lib.hid (BoxA.new W p)
  have hb0 : Below W.heap.size W (W.alloc p.obj) := (Below.refl _ _).alloc (Nat.le_refl _) _
  have HB0 := Lib.hid hb0
  have HWK := Lib.hid wakes_any
  have HTT := Lib.hid (hT.next hb0)
  have HROW := Lib.hid hrow
  clear hb0 hT hrow
  unfold AskD.v at HROW ⊢
  obtain ⟨lr, le, lo, ln, ar, ae, ao, an, cr, ce, co, cn⟩ := p
  unfold AskD.obj at HX HB0 HTT
  simp only at HX HB0 HTT HROW ⊢
  have HC0 := Lib.hid HX.out.c0
  have HC1 := Lib.hid HX.out.c1
  have HC2 := Lib.hid HX.out.c2
  have HC3 := Lib.hid HX.out.c3
  simp only at HC0 HC1 HC2 HC3
  generalize lr.length = n0 at *
  generalize le.length = n2 at *
  generalize lo.length = n1 at *
  generalize ln.length = n3 at *
  go_enter Tryd.func8, Tryd.ntmps8
  go_wp2_with fail
  generalize W.alloc (.cells #[.slice ar n0 cr, .slice ae n2 ce, .slice ao n1 co, .slice an n3 cn] 27) = W0 at *
  go_loopw [5] (fun s5 wr => ∃ n : Nat, s5 = .int .i64 n ∧ n ≤ 27 ∧ Below W0.heap.size W0 wr) (fun s5 _ => 28 - (RowKit.intOf s5).toNat)
  case atStart => exact ⟨0, rfl, Nat.zero_le _, Below.refl _ _⟩
  case round =>
    obtain ⟨n, rfl, hn, hb⟩ := hrel
    have HB := Lib.hid hb
    have p0 := (hb.cell (p := ⟨W.heap.size, 0, none⟩) HX.out.lt).trans HC0.out
    have p1 := (hb.cell (p := ⟨W.heap.size, 1, none⟩) HX.out.lt).trans HC1.out
    have p2 := (hb.cell (p := ⟨W.heap.size, 2, none⟩) HX.out.lt).trans HC2.out
    have p3 := (hb.cell (p := ⟨W.heap.size, 3, none⟩) HX.out.lt).trans HC3.out
    have hwl : W.heap.size < wr.heap.size := Nat.lt_of_lt_of_le HX.out.lt hb.size
    clear hb
    by_cases h24 : (n : Int) ≤ 24
    · have hok : rowP (mrow kind c n) := mrow_ok (by omega)
      have HOK := Lib.hid hok
      have HRW := Lib.hid (HROW.out n wr (by omega))
      unfold RowPost at HRW
      have HOW := Lib.hid (fun (B : Nat) (v : Value) (wx : World) (hx : wx.ownsRow B 33 11 v (mrow kind c n).length (ocs ((mrow kind c n).map mkR))) => (by
        have h9 := ops_own (L := (mrow kind c n).map mkR) (by rw [List.length_map]; exact hx) (mrow_at _ _ _ wx) (by rw [List.length_map, mrow_len]; unfold BIG; omega)
        rw [List.length_map, mrow_len] at h9
        exact h9 : ∃ a cp, v = .slice a n cp ∧ OpsAt wx a ((mrow kind c n).map mkR) ∧ n ≤ cp))
      have HOD := Lib.hid (fun (a : Option Addr) (cp : Nat) wx (hx : OpsAt wx a ((mrow kind c n).map mkR)) => (by have h9 := tOrder_ok a cp _ wx hx (by rw [os_mk]; exact hok); rw [os_mk, List.length_map, mrow_len] at h9; exact h9 : Calls Tryd.prog 14 #[.slice a n cp] wx (OrdPost (mrow kind c n) wx)))
      have HPR := Lib.hid (fun (a : Option Addr) (cp : Nat) wx (hx : OpsAt wx a ((mrow kind c n).map mkR)) (hbx : Below W0.heap.size W0 wx) (hc : n ≤ cp) => (by have h9 := rRow_any a cp _ wx (HTT.out.next hbx) (mrow_szs _ _ _) hx (by rw [List.length_map, mrow_len]; exact hc); rw [os_mk, List.length_map, mrow_len, (rowB_iff _).2 hok] at h9; exact h9 : Calls Tryd.prog 11 #[.slice a n cp] wx (BoB true wx)))
      have HPO := Lib.hid (fun (a : Option Addr) (cp : Nat) wx (hx : OpsAt wx a ((mrow kind c n).map mkR)) (hbx : Below W0.heap.size W0 wx) => (by have h9 := rOrder_any a cp _ wx (HTT.out.next hbx) (mrow_szs _ _ _) hx (by rw [os_mk]; exact hok); rw [os_mk, List.length_map, mrow_len] at h9; exact h9 : Calls Tryd.prog 16 #[.slice a n cp] wx (OwnPost (ordE (mrow kind c n)) wx)))
      have HUN := Lib.hid (fun (e : El) (he : e ∈ ordE (mrow kind c n)) (a : Option Addr) (cp : Nat) wx (hx : OpsAt wx a ((mrow kind c n).map mkR)) => (by have h9 := tUnder_any a cp _ e wx hx (by rw [os_mk]; exact hok) false (by rw [os_mk, decide_eq_true he]; simp); rw [os_mk, List.length_map, mrow_len] at h9; exact h9 : Calls Tryd.prog 17 #[.slice a n cp, e.v] wx (UndPost false (unE (mrow kind c n) e) wx)))
      have HPL := Lib.hid (fun (e : El) (he : e ∈ ordE (mrow kind c n)) (a : Option Addr) (cp : Nat) wx (hx : OpsAt wx a ((mrow kind c n).map mkR)) => (by have h9 := tPlace_at a cp _ e wx hx (by rw [os_mk]; exact hok) (by rw [os_mk]; exact he); rw [os_mk, List.length_map, mrow_len] at h9; exact h9 : Calls Tryd.prog 18 #[.slice a n cp, e.v] wx (PlacePost (atI (ordE (mrow kind c n)) e) 0 wx)))
      have HPU := Lib.hid (fun (e : El) (he : e ∈ ordE (mrow kind c n)) (a : Option Addr) (cp : Nat) wx (hx : OpsAt wx a ((mrow kind c n).map mkR)) (hbx : Below W0.heap.size W0 wx) => (by
        have h9 := rUnder_any a cp _ e wx (HTT.out.next hbx) (mrow_szs _ _ _) hx (by rw [List.length_map, mrow_len]; omega) (ord_i hok he).1 (ord_i hok he).2
        rw [os_mk, List.length_map, mrow_len, undP_eq hok.2 (.inr he)] at h9
        exact h9 : Calls Tryd.prog 19 #[.slice a n cp, e.v] wx (OwnPost (unE (mrow kind c n) e) wx)))
      have HAT := Lib.hid (fun k (hk : k < (ordE (mrow kind c n)).length) => ord_at hok hk)
      have hel := ord_len hok
      have HUL := Lib.hid (fun e => un_len hok e)
      clear hok HOK
      unfold OrdPost at HOD
      unfold OwnPost at HPO HPU
      generalize mrow kind c n = R at *
      generalize ordE R = E at *
      obtain ⟨ne, hne⟩ : ∃ k, E.length = k := ⟨_, rfl⟩
      have HNE := Lib.hid hne
      rw [hne] at HOD HPO hel
      clear hne
      go_wp2_with (first
        | (go_at_call 13; refine HRW.out.mono ?_; rintro x1 w1 ⟨v1, rfl, hown1, hb1⟩; obtain ⟨a1, cp1, hv1, hops1, hcp1⟩ := HOW.out _ _ _ hown1; have HP1 := Lib.hid hops1; have HCP := Lib.hid hcp1; have HB1 := Lib.hid (HB.out.trans (hb1.mono HB.out.size)); subst hv1; clear hown1 hb1 hops1 hcp1)
        | (go_at_call 14; refine (HOD.out _ _ _ HP1.out).mono ?_; rintro x2 w2 ⟨v2, rfl, hown2, hb2⟩; obtain ⟨a2, cp2, hv2, hel2, _⟩ := elems_own (by rw [HNE.out]; exact hown2); have HE2 := Lib.hid hel2; rw [HNE.out] at hv2; subst hv2; have HB2 := Lib.hid (HB1.out.trans (hb2.mono HB1.out.size)); have HP2 := Lib.hid (HP1.out.below hb2); clear hb2 hown2 hel2)
        | (go_at_call 11; refine (HPR.out _ _ _ HP2.out HB2.out HCP.out).mono ?_; rintro x3 w3 ⟨rfl, hb3⟩; have HE3 := Lib.hid (HE2.out.below hb3); have HB3 := Lib.hid (HB2.out.trans (hb3.mono HB2.out.size)); have HP3 := Lib.hid (HP2.out.below hb3); clear hb3)
        | (go_at_call 9; refine (num_same _ _).mono ?_; rintro x4 w3 ⟨rfl, rfl⟩)
        | (go_at_call 16; refine (HPO.out _ _ _ HP3.out HB3.out).mono ?_; rintro x5 w5 ⟨v5, rfl, hown5, hb5⟩; obtain ⟨a5, cp5, hv5, hel5, _⟩ := elems_own (by rw [HNE.out]; exact hown5); have HE5b := Lib.hid hel5; rw [HNE.out] at hv5; subst hv5; have HE5 := Lib.hid (HE3.out.below hb5); have HB5 := Lib.hid (HB3.out.trans (hb5.mono HB3.out.size)); have HP5 := Lib.hid (HP3.out.below hb5); have heq := EqElems_any a2 a5 cp2 cp5 E E w5 (HE3.out.below hb5) hel5 (by rw [HNE.out]; omega) (by rw [HNE.out]; omega); rw [HNE.out, decide_eq_true (rfl : E = E)] at heq; have HEQ := Lib.hid heq; clear hb5 hown5 hel5 heq)
        | (go_at_call 15; refine HEQ.out.mono ?_; rintro x6 w6 ⟨rfl, hb6⟩; have HE6 := Lib.hid (HE5.out.below hb6); have HB6 := Lib.hid (HB5.out.trans (hb6.mono HB5.out.size)); have HP6 := Lib.hid (HP5.out.below hb6); clear hb6)
        | fail)
      clear p0 p1 p2 p3 HRW HOW HOD HPR HPO HEQ
      go_loopw [9] (fun s9 wy => ∃ k : Nat, s9 = .int .i64 k ∧ k ≤ ne ∧ Below w6.heap.size w6 wy) (fun s9 _ => ne - (RowKit.intOf s9).toNat)
      case atStart => exact ⟨0, rfl, Nat.zero_le _, Below.refl _ _⟩
      case round =>
        obtain ⟨k, rfl, hk, hb⟩ := hrel
        have HBY := Lib.hid (HB6.out.trans (hb.mono HB6.out.size))
        have HBK := Lib.hid hb
        by_cases hlt : k < ne
        · have hkl : k < E.length := by rw [HNE.out]; exact hlt
          obtain ⟨b7, off7, hax, hbb7, x0, x1, x2⟩ := (HE6.out.below hb).cell k hkl
          subst hax
          have HPY := Lib.hid (HP6.out.below hb)
          have HAK := Lib.hid (HAT.out k hkl)
          have hmem : E[k] ∈ E := List.getElem_mem hkl
          have HU := Lib.hid (HUN.out _ hmem)
          have HPLK := Lib.hid (HPL.out _ hmem)
          have HPUK := Lib.hid (HPU.out _ hmem)
          have hul := HUL.out E[k]
          rw [HAK.out] at HPLK
          clear hb hmem HUN HPL HPU HUL HAT HAK
          generalize E[k] = e at *
          clear hkl
          generalize unE R e = U at *
          obtain ⟨nu, hnu⟩ : ∃ k, U.length = k := ⟨_, rfl⟩
          have HNU := Lib.hid hnu
          rw [hnu] at hul HPUK
          clear hnu
          obtain ⟨es, eq, ei⟩ := e
          unfold El.v at HU HPLK HPUK
          simp only at x0 x1 x2 HU HPLK HPUK
          go_wp2_with (first
            | (go_at_call 17; refine (HU.out _ _ _ HPY.out).mono ?_; rintro x8 w8 hu8; obtain ⟨v8, rfl, hown8, hb8⟩ := und_false hu8; obtain ⟨a8, cp8, hv8, hel8, _⟩ := elems_own hown8; rw [HNU.out] at hv8; subst hv8; have HE8 := Lib.hid hel8; have HB8 := Lib.hid (HBY.out.trans (hb8.mono HBY.out.size)); have HP8 := Lib.hid (HPY.out.below hb8); have y0 := (hb8.cell (p := ⟨b7, off7 + k * 3, none⟩) hbb7).trans x0; have y1 := (hb8.cell (p := ⟨b7, off7 + k * 3 + 1, none⟩) hbb7).trans x1; have y2 := (hb8.cell (p := ⟨b7, off7 + k * 3 + 2, none⟩) hbb7).trans x2; have hbb8 := Nat.lt_of_lt_of_le hbb7 hb8.size; have HK8 := Lib.hid (HBK.out.trans (hb8.mono HBK.out.size)); clear hb8 hown8 hel8)
            | (go_at_call 18; refine (HPLK.out _ _ _ HP8.out).mono ?_; rintro x9 w9 ⟨rfl, hb9⟩; have HE9 := Lib.hid (HE8.out.below hb9); have HB9 := Lib.hid (HB8.out.trans (hb9.mono HB8.out.size)); have HP9 := Lib.hid (HP8.out.below hb9); have z0 := (hb9.cell (p := ⟨b7, off7 + k * 3, none⟩) hbb8).trans y0; have z1 := (hb9.cell (p := ⟨b7, off7 + k * 3 + 1, none⟩) hbb8).trans y1; have z2 := (hb9.cell (p := ⟨b7, off7 + k * 3 + 2, none⟩) hbb8).trans y2; have hbb9 := Nat.lt_of_lt_of_le hbb8 hb9.size; have HK9 := Lib.hid (HK8.out.trans (hb9.mono HK8.out.size)); clear hb9)
            | (go_at_call 9; refine (num_same _ _).mono ?_; rintro x4 w9 ⟨rfl, rfl⟩)
            | (go_at_call 19; refine (HPUK.out _ _ _ HP9.out HB9.out).mono ?_; rintro x10 w10 ⟨v10, rfl, hown10, hb10⟩; obtain ⟨a10, cp10, hv10, hel10, _⟩ := elems_own (by rw [HNU.out]; exact hown10); rw [HNU.out] at hv10; subst hv10; have HK10 := Lib.hid (HK9.out.trans (hb10.mono HK9.out.size)); have heq := EqElems_any a8 a10 cp8 cp10 U U w10 (HE9.out.below hb10) hel10 (by rw [HNU.out]; omega) (by rw [HNU.out]; omega); rw [HNU.out, decide_eq_true (rfl : U = U)] at heq; have HEQ2 := Lib.hid heq; clear hb10 hown10 hel10 heq)
            | (go_at_call 15; refine HEQ2.out.mono ?_; rintro x11 w11 ⟨rfl, hb11⟩; have HK11 := Lib.hid (HK10.out.trans (hb11.mono HK10.out.size)); clear hb11)
            | fail)
          go_roundw
          case rel => exact ⟨k + 1, by go_num, by omega, HK11.out⟩
          case measure => simp [RowKit.intOf] <;> omega
        · have hd : decide (k < ne) = false := decide_eq_false hlt
          clear hb
          go_wp2_with fail
          go_roundw
          case rel => exact ⟨n + 3, by go_num, by omega, HBY.out⟩
          case measure => simp [RowKit.intOf] <;> omega
    · have hd : decide ((n : Int) ≤ 24) = false := decide_eq_false h24
      clear p0 p1 p2 p3
      go_wp2_with (first
        | (go_at_call 12; refine (HWK.out wr).mono ?_; rintro x12 w12 ⟨rfl, hb12⟩; have HB12 := Lib.hid (HB0.out.trans ((HB.out.trans (hb12.mono HB.out.size)).mono HB0.out.size)); clear hb12)
        | fail)
      go_ret
      exact ⟨rfl, HB12.out⟩
end Go.Proofs.YtbalcamjccfkdaaDoor
