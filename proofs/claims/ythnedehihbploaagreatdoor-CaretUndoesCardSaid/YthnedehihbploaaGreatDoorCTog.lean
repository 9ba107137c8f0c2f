import Derived.Test.YthnedehihbploaaGreatDoorCFace
import Derived.Test.YthnedehihbploaaGreatDoorDPure
/- Rows with toggles more. Pure. -/
namespace Go.Proofs.YthnedehihbploaaGreatDoor
open Go.RowKit Go.Lib

theorem okRow_more {l : List OpD} {o : OpD} (h : okRow l) (ht : tk l o = true) : okRow (l ++ [o]) := fun k hk => by
  by_cases hlt : k < l.length
  · rw [List.take_append_of_le_length (by omega), List.getElem_append_left hlt]
    exact h k hlt
  · have hk2 : k = l.length := by simp at hk; omega
    subst hk2
    rw [List.take_left, List.getElem_append_right (Nat.le_refl _)]
    simpa using ht
theorem row_nm {l : List OpD} (h : okRow l) : NInv l := by
  have := row_names h l.length (Nat.le_refl _)
  rwa [List.take_length] at this
theorem row_cv {l : List OpD} (h : okRow l) : CInv l := by
  have := row_ct h l.length (Nat.le_refl _)
  rwa [List.take_length] at this
def togD (s q a b g : Int) : OpD := ⟨s, q, 2, ⟨0, 0, 0⟩, ⟨#[]⟩, [], a, b, g⟩
theorem cnt_le_len (l : List OpD) (s : Int) : cnt l s ≤ l.length := List.length_filter_le _ _
theorem nR_none : nR ⟨#[]⟩ = 0 := by
  have h1 : rns ⟨#[]⟩ = [] := List.eq_nil_of_length_eq_zero (rns_zero.2 rfl)
  unfold nR
  rw [h1]
  split <;> rfl
theorem tog_tk {l : List OpD} (hr : okRow l) (hl : l.length ≤ 1000) {s a b g : Int} (hs : 1 ≤ s ∧ s ≤ 8) (hn : hasN l ⟨a, b, 0⟩ = true) (hg : 0 ≤ g ∧ g ≤ 268435456) : tk l (togD s ((cnt l s : Int) + 1) a b g) = true := by
  have hc := (row_cv hr).2 _ hn
  simp only at hc
  have h1 := cnt_le_len l s
  have h2 := cnt_le_len l a
  have ht := row_tot hr
  have hn1 : nameB s ((cnt l s : Int) + 1) = true := decide_eq_true (by omega)
  have hn2 : nameB a b = true := decide_eq_true (by omega)
  have hne : ¬ (a = s ∧ b = (cnt l s : Int) + 1) := by
    rintro ⟨h3, h4⟩
    rw [h3] at hc
    omega
  unfold tk
  simp only [Bool.and_eq_true]
  refine ⟨?_, decide_eq_true rfl, ?_, ?_, ?_, ?_⟩
  · unfold okOp togD
    simp only
    rw [hn1, if_neg (by decide), if_pos trivial]
    unfold okToggle
    simp only
    rw [hn2, decide_eq_false hne]
    simp only [El.begin, emptyB, btw, List.length_nil]
    simp [hg.1, hg.2]
  · unfold needs togD
    simp only
    rw [if_pos trivial]
    simpa using hn
  · rfl
  · rfl
  · unfold togD
    simp only
    rw [nR_none]
    exact decide_eq_true (by omega)
theorem tog_row {l : List OpD} (hr : rowP l) (h40 : l.length + 1 ≤ 40) {s a b g : Int} (hs : 1 ≤ s ∧ s ≤ 8) (hn : hasN l ⟨a, b, 0⟩ = true) (hg : 0 ≤ g ∧ g ≤ 268435456) : rowP (l ++ [togD s ((cnt l s : Int) + 1) a b g]) :=
  ⟨by rw [List.length_append]; exact h40, okRow_more hr.2 (tog_tk hr.2 (by omega) hs hn hg)⟩
theorem tog_has {l : List OpD} {s q a b g : Int} (e : El) : hasN (l ++ [togD s q a b g]) e = hasN l e := by
  rw [hasN_snoc]
  unfold togD
  simp
theorem tog_cnt (l : List OpD) (s q a b g : Int) : cnt (l ++ [togD s q a b g]) s = cnt l s + 1 := by
  rw [cnt_snoc]
  unfold togD
  simp
theorem tog_ct (l : List OpD) (s q a b g x y : Int) : ct (l ++ [togD s q a b g]) x y = if a = x ∧ b = y ∧ g = (ct l x y : Int) then ct l x y + 1 else ct l x y := by
  rw [ct_snoc]
  unfold togD
  simp
theorem tog_ord (l : List OpD) (s q a b g : Int) : ordE (l ++ [togD s q a b g]) = ordE l := by
  have hb : blk (togD s q a b g) l.length = [] := by
    refine List.eq_nil_of_length_eq_zero ?_
    rw [blk_length]
    exact nR_none
  unfold ordE
  rw [ordT_snoc, hb, lay_nil]
theorem tog_gone (L l : List OpD) (s q a b g : Int) (e : El) : goneE L (l ++ [togD s q a b g]) e = goneE L l e := by
  rw [goneE_snoc]
  unfold togD
  simp
theorem gone_ev {L L' : List OpD} (h : ∀ x y, evn L x y = evn L' x y) (m : List OpD) (e : El) : goneE L m e = goneE L' m e := by
  unfold goneE
  congr 1
  funext o
  rw [h]
theorem tog_rn {l : List OpD} (hr : okRow l) {s a b g : Int} {e : El} (he : e ∈ ordE l) : rnE (l ++ [togD s ((cnt l s : Int) + 1) a b g]) e = rnE l e := by
  obtain ⟨h1, _⟩ := ord_edit hr he
  have hn := row_nm hr
  unfold rnE
  rw [rnP_snoc hn (o := togD s ((cnt l s : Int) + 1) a b g) rfl, if_neg]
  rintro ⟨h3, h4⟩
  rcases hn e.s e.q with ⟨h5, _⟩ | ⟨p, _, _, h6, _⟩
  · omega
  · unfold togD at h3 h4
    simp only at h3 h4
    rw [h3] at h6
    omega
/-- where the edits that are effective are the same, so is the text -/
theorem tog_vis1 {l : List OpD} {s q a b g : Int} (h : ∀ x y, evn (l ++ [togD s q a b g]) x y = evn l x y) : visE (l ++ [togD s q a b g]) = visE l := by
  unfold visE
  rw [tog_ord]
  apply List.filter_congr
  intro e _
  unfold vis
  rw [h, tog_gone, gone_ev h]
theorem tog_text1 {l : List OpD} (hr : okRow l) {s a b g : Int} (h : ∀ x y, evn (l ++ [togD s ((cnt l s : Int) + 1) a b g]) x y = evn l x y) : docT (l ++ [togD s ((cnt l s : Int) + 1) a b g]) = docT l := by
  unfold docT visR
  rw [tog_vis1 h]
  congr 1
  apply List.map_congr_left
  intro e he
  exact tog_rn hr (visE_ord he)
theorem tog_text2 {l : List OpD} (hr : okRow l) (hl : l.length ≤ 900) {s a b g g' : Int} (hs : 1 ≤ s ∧ s ≤ 8) (hn : hasN l ⟨a, b, 0⟩ = true) (hg : 0 ≤ g ∧ g ≤ 268435456)
    (h : ∀ x y, evn (l ++ [togD s ((cnt l s : Int) + 1) a b g] ++ [togD s ((cnt l s : Int) + 1 + 1) a b g']) x y = evn l x y) : docT (l ++ [togD s ((cnt l s : Int) + 1) a b g] ++ [togD s ((cnt l s : Int) + 1 + 1) a b g']) = docT l := by
  have hr1 := okRow_more hr (tog_tk hr (by omega) hs hn hg)
  have hc := tog_cnt l s ((cnt l s : Int) + 1) a b g
  have hv : visE (l ++ [togD s ((cnt l s : Int) + 1) a b g] ++ [togD s ((cnt l s : Int) + 1 + 1) a b g']) = visE l := by
    unfold visE
    rw [tog_ord, tog_ord]
    apply List.filter_congr
    intro e _
    unfold vis
    rw [h, tog_gone, tog_gone, gone_ev h]
  unfold docT visR
  rw [hv]
  congr 1
  apply List.map_congr_left
  intro e he
  have ho := visE_ord he
  have h2 : ((cnt (l ++ [togD s ((cnt l s : Int) + 1) a b g]) s : Nat) : Int) + 1 = (cnt l s : Int) + 1 + 1 := by omega
  rw [← h2, tog_rn hr1 (by rw [tog_ord]; exact ho), tog_rn hr ho]
/-- a toggle that does not count -/
theorem late_ev {l : List OpD} {s q a b g : Int} (hg : g ≠ (ct l a b : Int)) (x y : Int) : evn (l ++ [togD s q a b g]) x y = evn l x y := by
  unfold evn
  rw [tog_ct, if_neg]
  rintro ⟨h1, h2, h3⟩
  rw [← h1, ← h2] at h3
  exact hg h3
/-- one that counts -/
theorem once_ct (l : List OpD) (s q a b : Int) : ct (l ++ [togD s q a b (ct l a b)]) a b = ct l a b + 1 := by
  rw [tog_ct, if_pos ⟨rfl, rfl, rfl⟩]
theorem once_ev (l : List OpD) (s q a b : Int) : evn (l ++ [togD s q a b (ct l a b)]) a b = !evn l a b := by
  unfold evn
  rw [once_ct, ← decide_not, decide_eq_decide]
  omega
theorem twice_ev (l : List OpD) (s q q' a b x y : Int) : evn (l ++ [togD s q a b (ct l a b)] ++ [togD s q' a b ((ct l a b : Int) + 1)]) x y = evn l x y := by
  unfold evn
  rw [tog_ct]
  by_cases hxy : a = x ∧ b = y
  · obtain ⟨rfl, rfl⟩ := hxy
    rw [once_ct, if_pos ⟨rfl, rfl, by omega⟩, decide_eq_decide]
    omega
  · rw [if_neg (fun h => hxy ⟨h.1, h.2.1⟩), tog_ct, if_neg (fun h => hxy ⟨h.1, h.2.1⟩)]
end Go.Proofs.YthnedehihbploaaGreatDoor
/- the page's Toggle, told whole; two toggles of one edit leave each place as it was -/
namespace Go.Proofs.YthnedehihbploaaGreatDoor
open Go.RowKit Go.Lib Go.Sort

def TogX (D : List OpD) (site of_ num : Int) (w : World) (e : Ending) (w' : World) : Prop := ∃ (ts tq tk tf tn tg er : Int), e = .returned (.tuple #[.agg #[.int .i64 ts, .int .i64 tq, .int .i64 tk, .int .i64 0, .int .i64 0, .int .i64 0, .string ⟨#[]⟩, .slice none 0 0, .int .i64 tf, .int .i64 tn, .int .i64 tg], .int .i64 er]) ∧ (er = 0 → ts = site ∧ tq = (cnt D site : Int) + 1 ∧ tk = 2 ∧ tf = of_ ∧ tn = num ∧ tg = (ct D of_ num : Int) ∧ rowP (D ++ [togD site ((cnt D site : Int) + 1) of_ num (ct D of_ num)])) ∧ Below w.heap.size w w'
set_option maxRecDepth 100000 in
set_option maxHeartbeats 4000000 in
theorem rToggle_is (a : Option Addr) (cap : Nat) (l : List OpR) (site of_ num : Int) (w : World) (hT : Tabs w) (h : OpsAt w a l) (hr : rowP (OpR.os l)) :
    Calls Tryz.prog 35 #[.slice a l.length cap, .int .i64 site, .int .i64 of_, .int .i64 num] w (TogX (OpR.os l) site of_ num w) := by
  have HED := Lib.hid (fun wx (hx : Below w.heap.size w wx) => rEdit_any a cap l of_ num wx (h.below hx))
  have HMN := Lib.hid (fun wx (hx : Below w.heap.size w wx) => rMany_any a cap l site wx (h.below hx))
  have HCO := Lib.hid (fun wx (hx : Below w.heap.size w wx) => rCount_any a cap l of_ num wx (h.below hx))
  have HBH := Lib.hid (fun (s q k : Int) wx (hx : Below w.heap.size w wx) => cRBehind_o a cap l ⟨s, q, 2, ⟨0, 0, 0⟩, ⟨#[]⟩, [], of_, num, k⟩ none 0 wx (h.below hx) hr (ElemsAt.nil none) (Nat.zero_le _) (Nat.zero_le _))
  have HRW := Lib.hid (fun (s q k : Int) (a2 : Option Addr) (c2 : Nat) (L : List OpR) wx (hx : Below w.heap.size w wx) (hl : L.length = l.length + 1) (hc : l.length + 1 ≤ c2) (hops : OpsAt wx a2 L) (hos : OpR.os L = OpR.os l ++ [⟨s, q, 2, ⟨0, 0, 0⟩, ⟨#[]⟩, [], of_, num, k⟩]) => cRRow_o hr (Nat.zero_le _) a2 c2 L wx (hT.next hx) hl hc hops hos)
  have hcn := cCnt_small hr site
  unfold TogX togD
  unfold BoB at HED HRW
  unfold IntB at HMN HCO
  unfold cBehO OpD.v at HBH
  generalize OpR.os l = D at *
  generalize edt D of_ num = be at *
  generalize cnt D site = qn at *
  generalize ct D of_ num = kn at *
  obtain ⟨n, hln⟩ : ∃ n, l.length = n := ⟨_, rfl⟩
  rw [hln] at HED HMN HCO HBH HRW ⊢
  clear h hr hT hln
  have hqn : ((qn : Nat) : Int) ≤ 40 := by omega
  have HQ0 := Lib.hid (show (w.alloc (.cells #[.int .i64 0, .int .i64 0, .int .i64 0, .int .i64 0, .int .i64 0, .int .i64 0, .string ⟨#[]⟩, .slice none 0 0, .int .i64 0, .int .i64 0, .int .i64 0] 39)).heap[w.heap.size]? = some (.cells #[.int .i64 0, .int .i64 0, .int .i64 0, .int .i64 0, .int .i64 0, .int .i64 0, .string ⟨#[]⟩, .slice none 0 0, .int .i64 0, .int .i64 0, .int .i64 0] 39) from heap_alloc_new _ _)
  have HB0 := Lib.hid (show Below w.heap.size w (w.alloc (.cells #[.int .i64 0, .int .i64 0, .int .i64 0, .int .i64 0, .int .i64 0, .int .i64 0, .string ⟨#[]⟩, .slice none 0 0, .int .i64 0, .int .i64 0, .int .i64 0] 39)) from (Below.refl _ _).alloc (Nat.le_refl _) _)
  have HS0 := Lib.hid (show w.heap.size < (w.alloc (.cells #[.int .i64 0, .int .i64 0, .int .i64 0, .int .i64 0, .int .i64 0, .int .i64 0, .string ⟨#[]⟩, .slice none 0 0, .int .i64 0, .int .i64 0, .int .i64 0] 39)).heap.size by simp)
  clear hcn
  go_enter Tryz.func35, Tryz.ntmps35
  cases be
  · go_wp2_with (first
      | (go_at_call 67; refine (HED.out _ HB0.out).mono ?_; rintro x1 w1 ⟨rfl, hb1⟩; have HB1 := Lib.hid (HB0.out.trans (hb1.mono HB0.out.size)); obtain ⟨p0, p1, p2, p3, p4, p5, p6, p7, p8, p9, pa, pf, pl⟩ := cCells11P ((hb1.block w.heap.size HS0.out).trans HQ0.out); clear hb1)
      | fail)
    refine bodyPost_ret (v := .tuple #[cZopV, .int .i64 3]) (by simp [cZopV, results, Tryz.results35, go_sem, p0, p1, p2, p3, p4, p5, p6, p7, p8, p9, pa]) rfl ⟨0, 0, 0, 0, 0, 0, 3, rfl, fun h => absurd h (by decide), ?_⟩
    exact cSet11 HB1.out _ _ _ _ _ _ _ _ _ _ _
  · go_upto_region 4 with (first
      | (go_at_call 67; refine (HED.out _ HB0.out).mono ?_; rintro x1 w1 ⟨rfl, hb1⟩; have HB1 := Lib.hid (HB0.out.trans (hb1.mono HB0.out.size)); have HQ1 := Lib.hid ((hb1.block w.heap.size HS0.out).trans HQ0.out); have HS1 := Lib.hid (Nat.lt_of_lt_of_le HS0.out hb1.size); clear hb1)
      | (go_at_call 65; refine (HMN.out w1 HB1.out).mono ?_; rintro x2 w2 ⟨rfl, hb2⟩; have HB2 := Lib.hid (HB1.out.trans (hb2.mono HB1.out.size)); have HQ2 := Lib.hid ((hb2.block w.heap.size HS1.out).trans HQ1.out); have HS2 := Lib.hid (Nat.lt_of_lt_of_le HS1.out hb2.size); clear hb2)
      | (go_at_call 68; refine (HCO.out w2 HB2.out).mono ?_; rintro x3 w3 ⟨rfl, hb3⟩; have HB3 := Lib.hid (HB2.out.trans (hb3.mono HB2.out.size)); have HQ3 := Lib.hid ((hb3.block w.heap.size HS2.out).trans HQ2.out); have HS3 := Lib.hid (Nat.lt_of_lt_of_le HS2.out hb3.size); clear hb3)
      | fail)
    have hba := (Below.refl w3.heap.size w3).alloc (Nat.le_refl _) (.cells #[.int .i64 site, .int .i64 ((qn : Int) + 1), .int .i64 2, .int .i64 0, .int .i64 0, .int .i64 0, .string ⟨#[]⟩, .slice none 0 0, .int .i64 of_, .int .i64 num, .int .i64 kn] 39)
    have HBa := Lib.hid (HB3.out.trans (hba.mono HB3.out.size))
    have HQa := Lib.hid ((hba.block w.heap.size HS3.out).trans HQ3.out)
    have hbx := heap_alloc_new w3 (.cells #[.int .i64 site, .int .i64 ((qn : Int) + 1), .int .i64 2, .int .i64 0, .int .i64 0, .int .i64 0, .string ⟨#[]⟩, .slice none 0 0, .int .i64 of_, .int .i64 num, .int .i64 kn] 39)
    have HSa := Lib.hid (Nat.lt_of_lt_of_le HS3.out hba.size)
    clear hba
    generalize w3.alloc (.cells #[.int .i64 site, .int .i64 ((qn : Int) + 1), .int .i64 2, .int .i64 0, .int .i64 0, .int .i64 0, .string ⟨#[]⟩, .slice none 0 0, .int .i64 of_, .int .i64 num, .int .i64 kn] 39) = wa at *
    generalize w3.heap.size = bx at *
    have HBX := Lib.hid hbx
    obtain ⟨k0, k1, k2, k3, k4, k5, k6, k7, k8, k9, ka, kf, kl⟩ := cCells11P hbx
    have HRW2 := Lib.hid (fun (a2 : Option Addr) (c2 : Nat) (L : List OpR) wx => HRW.out site ((qn : Int) + 1) kn a2 c2 L wx)
    have HRB := Lib.hid (rowB_iff (D ++ [⟨site, (qn : Int) + 1, 2, ⟨0, 0, 0⟩, ⟨#[]⟩, [], of_, num, kn⟩]))
    generalize rowB (D ++ [⟨site, (qn : Int) + 1, 2, ⟨0, 0, 0⟩, ⟨#[]⟩, [], of_, num, kn⟩]) = bb at *
    have HBB := Lib.hid (show bb = true → rowP (D ++ [⟨site, (qn : Int) + 1, 2, ⟨0, 0, 0⟩, ⟨#[]⟩, [], of_, num, kn⟩]) from fun hb => HRB.out.1 hb)
    clear HRB hbx
    cases bb
    · go_wp2_with (first
        | (go_at_call 34; refine (HBH.out site ((qn : Int) + 1) kn wa HBa.out).mono ?_; rintro x4 w4 ⟨a4, c4, L4, rfl, hl4, hc4, hops4, hos4, hb4⟩; have HB4 := Lib.hid (HBa.out.trans (hb4.mono HBa.out.size)); have HQ4 := Lib.hid ((hb4.block w.heap.size HSa.out).trans HQa.out); have HS4 := Lib.hid (Nat.lt_of_lt_of_le HSa.out hb4.size); have HR4 := Lib.hid (HRW2.out a4 c4 L4 w4 HB4.out hl4 hc4 hops4 hos4); clear hb4 hl4 hc4 hops4 hos4 k0 k1 k2 k3 k4 k5 k6 k7 k8 k9 ka kf kl)
        | (go_at_call 19; refine HR4.out.mono ?_; rintro x5 w5 ⟨rfl, hb5⟩; have HB5 := Lib.hid (HB4.out.trans (hb5.mono HB4.out.size)); obtain ⟨p0, p1, p2, p3, p4, p5, p6, p7, p8, p9, pa, pf, pl⟩ := cCells11P ((hb5.block w.heap.size HS4.out).trans HQ4.out); clear hb5)
        | fail)
      refine bodyPost_ret (v := .tuple #[cZopV, .int .i64 6]) (by simp [cZopV, results, Tryz.results35, go_sem, p0, p1, p2, p3, p4, p5, p6, p7, p8, p9, pa]) rfl ⟨0, 0, 0, 0, 0, 0, 6, rfl, fun h => absurd h (by decide), ?_⟩
      exact cSet11 HB5.out _ _ _ _ _ _ _ _ _ _ _
    · go_wp2_with (first
        | (go_at_call 34; refine (HBH.out site ((qn : Int) + 1) kn wa HBa.out).mono ?_; rintro x4 w4 ⟨a4, c4, L4, rfl, hl4, hc4, hops4, hos4, hb4⟩; have HB4 := Lib.hid (HBa.out.trans (hb4.mono HBa.out.size)); have HQ4 := Lib.hid ((hb4.block w.heap.size HSa.out).trans HQa.out); have HS4 := Lib.hid (Nat.lt_of_lt_of_le HSa.out hb4.size); have HX4 := Lib.hid ((hb4.block bx kl).trans HBX.out); have HXL := Lib.hid (Nat.lt_of_lt_of_le kl hb4.size); have HR4 := Lib.hid (HRW2.out a4 c4 L4 w4 HB4.out hl4 hc4 hops4 hos4); clear hb4 hl4 hc4 hops4 hos4 k0 k1 k2 k3 k4 k5 k6 k7 k8 k9 ka kf kl)
        | (go_at_call 19; refine HR4.out.mono ?_; rintro x5 w5 ⟨rfl, hb5⟩; have HB5 := Lib.hid (HB4.out.trans (hb5.mono HB4.out.size)); obtain ⟨p0, p1, p2, p3, p4, p5, p6, p7, p8, p9, pa, pf, pl⟩ := cCells11P ((hb5.block w.heap.size HS4.out).trans HQ4.out); obtain ⟨q0, q1, q2, q3, q4, q5, q6, q7, q8, q9, qa, qf, ql⟩ := cCells11P ((hb5.block bx HXL.out).trans HX4.out); clear hb5)
        | fail)
      refine bodyPost_ret (v := .tuple #[.agg #[.int .i64 site, .int .i64 ((qn : Int) + 1), .int .i64 2, .int .i64 0, .int .i64 0, .int .i64 0, .string ⟨#[]⟩, .slice none 0 0, .int .i64 of_, .int .i64 num, .int .i64 kn], .int .i64 0]) (by simp [results, Tryz.results35, go_sem, p0, p1, p2, p3, p4, p5, p6, p7, p8, p9, pa]) rfl ⟨site, (qn : Int) + 1, 2, of_, num, kn, 0, rfl, fun _ => ⟨rfl, rfl, rfl, rfl, rfl, rfl, HBB.out (by first | rfl | trivial)⟩, ?_⟩
      exact cSet11 HB5.out _ _ _ _ _ _ _ _ _ _ _
theorem tw_ev (l : List OpD) (s s' q q' a b x y : Int) : evn (l ++ [togD s q a b (ct l a b)] ++ [togD s' q' a b (ct (l ++ [togD s q a b (ct l a b)]) a b)]) x y = evn l x y := by
  unfold evn
  rw [tog_ct]
  by_cases hxy : a = x ∧ b = y
  · obtain ⟨rfl, rfl⟩ := hxy
    rw [once_ct, if_pos ⟨rfl, rfl, rfl⟩, decide_eq_decide]
    omega
  · rw [if_neg (fun h => hxy ⟨h.1, h.2.1⟩), tog_ct, if_neg (fun h => hxy ⟨h.1, h.2.1⟩)]
theorem tw_ord (l : List OpD) (s s' q q' a b g g' : Int) : ordE (l ++ [togD s q a b g] ++ [togD s' q' a b g']) = ordE l := by rw [tog_ord, tog_ord]
theorem tw_vis (l : List OpD) (s s' q q' a b : Int) : vis (l ++ [togD s q a b (ct l a b)] ++ [togD s' q' a b (ct (l ++ [togD s q a b (ct l a b)]) a b)]) = vis l := by
  funext e
  unfold vis
  rw [tw_ev, tog_gone, tog_gone, gone_ev (tw_ev l s s' q q' a b)]
theorem tw_pl (l : List OpD) (s s' q q' a b : Int) (e : El) : plN (l ++ [togD s q a b (ct l a b)] ++ [togD s' q' a b (ct (l ++ [togD s q a b (ct l a b)]) a b)]) e = plN l e ∧ plR (l ++ [togD s q a b (ct l a b)] ++ [togD s' q' a b (ct (l ++ [togD s q a b (ct l a b)]) a b)]) e = plR l e := by
  have h1 : plE (l ++ [togD s q a b (ct l a b)] ++ [togD s' q' a b (ct (l ++ [togD s q a b (ct l a b)]) a b)]) e = plE l e := by
    unfold plE upE
    rw [tw_ord, tw_vis]
  have h2 : wroteE (l ++ [togD s q a b (ct l a b)] ++ [togD s' q' a b (ct (l ++ [togD s q a b (ct l a b)]) a b)]) e ↔ wroteE l e := by
    unfold wroteE
    rw [tw_ord]
  by_cases h : wroteE l e
  · rw [(pl_yes h).1, (pl_yes h).2, (pl_yes (h2.2 h)).1, (pl_yes (h2.2 h)).2, h1]
    exact ⟨rfl, rfl⟩
  · rw [(pl_no h).1, (pl_no h).2, (pl_no (fun h9 => h (h2.1 h9))).1, (pl_no (fun h9 => h (h2.1 h9))).2]
    exact ⟨rfl, rfl⟩
end Go.Proofs.YthnedehihbploaaGreatDoor
