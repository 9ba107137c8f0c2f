/- the page's Of: the steps of an op behind a row -/
import Derived.Test.YthnedehihbploaaGreatDoorQPath
import Derived.Test.YthnedehihbploaaGreatDoorZWith
import Derived.Test.YthnedehihbploaaGreatDoorOPut
import Derived.Laws.Closers25b
namespace Go.Proofs.YthnedehihbploaaGreatDoor
open Go.RowKit Go.Lib Go.Sort

theorem lk_at (v : List El) (e : El) : lk v e = decide (atI v e < 0) := by
  unfold lk
  by_cases h : e ∈ v
  · have := atI_pos h
    rw [decide_eq_true h, decide_eq_false (by omega)]
    rfl
  · rw [atI_neg h, decide_eq_false h]
    rfl
theorem atI_ge (v : List El) (e : El) : -1 ≤ atI v e := by
  by_cases h : e ∈ v
  · have := atI_pos h
    omega
  · rw [atI_neg h]
    omega
def BehO (n : Nat) (D : List OpD) (w : World) (e : Ending) (w' : World) : Prop := ∃ a2 c2 L, e = .returned (.slice a2 n c2) ∧ L.length = n ∧ n ≤ c2 ∧ OpsAt w' a2 L ∧ OpR.os L = D ∧ Below w.heap.size w w'
theorem szs_rowP {L : List OpR} (hr : rowP (OpR.os L)) : Szs L ∧ ∀ r ∈ L, r.o.gone.length ≤ 1000000 := by
  refine ⟨fun r hm => ?_, fun r hm => ?_⟩
  · have := (okOp_text (row_ok hr.2 r.o (List.mem_map_of_mem hm))).2.2
    omega
  · have := (gone_ok (row_ok hr.2 r.o (List.mem_map_of_mem hm))).1
    omega
theorem rBehind_o (a : Option Addr) (cap : Nat) (l : List OpR) (o : OpD) (oa : Option Addr) (oc : Nat) (w : World) (h : OpsAt w a l) (hr : rowP (OpR.os l)) (ho : ElemsAt w oa o.gone) (hgl : o.gone.length ≤ 1000000) (hts : o.text.size ≤ 60000) :
    Calls Tryz.prog 34 #[.slice a l.length cap, o.v oa oc] w (BehO (l.length + 1) (OpR.os l ++ [o]) w) := by
  have hl40 : l.length ≤ 40 := by have := hr.1; rw [os_len] at this; exact this
  refine (rBehind_any a cap l o oa oc w h (szs_rowP hr).2 (by omega) ho hgl (by unfold BIG; omega)).mono ?_
  rintro x w' ⟨v, L, rfl, hown, hos, hb⟩
  have hlen : L.length = l.length + 1 := by
    have := congrArg List.length hos
    rw [os_len, List.length_append, os_len] at this
    exact this
  obtain ⟨a2, c2, hv, hops, hc⟩ := hown.ops (by rw [hlen]; unfold BIG; omega)
  rw [hlen] at hv hc
  exact ⟨a2, c2, L, by rw [hv], hlen, hc, hops, hos, hb⟩
end Go.Proofs.YthnedehihbploaaGreatDoor
/- the page's Toggle: what it tells may stand behind the row -/
namespace Go.Proofs.YthnedehihbploaaGreatDoor
open Go.RowKit Go.Lib Go.Sort

theorem rRow_o {l : List OpR} {o : OpD} (hr : rowP (OpR.os l)) (hts : o.text.size ≤ 60000) (a2 : Option Addr) (c2 : Nat) (L : List OpR) (wx : World) (hT : Tabs wx) (hl : L.length = l.length + 1) (hc : l.length + 1 ≤ c2) (hops : OpsAt wx a2 L) (hos : OpR.os L = OpR.os l ++ [o]) :
    Calls Tryz.prog 19 #[.slice a2 (l.length + 1) c2] wx (BoB (rowB (OpR.os l ++ [o])) wx) := by
  have hsz : Szs L := fun r hm => by
    have h1 : r.o ∈ OpR.os L := List.mem_map_of_mem hm
    rw [hos, List.mem_append, List.mem_singleton] at h1
    rcases h1 with h1 | h1
    · have := (okOp_text (row_ok hr.2 r.o h1)).2.2
      omega
    · rw [h1]
      exact hts
  have h9 := rRow_any a2 c2 L wx hT hsz hops (by omega)
  rw [hl, hos] at h9
  exact h9
theorem cells11P {w : World} {b : Nat} {t : TypeId} {c0 c1 c2 c3 c4 c5 c6 c7 c8 c9 ca : Value} (h : w.heap[b]? = some (.cells #[c0, c1, c2, c3, c4, c5, c6, c7, c8, c9, ca] t (0, 0))) :
    w.cell? ⟨b, 0, none⟩ = some c0 ∧ w.cell? ⟨b, 1, none⟩ = some c1 ∧ w.cell? ⟨b, 2, none⟩ = some c2 ∧ w.cell? ⟨b, 3, none⟩ = some c3 ∧ w.cell? ⟨b, 4, none⟩ = some c4 ∧ w.cell? ⟨b, 5, none⟩ = some c5 ∧ w.cell? ⟨b, 6, none⟩ = some c6 ∧ w.cell? ⟨b, 7, none⟩ = some c7 ∧ w.cell? ⟨b, 8, none⟩ = some c8 ∧ w.cell? ⟨b, 9, none⟩ = some c9 ∧ w.cell? ⟨b, 10, none⟩ = some ca ∧ (∀ c, w.frozen? ⟨b, c, none⟩ = false) ∧ b < w.heap.size := by
  refine ⟨?_, ?_, ?_, ?_, ?_, ?_, ?_, ?_, ?_, ?_, ?_, fun c => ?_, (Array.getElem?_eq_some_iff.1 h).1⟩
  all_goals first | (simp [World.cell?, h]; done) | (simp [World.frozen?, h])
def zopV : Value := .agg #[.int .i64 0, .int .i64 0, .int .i64 0, .int .i64 0, .int .i64 0, .int .i64 0, .string ⟨#[]⟩, .slice none 0 0, .int .i64 0, .int .i64 0, .int .i64 0]
/-- an op that may stand behind the row, or an error -/
def RepPost (D : List OpD) (w : World) (e : Ending) (w' : World) : Prop := ∃ (o : OpD) (oa : Option Addr) (oc : Nat) (er : Int), e = .returned (.tuple #[o.v oa oc, .int .i64 er]) ∧ (er = 0 → OpAt w' o oa oc ∧ rowP (D ++ [o])) ∧ (∀ ad, oa = some ad → w.heap.size ≤ ad.block) ∧ Below w.heap.size w w'
theorem rep_err (D : List OpD) (w w' : World) (er : Int) (he : ¬ er = 0) (hb : Below w.heap.size w w') : RepPost D w (.returned (.tuple #[zopV, .int .i64 er])) w' :=
  ⟨⟨0, 0, 0, ⟨0, 0, 0⟩, ⟨#[]⟩, [], 0, 0, 0⟩, none, 0, er, rfl, fun h => absurd h he, (fun ad h => by cases h), hb⟩
theorem set11 {w w0 : World} {b : Nat} (hb : Below b w w0) (v0 v1 v2 v3 v4 v5 v6 v7 v8 v9 va : Value) : Below b w (((((((((((w0.setCell ⟨b, 0, none⟩ v0).setCell ⟨b, 1, none⟩ v1).setCell ⟨b, 2, none⟩ v2).setCell ⟨b, 3, none⟩ v3).setCell ⟨b, 4, none⟩ v4).setCell ⟨b, 5, none⟩ v5).setCell ⟨b, 6, none⟩ v6).setCell ⟨b, 7, none⟩ v7).setCell ⟨b, 8, none⟩ v8).setCell ⟨b, 9, none⟩ v9).setCell ⟨b, 10, none⟩ va) := by
  have hg : b ≤ b := Nat.le_refl _
  iterate 11 (refine Below.setCell ?_ hg _)
  exact hb
theorem cnt_small {l : List OpD} (hr : rowP l) (s : Int) : cnt l s ≤ 40 := Nat.le_trans (cnt_le l s) hr.1
set_option maxRecDepth 100000 in
set_option maxHeartbeats 4000000 in
theorem rToggle_any (a : Option Addr) (cap : Nat) (l : List OpR) (site of_ num : Int) (w : World) (hT : Tabs w) (h : OpsAt w a l) (hr : rowP (OpR.os l)) :
    Calls Tryz.prog 35 #[.slice a l.length cap, .int .i64 site, .int .i64 of_, .int .i64 num] w (RepPost (OpR.os l) w) := by
  have HED := Lib.hid (fun wx (hx : Below w.heap.size w wx) => rEdit_any a cap l of_ num wx (h.below hx))
  have HMN := Lib.hid (fun wx (hx : Below w.heap.size w wx) => rMany_any a cap l site wx (h.below hx))
  have HCO := Lib.hid (fun wx (hx : Below w.heap.size w wx) => rCount_any a cap l of_ num wx (h.below hx))
  have HBH := Lib.hid (fun (s q k : Int) wx (hx : Below w.heap.size w wx) => rBehind_o a cap l ⟨s, q, 2, ⟨0, 0, 0⟩, ⟨#[]⟩, [], of_, num, k⟩ none 0 wx (h.below hx) hr (ElemsAt.nil none) (Nat.zero_le _) (Nat.zero_le _))
  have HRW := Lib.hid (fun (s q k : Int) (a2 : Option Addr) (c2 : Nat) (L : List OpR) wx (hx : Below w.heap.size w wx) (hl : L.length = l.length + 1) (hc : l.length + 1 ≤ c2) (hops : OpsAt wx a2 L) (hos : OpR.os L = OpR.os l ++ [⟨s, q, 2, ⟨0, 0, 0⟩, ⟨#[]⟩, [], of_, num, k⟩]) => rRow_o hr (Nat.zero_le _) a2 c2 L wx (hT.next hx) hl hc hops hos)
  have HOK := Lib.hid (fun (s q k : Int) wx => (⟨ElemsAt.nil none, Nat.zero_le _, Nat.zero_le _, fun _ => ⟨rfl, rfl⟩⟩ : OpAt wx ⟨s, q, 2, ⟨0, 0, 0⟩, ⟨#[]⟩, [], of_, num, k⟩ none 0))
  have hcn := cnt_small hr site
  unfold BoB at HED HRW
  unfold IntB at HMN HCO
  unfold BehO OpD.v at HBH
  generalize OpR.os l = D at *
  generalize edt D of_ num = be at *
  generalize cnt D site = qn at *
  generalize ct D of_ num = kn at *
  obtain ⟨n, hln⟩ : ∃ n, l.length = n := ⟨_, rfl⟩
  rw [hln] at HED HMN HCO HBH HRW ⊢
  clear h hr hT hln
  have hqn : ((qn : Nat) : Int) ≤ 40 := by omega
  have HQ0 := Lib.hid (show (w.alloc (.cells #[.int .i64 0, .int .i64 0, .int .i64 0, .int .i64 0, .int .i64 0, .int .i64 0, .string ⟨#[]⟩, .slice none 0 0, .int .i64 0, .int .i64 0, .int .i64 0] 39)).heap[w.heap.size]? = some (.cells #[.int .i64 0, .int .i64 0, .int .i64 0, .int .i64 0, .int .i64 0, .int .i64 0, .string ⟨#[]⟩, .slice none 0 0, .int .i64 0, .int .i64 0, .int .i64 0] 39) from heap_alloc_new _ _)
  have HB0 := Lib.hid (show Below w.heap.size w (w.alloc (.cells #[.int .i64 0, .int .i64 0, .int .i64 0, .int .i64 0, .int .i64 0, .int .i64 0, .string ⟨#[]⟩, .slice none 0 0, .int .i64 0, .int .i64 0, .int .i64 0] 39)) from (Below.refl _ _).alloc (Nat.le_refl _) _)
  have HS0 := Lib.hid (show w.heap.size < (w.alloc (.cells #[.int .i64 0, .int .i64 0, .int .i64 0, .int .i64 0, .int .i64 0, .int .i64 0, .string ⟨#[]⟩, .slice none 0 0, .int .i64 0, .int .i64 0, .int .i64 0] 39)).heap.size by simp)
  clear hcn
  go_enter Tryz.func35, Tryz.ntmps35
  cases be
  · go_wp2_with (first
      | (go_at_call 67; refine (HED.out _ HB0.out).mono ?_; rintro x1 w1 ⟨rfl, hb1⟩; have HB1 := Lib.hid (HB0.out.trans (hb1.mono HB0.out.size)); obtain ⟨p0, p1, p2, p3, p4, p5, p6, p7, p8, p9, pa, pf, pl⟩ := cells11P ((hb1.block w.heap.size HS0.out).trans HQ0.out); clear hb1)
      | fail)
    refine bodyPost_ret (v := .tuple #[zopV, .int .i64 3]) (by simp [zopV, results, Tryz.results35, go_sem, p0, p1, p2, p3, p4, p5, p6, p7, p8, p9, pa]) rfl (rep_err D w _ 3 (by decide) ?_)
    exact set11 HB1.out _ _ _ _ _ _ _ _ _ _ _
  · go_upto_region 4 with (first
      | (go_at_call 67; refine (HED.out _ HB0.out).mono ?_; rintro x1 w1 ⟨rfl, hb1⟩; have HB1 := Lib.hid (HB0.out.trans (hb1.mono HB0.out.size)); have HQ1 := Lib.hid ((hb1.block w.heap.size HS0.out).trans HQ0.out); have HS1 := Lib.hid (Nat.lt_of_lt_of_le HS0.out hb1.size); clear hb1)
      | (go_at_call 65; refine (HMN.out w1 HB1.out).mono ?_; rintro x2 w2 ⟨rfl, hb2⟩; have HB2 := Lib.hid (HB1.out.trans (hb2.mono HB1.out.size)); have HQ2 := Lib.hid ((hb2.block w.heap.size HS1.out).trans HQ1.out); have HS2 := Lib.hid (Nat.lt_of_lt_of_le HS1.out hb2.size); clear hb2)
      | (go_at_call 68; refine (HCO.out w2 HB2.out).mono ?_; rintro x3 w3 ⟨rfl, hb3⟩; have HB3 := Lib.hid (HB2.out.trans (hb3.mono HB2.out.size)); have HQ3 := Lib.hid ((hb3.block w.heap.size HS2.out).trans HQ2.out); have HS3 := Lib.hid (Nat.lt_of_lt_of_le HS2.out hb3.size); clear hb3)
      | fail)
    have hba := (Below.refl w3.heap.size w3).alloc (Nat.le_refl _) (.cells #[.int .i64 site, .int .i64 ((qn : Int) + 1), .int .i64 2, .int .i64 0, .int .i64 0, .int .i64 0, .string ⟨#[]⟩, .slice none 0 0, .int .i64 of_, .int .i64 num, .int .i64 kn] 39)
    have HBa := Lib.hid (HB3.out.trans (hba.mono HB3.out.size))
    have HQa := Lib.hid ((hba.block w.heap.size HS3.out).trans HQ3.out)
    have hbx := heap_alloc_new w3 (.cells #[.int .i64 site, .int .i64 ((qn : Int) + 1), .int .i64 2, .int .i64 0, .int .i64 0, .int .i64 0, .string ⟨#[]⟩, .slice none 0 0, .int .i64 of_, .int .i64 num, .int .i64 kn] 39)
    have HSa := Lib.hid (Nat.lt_of_lt_of_le HS3.out hba.size)
    clear hba
    generalize w3.alloc (.cells #[.int .i64 site, .int .i64 ((qn : Int) + 1), .int .i64 2, .int .i64 0, .int .i64 0, .int .i64 0, .string ⟨#[]⟩, .slice none 0 0, .int .i64 of_, .int .i64 num, .int .i64 kn] 39) = wa at *
    generalize w3.heap.size = bx at *
    have HBX := Lib.hid hbx
    obtain ⟨k0, k1, k2, k3, k4, k5, k6, k7, k8, k9, ka, kf, kl⟩ := cells11P hbx
    have HRW2 := Lib.hid (fun (a2 : Option Addr) (c2 : Nat) (L : List OpR) wx => HRW.out site ((qn : Int) + 1) kn a2 c2 L wx)
    have HFI := Lib.hid (fun wx (hr2 : rowP (D ++ [⟨site, (qn : Int) + 1, 2, ⟨0, 0, 0⟩, ⟨#[]⟩, [], of_, num, kn⟩])) (hx : Below w.heap.size w wx) => (⟨⟨site, (qn : Int) + 1, 2, ⟨0, 0, 0⟩, ⟨#[]⟩, [], of_, num, kn⟩, none, 0, 0, rfl, fun _ => ⟨HOK.out _ _ _ wx, hr2⟩, (fun ad h => by cases h), hx⟩ : RepPost D w (.returned (.tuple #[.agg #[.int .i64 site, .int .i64 ((qn : Int) + 1), .int .i64 2, .int .i64 0, .int .i64 0, .int .i64 0, .string ⟨#[]⟩, .slice none 0 0, .int .i64 of_, .int .i64 num, .int .i64 kn], .int .i64 0])) wx))
    have HRB := Lib.hid (rowB_iff (D ++ [⟨site, (qn : Int) + 1, 2, ⟨0, 0, 0⟩, ⟨#[]⟩, [], of_, num, kn⟩]))
    generalize rowB (D ++ [⟨site, (qn : Int) + 1, 2, ⟨0, 0, 0⟩, ⟨#[]⟩, [], of_, num, kn⟩]) = bb at *
    have HBB := Lib.hid (show bb = true → rowP (D ++ [⟨site, (qn : Int) + 1, 2, ⟨0, 0, 0⟩, ⟨#[]⟩, [], of_, num, kn⟩]) from fun hb => HRB.out.1 hb)
    clear HRB hbx
    cases bb
    · go_wp2_with (first
        | (go_at_call 34; refine (HBH.out site ((qn : Int) + 1) kn wa HBa.out).mono ?_; rintro x4 w4 ⟨a4, c4, L4, rfl, hl4, hc4, hops4, hos4, hb4⟩; have HB4 := Lib.hid (HBa.out.trans (hb4.mono HBa.out.size)); have HQ4 := Lib.hid ((hb4.block w.heap.size HSa.out).trans HQa.out); have HS4 := Lib.hid (Nat.lt_of_lt_of_le HSa.out hb4.size); have HR4 := Lib.hid (HRW2.out a4 c4 L4 w4 HB4.out hl4 hc4 hops4 hos4); clear hb4 hl4 hc4 hops4 hos4 k0 k1 k2 k3 k4 k5 k6 k7 k8 k9 ka kf kl)
        | (go_at_call 19; refine HR4.out.mono ?_; rintro x5 w5 ⟨rfl, hb5⟩; have HB5 := Lib.hid (HB4.out.trans (hb5.mono HB4.out.size)); obtain ⟨p0, p1, p2, p3, p4, p5, p6, p7, p8, p9, pa, pf, pl⟩ := cells11P ((hb5.block w.heap.size HS4.out).trans HQ4.out); clear hb5)
        | fail)
      refine bodyPost_ret (v := .tuple #[zopV, .int .i64 6]) (by simp [zopV, results, Tryz.results35, go_sem, p0, p1, p2, p3, p4, p5, p6, p7, p8, p9, pa]) rfl (rep_err D w _ 6 (by decide) ?_)
      exact set11 HB5.out _ _ _ _ _ _ _ _ _ _ _
    · go_wp2_with (first
        | (go_at_call 34; refine (HBH.out site ((qn : Int) + 1) kn wa HBa.out).mono ?_; rintro x4 w4 ⟨a4, c4, L4, rfl, hl4, hc4, hops4, hos4, hb4⟩; have HB4 := Lib.hid (HBa.out.trans (hb4.mono HBa.out.size)); have HQ4 := Lib.hid ((hb4.block w.heap.size HSa.out).trans HQa.out); have HS4 := Lib.hid (Nat.lt_of_lt_of_le HSa.out hb4.size); have HX4 := Lib.hid ((hb4.block bx kl).trans HBX.out); have HXL := Lib.hid (Nat.lt_of_lt_of_le kl hb4.size); have HR4 := Lib.hid (HRW2.out a4 c4 L4 w4 HB4.out hl4 hc4 hops4 hos4); clear hb4 hl4 hc4 hops4 hos4 k0 k1 k2 k3 k4 k5 k6 k7 k8 k9 ka kf kl)
        | (go_at_call 19; refine HR4.out.mono ?_; rintro x5 w5 ⟨rfl, hb5⟩; have HB5 := Lib.hid (HB4.out.trans (hb5.mono HB4.out.size)); obtain ⟨p0, p1, p2, p3, p4, p5, p6, p7, p8, p9, pa, pf, pl⟩ := cells11P ((hb5.block w.heap.size HS4.out).trans HQ4.out); obtain ⟨q0, q1, q2, q3, q4, q5, q6, q7, q8, q9, qa, qf, ql⟩ := cells11P ((hb5.block bx HXL.out).trans HX4.out); clear hb5)
        | fail)
      refine bodyPost_ret (v := .tuple #[.agg #[.int .i64 site, .int .i64 ((qn : Int) + 1), .int .i64 2, .int .i64 0, .int .i64 0, .int .i64 0, .string ⟨#[]⟩, .slice none 0 0, .int .i64 of_, .int .i64 num, .int .i64 kn], .int .i64 0]) (by simp [results, Tryz.results35, go_sem, p0, p1, p2, p3, p4, p5, p6, p7, p8, p9, pa]) rfl (HFI.out _ (HBB.out (by first | rfl | trivial)) ?_)
      exact set11 HB5.out _ _ _ _ _ _ _ _ _ _ _
end Go.Proofs.YthnedehihbploaaGreatDoor
/- lectionarylaw10.num, wakes -/
namespace Go.Proofs.YthnedehihbploaaGreatDoor
open Go.RowKit Go.Lib Go.Sort

theorem num10_same (n : Int) (w : World) : Calls Tryz.prog 10 #[.int .i64 n] w fun e w' => e = .returned (.int .i64 n) ∧ w' = w := by
  go_enter Tryz.func10, Tryz.ntmps10
  go_wp2
  go_ret
  exact ⟨rfl, rfl⟩
def qO : OpD := ⟨1, 1, 1, ⟨0, 0, 0⟩, ⟨#[97, 98]⟩, [], 0, 0, 0⟩
theorem qO_row : rowP [qO] := ⟨by decide, fun k hk => by
  have h0 : k = 0 := by simp at hk; exact hk
  subst h0
  show tk [] qO = true
  kernel_rfl⟩
theorem qnil_row : rowP [] := ⟨Nat.zero_le _, fun k hk => absurd hk (by simp)⟩
theorem qO_path : pathP [] qO = [⟨1, 0, 97, 1⟩, ⟨1, 1, 98, 1⟩] := by kernel_rfl
theorem qO_all : allK [qO] 1 = [⟨1, 0, 97, 1⟩, ⟨1, 1, 98, 1⟩] := by
  rw [show (1 : Nat) = 0 + 1 from rfl, allK_succ (by decide), allK_zero]
  show [] ++ pathP [] qO = _
  rw [qO_path]
  rfl
theorem qops_nil (w : World) : OpsAt w none [] := ⟨fun j hj => absurd hj (by simp), fun j hj => absurd hj (by simp), by decide⟩
theorem opsP_one {w : World} {r : OpR} (ho : OpAt w r.o r.a r.cap) : OpsAt (w.alloc (.cells #[.int .i64 r.o.site, .int .i64 r.o.seq, .int .i64 r.o.kind, .int .i64 r.o.after.s, .int .i64 r.o.after.q, .int .i64 r.o.after.i, .string r.o.text, .slice r.a r.o.gone.length r.cap, .int .i64 r.o.of, .int .i64 r.o.num, .int .i64 r.o.gen] 39)) (some ⟨w.heap.size, 0, none⟩) [r] :=
  ⟨fun j hj => by
    have h0 : j = 0 := by simp at hj; exact hj
    subst h0
    refine ⟨w.heap.size, 0, rfl, by simp, fun c u hu => ?_⟩
    have h9 := cell_op_newR w r 39 c u hu
    rw [Addr.add_lit] at h9
    simpa using h9, fun j hj => by
    have h0 : j = 0 := by simp at hj; exact hj
    subst h0
    exact ho.below ((Below.refl _ _).alloc (Nat.le_refl _) _), by show 1 ≤ BIG; unfold BIG; omega⟩
theorem qO_at (w : World) : OpAt w qO none 0 := ⟨ElemsAt.nil none, Nat.zero_le _, by show 2 ≤ BIG; unfold BIG; omega, fun _ => ⟨rfl, rfl⟩⟩
theorem qO_of (w : World) : Calls Tryz.prog 12 #[.slice none 0 0, .agg #[.int .i64 1, .int .i64 1, .int .i64 1, .int .i64 0, .int .i64 0, .int .i64 0, .string ⟨#[97, 98]⟩, .slice none 0 0, .int .i64 0, .int .i64 0, .int .i64 0]] w fun e w' => ∃ a c, e = .returned (.tuple #[.slice a 2 c, .int .i64 0]) ∧ Below w.heap.size w w' := by
  have h := pOf_ok none 0 [] qO none 0 w (qops_nil w) (Nat.le_refl _) qnil_row (qO_at w) qO_row
  refine h.mono ?_
  rintro e w' ⟨v, rfl, hown, hb⟩
  rw [show OpR.os [] = [] from rfl, qO_path] at hown
  obtain ⟨a, c, hv, -⟩ := prims_own hown
  exact ⟨a, c, by rw [hv]; rfl, hb⟩
theorem qO_play (w : World) : Calls Tryz.prog 11 #[.slice (some ⟨w.heap.size, 0, none⟩) 1 1] (w.alloc (.cells #[.int .i64 1, .int .i64 1, .int .i64 1, .int .i64 0, .int .i64 0, .int .i64 0, .string ⟨#[97, 98]⟩, .slice none 0 0, .int .i64 0, .int .i64 0, .int .i64 0] 39)) fun e w' => e = .returned (.tuple #[S [97, 98], .int .i64 0]) ∧ Below w.heap.size w w' := by
  have hops := opsP_one (w := w) (r := ⟨qO, none, 0⟩) (qO_at w)
  have h := pPlay_app (some ⟨w.heap.size, 0, none⟩) 1 [⟨qO, none, 0⟩] _ hops (Nat.le_refl _) qO_row (fun i hi => by
    have e0 : allK (OpR.os [⟨qO, none, 0⟩]) ([⟨qO, none, 0⟩] : List OpR).length = [⟨1, 0, 97, 1⟩, ⟨1, 1, 98, 1⟩] := qO_all
    have hi2 : i < 2 := by rw [e0] at hi; exact hi
    have h01 : i = 0 ∨ i = 1 := by omega
    rcases h01 with rfl | rfl
    · simp only [e0]; exact ⟨rfl, rfl⟩
    · simp only [e0]; exact ⟨rfl, rfl⟩)
  have e0 : allK (OpR.os [⟨qO, none, 0⟩]) ([⟨qO, none, 0⟩] : List OpR).length = [⟨1, 0, 97, 1⟩, ⟨1, 1, 98, 1⟩] := qO_all
  rw [e0] at h
  have e1 : Go.Proofs.YthnedehihbploaaGreatDoor.mk (([⟨1, 0, 97, 1⟩, ⟨1, 1, 98, 1⟩] : List Pr).map Pr.r) = [97, 98] := by kernel_rfl
  rw [e1] at h
  refine Calls.mono h ?_
  rintro e w' ⟨rfl, hb⟩
  exact ⟨rfl, ((Below.refl w.heap.size w).alloc (Nat.le_refl _) _).trans (hb.mono (by simp))⟩
set_option maxRecDepth 100000 in
set_option maxHeartbeats 2000000 in
theorem wakes10_any (w : World) : Calls Tryz.prog 17 #[] w (BoB true w) := by
  have HOF := Lib.hid qO_of
  have HPL := Lib.hid qO_play
  have hq0 : (w.alloc (.cells #[.int .i64 1, .int .i64 1, .int .i64 1, .int .i64 0, .int .i64 0, .int .i64 0, .string ⟨#[97, 98]⟩, .slice none 0 0, .int .i64 0, .int .i64 0, .int .i64 0] 39)).heap[w.heap.size]? = some (.cells #[.int .i64 1, .int .i64 1, .int .i64 1, .int .i64 0, .int .i64 0, .int .i64 0, .string ⟨#[97, 98]⟩, .slice none 0 0, .int .i64 0, .int .i64 0, .int .i64 0] 39) := heap_alloc_new _ _
  have HQ := Lib.hid hq0
  have HB0 := Lib.hid (show Below w.heap.size w (w.alloc (.cells #[.int .i64 1, .int .i64 1, .int .i64 1, .int .i64 0, .int .i64 0, .int .i64 0, .string ⟨#[97, 98]⟩, .slice none 0 0, .int .i64 0, .int .i64 0, .int .i64 0] 39)) from (Below.refl _ _).alloc (Nat.le_refl _) _)
  clear hq0
  go_enter Tryz.func17, Tryz.ntmps17
  go_wp2_with (first
    | (go_at_call 12; refine (HOF.out _).mono ?_; rintro x1 w1 ⟨a1, c1, rfl, hb1⟩; have HB1 := Lib.hid (HB0.out.trans (hb1.mono HB0.out.size)); obtain ⟨k0, k1, k2, k3, k4, k5, k6, k7, k8, k9, ka, kf, kl⟩ := cells11P ((hb1.block w.heap.size (by simp)).trans HQ.out); clear hb1)
    | (go_at_call 11; refine (HPL.out w1).mono ?_; rintro x2 w2 ⟨rfl, hb2⟩; have HB2 := Lib.hid (HB1.out.trans (hb2.mono HB1.out.size)); clear hb2 k0 k1 k2 k3 k4 k5 k6 k7 k8 k9 ka kf kl)
    | (go_at_call 10; refine (num10_same _ _).mono ?_; rintro x7 w7 ⟨rfl, h7⟩; have h7s := h7.symm; clear h7; subst h7s)
    | fail)
  go_ret
  exact ⟨rfl, HB2.out⟩
end Go.Proofs.YthnedehihbploaaGreatDoor
