/- the laws' weight of ops, as a function -/
import Derived.Test.YthnedehihbploaaGreatDoorOWeight
import Derived.Test.YthnedehihbploaaGreatDoorOBox
import Derived.Test.YthnedehihbploaaGreatDoorVArgs
import Derived.Test.YthnedehihbploaaGreatDoorYCut
import Derived.Laws.AppendOwnNone
import Derived.Deep.DeepCutAuto
import Derived.IntWalk
import Derived.Deep.CutBlock
import Derived.Deep.RegionLaw
namespace Go.Proofs.YthnedehihbploaaGreatDoor
open Go.RowKit Go.Lib

/-- how much ops weigh, as far as it is counted -/
def ww : List OpR → Nat → Nat
  | [], M => M
  | r :: t, M => if M < 1048576 then ww t (M + wt r) else M
theorem ww_stop : ∀ {M : Nat} (l : List OpR), 1048576 ≤ M → ww l M = M
  | _, [], _ => rfl
  | M, r :: t, h => by unfold ww; rw [if_neg (by omega)]
theorem ww_step {l : List OpR} {k M : Nat} (h : k < l.length) (hM : M < 1048576) : ww (l.drop k) M = ww (l.drop (k + 1)) (M + wt l[k]) := by
  rw [List.drop_eq_getElem_cons h, ww, if_pos hM]
theorem ww_sum : ∀ (l : List OpR) (M : Nat), ww l M ≤ 3000 → ww l M = M + (l.map wt).sum
  | [], M, _ => by simp [ww]
  | r :: t, M, h => by
    by_cases hM : M < 1048576
    · have e : ww (r :: t) M = ww t (M + wt r) := by rw [ww, if_pos hM]
      rw [e] at h ⊢
      rw [ww_sum t _ h, List.map_cons, List.sum_cons]; omega
    · rw [ww_stop _ (by omega)] at h; omega
theorem ww_le : ∀ (l : List OpR) (M : Nat), (∀ r ∈ l, wt r ≤ BIG + BIG + 2) → M ≤ HUGE → ww l M ≤ HUGE
  | [], M, _, h => h
  | r :: t, M, hr, h => by
    by_cases hM : M < 1048576
    · rw [ww, if_pos hM]
      refine ww_le t _ (fun x hx => hr x (List.mem_cons_of_mem _ hx)) ?_
      have := hr r (by simp)
      have hb := big_lt
      have h2 : 2 ≤ BIG := by unfold BIG; omega
      omega
    · rw [ww_stop _ (by omega)]; exact h

set_option maxRecDepth 100000 in
set_option maxHeartbeats 1000000 in
theorem OpsWeight_fn (a : Option Addr) (cap : Nat) (l : List OpR) (w : World) (h : OpsAt w a l) : Calls Tryz.prog 36 #[.slice a l.length cap] w (IntB (ww l l.length) w) := by
  have hlen := h.len
  have hbl := big_lt
  have hhl := huge_lt
  have hbi := big_is
  have H := Lib.hid h
  clear h
  go_enter Tryz.func36, Tryz.ntmps36
  go_wp2
  go_loopw [3, 4] (fun n i wr => ∃ k M : Nat, k ≤ l.length ∧ i = .int .i64 k ∧ n = .int .i64 M ∧ M = wpart l k ∧ M ≤ HUGE ∧ ww l l.length = ww (l.drop k) M ∧ Below w.heap.size w wr) (fun _ i _ => l.length - (RowKit.intOf i).toNat)
  case atStart => exact ⟨0, l.length, by omega, rfl, rfl, by simp [wpart], by omega, rfl, Below.refl _ _⟩
  case round =>
    obtain ⟨k, M, hk, rfl, rfl, hM, hM2, hww, hbel⟩ := hrel
    have HM := Lib.hid hM
    have HWW := Lib.hid hww
    clear hM hww
    by_cases hlt : k < l.length ∧ (M : Int) < 1048576
    · obtain ⟨h1, h2⟩ := hlt
      obtain ⟨b, off, ha, hb, c0, c1, c2, c3, c4, c5, c6, c7, c8, c9, ca⟩ := (H.out.below hbel).cells k h1
      have hts := (H.out.op k h1).size
      have htg := (H.out.op k h1).len
      have HP := Lib.hid (wpart_succ h1)
      have HST := Lib.hid (HWW.out.trans (ww_step h1 (by omega : M < 1048576)))
      clear HWW
      have hW := fun w => OpWeight_any l[k].o l[k].a l[k].cap w (by omega) (by omega)
      have hwt : wt l[k] = 2 + l[k].o.text.size / 4 + l[k].o.gone.length := rfl
      generalize l[k] = r at *
      obtain ⟨⟨site, seq, kind, ⟨es, eq, ei⟩, text, gone, of, num, gen⟩, ra, rc⟩ := r
      unfold OpD.v at hW
      simp only at c0 c1 c2 c3 c4 c5 c6 c7 c8 c9 ca hts htg hwt hW
      have HW := Lib.hid hW
      have HWT := Lib.hid hwt
      obtain ⟨T, hT⟩ : ∃ T : Nat, (text.size : Int) / 4 = T := ⟨text.size / 4, by omega⟩
      have hTs : T = text.size / 4 := by omega
      simp only [hT] at HW
      have HTS := Lib.hid hTs
      have hTb : T ≤ BIG := by omega
      clear hW hwt hT hTs
      subst ha
      go_wp2_with fail
      refine (HW.out _).mono ?_
      rintro e w1 ⟨rfl, hb1⟩
      have hbw := hbel.trans (hb1.mono hbel.size)
      clear c0 c1 c2 c3 c4 c5 c6 c7 c8 c9 ca hb1 hbel
      go_wp2
      go_roundw
      case rel => exact ⟨k + 1, M + (2 + T + gone.length), by omega, by go_num, by go_num, by rw [HP.out, HM.out, HWT.out, HTS.out], by omega, by rw [HST.out, HWT.out, HTS.out], hbw⟩
      case measure => simp [RowKit.intOf]; omega
    · by_cases h1 : k < l.length
      · have h2 : decide ((M : Int) < 1048576) = false := decide_eq_false (fun h => hlt ⟨h1, h⟩)
        have h4 : ¬ (M : Int) < 1048576 := fun h => hlt ⟨h1, h⟩
        clear hlt
        go_wp2
        go_ret
        exact ⟨by rw [HWW.out, ww_stop _ (by omega)]; rfl, hbel⟩
      · have h2 : decide (k < l.length) = false := by simp; omega
        go_wp2
        go_ret
        exact ⟨by rw [HWW.out, List.drop_eq_nil_of_le (by omega)]; rfl, hbel⟩
end Go.Proofs.YthnedehihbploaaGreatDoor
/- Heavy of layer 5: it answers. -/
namespace Go.Proofs.YthnedehihbploaaGreatDoor
open Go.RowKit Go.Lib

theorem wt_le {w : World} {r : OpR} (h : OpAt w r.o r.a r.cap) : wt r ≤ BIG + BIG + 2 := by
  have h1 := h.len
  have h2 := h.size
  unfold wt; omega
theorem ww_huge {w : World} {a : Option Addr} {l : List OpR} (h : OpsAt w a l) : ww l l.length ≤ HUGE := ww_le l l.length (fun r hr => by
    obtain ⟨j, hj, rfl⟩ := List.getElem_of_mem hr
    exact wt_le (h.op j hj)) (by have := h.len; have := big_lt; omega)
set_option maxRecDepth 100000 in
set_option maxHeartbeats 2000000 in
theorem Heavy_any (p : AskD) (w : World) (h : AskAt w p) : Calls Tryz.prog 8 #[p.v] w (SomeB w) := by
  have hW := Lib.hid (fun w h => OpsWeight_fn p.ao p.co p.o w h)
  have hwl := ww_huge h.o
  have HX := Lib.hid (BoxA.new w p)
  have hb0 : Below w.heap.size w (w.alloc p.obj) := (Below.refl _ _).alloc (Nat.le_refl _) _
  have HB := Lib.hid hb0
  have HO := Lib.hid (h.o.below hb0)
  have HRW := Lib.hid h.l
  have hl1 := h.el
  have hl2 := h.nl
  have hl3 := h.l.len
  clear h hb0
  unfold AskD.v
  generalize ww p.o p.o.length = W at *
  obtain ⟨lr, le, lo, ln, ar, ae, ao, an, cr, ce, co, cn⟩ := p
  unfold AskD.obj at HX HB HO
  simp only at hW HX HB HO HRW hl1 hl2 hl3 ⊢
  have hbl := big_lt
  have hhl := huge_lt
  have hbi := big_is
  obtain ⟨n0, hn0⟩ : ∃ n, lr.length = n := ⟨_, rfl⟩
  obtain ⟨n1, hn1⟩ : ∃ n, lo.length = n := ⟨_, rfl⟩
  obtain ⟨n2, hn2⟩ : ∃ n, le.length = n := ⟨_, rfl⟩
  obtain ⟨n3, hn3⟩ : ∃ n, ln.length = n := ⟨_, rfl⟩
  have HL0 := Lib.hid hn0
  have HL1 := Lib.hid hn1
  have HL2 := Lib.hid hn2
  have HL3 := Lib.hid hn3
  simp only [hn0, hn1, hn2, hn3] at hW HX HB HO hl1 hl2 hl3 ⊢
  clear hn0 hn1 hn2 hn3
  have hW64 : (W : Int) ≤ 1152921504606846976 := by omega
  have h2a : (n2 : Int) ≤ 140737488351232 := by omega
  have h3a : (n3 : Int) ≤ 140737488351232 := by omega
  have h0a : (n0 : Int) ≤ 140737488351232 := by omega
  have HM0 := Lib.hid (show n2 + n3 + W ≤ HUGE + HUGE from by omega)
  clear hwl hl1 hl2 hl3 hbl hbi
  go_enter Tryz.func8, Tryz.ntmps8
  go_wp2_with fail
  generalize w.alloc (.cells #[.slice ar n0 cr, .slice ae n2 ce, .slice ao n1 co, .slice an n3 cn] 27) = W0 at *
  have q0 := HX.out.c0
  have q1 := HX.out.c1
  have q2 := HX.out.c2
  have q3 := HX.out.c3
  simp only [HL0.out, HL1.out, HL2.out, HL3.out] at q0 q1 q2 q3
  have HBX := Lib.hid (fun (wx : World) (hx : Below W0.heap.size W0 wx) => (And.intro ((hx.cell (p := ⟨w.heap.size, 0, none⟩) HX.out.lt).trans q0) (Nat.lt_of_lt_of_le HX.out.lt hx.size)))
  have g1 := cell_regrown q1
  have g2 := cell_regrown q2
  have g3 := cell_regrown q3
  clear q0 q1 q2 q3
  refine wp_region_quiet_below (by kernel_rfl) (by kernel_rfl) ?_
  repeat (first | go_big_quiet_step (exact Calls.regrown_of (hW.out _ (HO.out.below (below_regrown _ _ _)))) | quiet_step (exact Calls.regrown_of (hW.out _ (HO.out.below (below_regrown _ _ _)))))
  refine wpQuiet_nil ?_
  intro _ hw'
  obtain ⟨⟨dq, osq⟩, hw''⟩ := hw'
  subst hw''
  have HBV := Lib.hid (below_regrown W0 dq osq)
  clear g1 g2 g3
  generalize Sort.grow (redrawn W0 dq) osq = wv at *
  go_wp2_with fail
  go_loopw [3, 4] (fun s3 s4 wr => ∃ k M : Nat, s3 = .int .i64 M ∧ s4 = .int .i64 k ∧ k ≤ n0 ∧ M ≤ HUGE + HUGE ∧ Below W0.heap.size W0 wr) (fun _ s4 _ => n0 - (RowKit.intOf s4).toNat)
  case atStart => exact ⟨0, n2 + n3 + W, by go_num, rfl, Nat.zero_le _, HM0.out, HBV.out⟩
  case round =>
    obtain ⟨k, M, rfl, rfl, hk, hM, hb⟩ := hrel
    obtain ⟨q0, hq0⟩ := HBX.out _ hb
    have hMi : (M : Int) ≤ 2305843009213693952 := by omega
    have hall : RowKit.Hid (Below w.heap.size w wr) := Lib.hid (HB.out.trans (hb.mono HB.out.size))
    by_cases hlt : k < n0
    · by_cases hsm : (M : Int) < 1048576
      · have HM := Lib.hid hM
        have HBR := Lib.hid hb
        have hrw := (HRW.out.below hall.out)
        have hk2 : k < lr.length := by rw [HL0.out]; exact hlt
        obtain ⟨b, off, rfl, hbb, c0⟩ := hrw.cell k hk2
        have hro := (hrw.row k hk2).1
        have HCW := Lib.hid (OpsWeight_fn _ lr[k].cap _ wr hro)
        have hwh := ww_huge hro
        clear hM hb hrw hro
        generalize lr[k] = rr at *
        clear hk2
        obtain ⟨rl, ra, rc⟩ := rr
        simp only at c0 HCW hwh
        generalize ww rl rl.length = V at *
        generalize rl.length = nr at *
        have hVi : (V : Int) ≤ 1152921504606846976 := by omega
        go_wp2_with (first | (go_at_call 36; refine HCW.out.mono ?_; rintro x1 w1 ⟨rfl, hb1⟩; have HB1 := Lib.hid (HBR.out.trans (hb1.mono HBR.out.size)); clear hb1) | fail)
        go_roundw
        case rel => exact ⟨k + 1, M + V, by go_num, by go_num, by omega, by have : 1048576 ≤ HUGE := (by decide); omega, HB1.out⟩
        case measure => simp [RowKit.intOf]; omega
      · have hd : decide ((M : Int) < 1048576) = false := decide_eq_false hsm
        go_wp2
        go_ret
        exact ⟨_, rfl, hall.out⟩
    · have h0 : k = n0 := by omega
      go_wp2
      go_ret
      exact ⟨_, rfl, hall.out⟩
end Go.Proofs.YthnedehihbploaaGreatDoor
/- lectionarylaw5.Elems: some elements -/
namespace Go.Proofs.YthnedehihbploaaGreatDoor
open Go.RowKit Go.Lib Go.Sort

theorem elems_news {w : World} {b off : Nat} {l : List El} (h : ElemsAt w (some ⟨b, off, none⟩) l) : ∀ j u, (ecs l)[j]? = some u → w.cell? ((⟨b, off, none⟩ : Addr).add j) = some u := by
  intro j u hu
  have hj := (List.getElem?_eq_some_iff.1 hu).1
  rw [ecs_length] at hj
  have hk : j / 3 < l.length := by omega
  obtain ⟨b', off', ha, _, c0, c1, c2⟩ := h.cell (j / 3) hk
  simp only [Option.some.injEq, Addr.mk.injEq] at ha
  obtain ⟨rfl, rfl, _⟩ := ha
  rw [Addr.add_lit]
  have hc : j % 3 = 0 ∨ j % 3 = 1 ∨ j % 3 = 2 := by omega
  have hg := ecs_get l (j / 3) (j % 3) hk (by omega)
  rw [show j / 3 * 3 + j % 3 = j from by omega, hu] at hg
  rcases hc with e | e | e
  · rw [e] at hg
    rw [show off + j = off + j / 3 * 3 from by omega, c0, hg]
    rfl
  · rw [e] at hg
    rw [show off + j = off + j / 3 * 3 + 1 from by omega, c1, hg]
    rfl
  · rw [e] at hg
    rw [show off + j = off + j / 3 * 3 + 2 from by omega, c2, hg]
    rfl
theorem ecs_oneC (l : List El) : ∀ u ∈ ecs l, u.oneCell' = true := by
  intro u hu
  unfold ecs at hu
  obtain ⟨e, _, he⟩ := List.mem_flatMap.1 hu
  exact cs_one e u he
def AnyPost (w : World) (x : Ending) (w' : World) : Prop := ∃ X : List El, X.length ≤ 50 ∧ OwnPost X w x w'
theorem any_of {w w' : World} {v : Value} {X : List El} (hl : X.length ≤ 50) (ho : w'.ownsRow w.heap.size 37 3 v X.length (ecs X)) (hb : Below w.heap.size w w') : AnyPost w (.returned v) w' := ⟨X, hl, v, rfl, ho, hb⟩
set_option maxRecDepth 100000 in
set_option maxHeartbeats 8000000 in
theorem Elems5_any (p : AskD) (a : Option Addr) (cap : Nat) (l : List OpR) (w : World) (hE : ElemsAt w p.ae p.e) (hn9 : p.e.length ≤ 900) (hnone : p.ae = none → p.e.length = 0 ∧ p.ce = 0) (h : OpsAt w a l) : Calls Tryz.prog 23 #[p.v, .slice a l.length cap] w (AnyPost w) := by
  obtain ⟨i0, hq0, hz0, hz1, hz2⟩ := info_parts Tryz.infoElem
  have HX := Lib.hid (BoxA.new w p)
  have hb0 : Below w.heap.size w (w.alloc p.obj) := (Below.refl _ _).alloc (Nat.le_refl _) _
  have HB0 := Lib.hid hb0
  have HH := Lib.hid (fun wx (hx : Below w.heap.size w wx) => h.below hx)
  have HEE := Lib.hid (fun wx (hx : Below w.heap.size w wx) => hE.below hx)
  obtain ⟨n, hn⟩ : ∃ n, l.length = n := ⟨_, rfl⟩
  have HN := Lib.hid hn
  rw [hn]
  clear hb0 h hE hn
  unfold AskD.v
  obtain ⟨lr, le, lo, ln, ar, ae, ao, an, cr, ce, co, cn⟩ := p
  unfold AskD.obj at HX HB0
  simp only at HX HB0 HEE hn9 hnone ⊢
  have HC1 := Lib.hid HX.out.c1
  simp only at HC1
  obtain ⟨n2, hn2⟩ : ∃ n, le.length = n := ⟨_, rfl⟩
  have HN2 := Lib.hid hn2
  rw [hn2] at HB0 HC1 hn9 hnone ⊢
  have HXL := Lib.hid HX.out.lt
  rw [hn2] at HXL
  clear HX hn2
  generalize lr.length = n0 at *
  generalize lo.length = n1 at *
  generalize ln.length = n3 at *
  have hn9i : (n2 : Int) ≤ 900 := by omega
  have HM1 := Lib.hid (show 1 + n2 ≤ maxLen from by simp only [maxLen]; omega)
  have HM2 := Lib.hid (show (1 + n2) * 24 ≤ 140737488355328 from by omega)
  go_enter Tryz.func23, Tryz.ntmps23
  go_upto_region 1 with fail
  generalize w.alloc (.cells #[.slice ar n0 cr, .slice ae n2 ce, .slice ao n1 co, .slice an n3 cn] 27) = W0 at *
  have a1 := HC1.out
  have hxl := HXL.out
  go_cut [5] (fun s5 wx => ∃ X : List El, X.length = 1 + n2 ∧ wx.ownsRow W0.heap.size 37 3 s5 (1 + n2) (ecs X) ∧ Below W0.heap.size W0 wx)
  case first =>
    cases ae with
    | none =>
      obtain ⟨h1, h2⟩ := hnone rfl
      subst h1 h2
      clear hnone
      go_wp2_with (first
        | (at_builtin; refine wpList_append_own_none rfl _ _ 23 rfl W0.heap.size 37 i0 3 Tryz.underlying23 hq0 _ 1 (ecs [⟨0, 0, 0⟩]) rfl (one_own W0 W0.heap.size (Nat.le_refl _) ⟨0, 0, 0⟩) rfl ?_)
        | fail)
      go_meet
      exact ⟨[⟨0, 0, 0⟩], rfl, one_own W0 W0.heap.size (Nat.le_refl _) ⟨0, 0, 0⟩, (Below.refl _ _).alloc (Nat.le_refl _) _⟩
    | some ad =>
      clear hnone
      have HONE := Lib.hid (one_own W0 W0.heap.size (Nat.le_refl _) ⟨0, 0, 0⟩)
      have hsp : le = [] ∨ ∃ b off, ad = ⟨b, off, none⟩ := by
        by_cases h0 : 0 < le.length
        · obtain ⟨b, off, h1, _⟩ := (HEE.out w (Below.refl _ _)).cell 0 h0
          exact .inr ⟨b, off, Option.some.inj h1⟩
        · exact .inl (List.eq_nil_of_length_eq_zero (by omega))
      have HNEWS := Lib.hid (fun wx (hx : Below w.heap.size w wx) => (show ∀ j u, (ecs le)[j]? = some u → wx.cell? (ad.add j) = some u from by
        rcases hsp with e | ⟨b, off, e⟩
        · subst e
          intro j u hu
          simp [ecs] at hu
        · subst e
          exact elems_news (HEE.out wx hx)))
      clear hsp
      go_wp2_with (first
        | (at_builtin; refine wpList_append_own _ rfl _ _ 23 rfl W0.heap.size 37 i0 (.agg #[.int .i64 0, .int .i64 0, .int .i64 0]) 3 24 Tryz.underlying23 hq0 hz0 hz1 hz2 rfl (by decide) _ 1 _ rfl HONE.out ad n2 ce (ecs le) rfl (by rw [ecs_length, HN2.out, Nat.mul_comm]) (HNEWS.out _ (HB0.out.alloc HB0.out.size _)) (ecs_oneC le) HM1.out HM2.out (by simp) ?_; intro v8 w8 hown8 hgrow8 hnil8; have HB8 := Lib.hid (((Below.refl W0.heap.size W0).alloc (Nat.le_refl _) _).grown hgrow8 (by simp) (fun q hq => own_ge (one_own W0 W0.heap.size (Nat.le_refl _) ⟨0, 0, 0⟩) q hq)); have HO8 := Lib.hid hown8; clear hown8 hgrow8 hnil8)
        | fail)
      go_meet
      exact ⟨⟨0, 0, 0⟩ :: le, by rw [List.length_cons, HN2.out]; omega, HO8.out, HB8.out⟩
  case rest =>
    obtain ⟨X, hX, ho, hbc⟩ := hcut
    have HO := Lib.hid ho
    have HBC := Lib.hid hbc
    have HXN := Lib.hid hX
    obtain ⟨gb, cb, hv, hgb, _, hcp⟩ := own_pos ho (by omega)
    subst hv
    clear ho hbc hX
    go_upto_if 14 with fail
    go_cut [5] (fun s5 wx => ∃ Y : List El, Y.length ≤ 6 ∧ wx.ownsRow W0.heap.size 37 3 s5 Y.length (ecs Y) ∧ Below W0.heap.size W0 wx)
    case first =>
      by_cases h6 : (6 : Int) < 1 + (n2 : Int)
      · have hc6 : 6 ≤ cb := by omega
        have HO6 := Lib.hid (owns_cut3 HO.out (show 6 ≤ 1 + n2 from by omega))
        rw [show 6 * 3 = 18 from rfl] at HO6
        go_wp2_with fail
        go_meet
        refine ⟨X.take 6, by rw [List.length_take]; omega, ?_, HBC.out⟩
        have h9 := HO6.out
        rw [show (18 : Nat) = 6 * 3 from rfl, ecs_take] at h9
        rw [show (X.take 6).length = 6 from by rw [List.length_take, HXN.out]; omega]
        exact h9
      · have hd : decide ((6 : Int) < 1 + (n2 : Int)) = false := decide_eq_false h6
        go_wp2_with fail
        go_meet
        exact ⟨X, by rw [HXN.out]; omega, by rw [HXN.out]; exact HO.out, HBC.out⟩
    case rest =>
      obtain ⟨Y, hY, ho2, hb2⟩ := hcut
      have HO2 := Lib.hid ho2
      have HB2 := Lib.hid hb2
      clear ho2 hb2 HO HBC
      go_wp2_with fail
      go_loopw [5, 6] (fun s5 s6 wr => ∃ (k : Nat) (Z : List El), s6 = .int .i64 k ∧ k ≤ 40 ∧ k ≤ n ∧ Z.length ≤ 6 + k ∧ wr.ownsRow W0.heap.size 37 3 s5 Z.length (ecs Z) ∧ Below W0.heap.size W0 wr) (fun _ s6 _ => 41 - (RowKit.intOf s6).toNat)
      case atStart => exact ⟨0, Y, rfl, by omega, Nat.zero_le _, hY, HO2.out, HB2.out⟩
      case round =>
        clear HO2 HB2
        obtain ⟨k, Z, rfl, hk, hkn, hZ, ho, hb⟩ := hrel
        have HB := Lib.hid hb
        by_cases hlt : k < n
        · by_cases h40 : (k : Int) < 40
          · have hkl : k < l.length := by rw [HN.out]; exact hlt
            obtain ⟨b, off, rfl, hbb, c0, c1, -⟩ := (HH.out _ (HB0.out.trans (hb.mono HB0.out.size))).cells k hkl
            generalize l[k].o.site = site at *
            generalize l[k].o.seq = seq at *
            obtain ⟨m, hm⟩ : ∃ m, Z.length = m := ⟨_, rfl⟩
            have HM := Lib.hid hm
            rw [hm] at hZ ho
            obtain ⟨av, cv, hv⟩ := own_form ho
            subst hv
            have HOD := Lib.hid ((same_drew wr).owns ho)
            have HM3 := Lib.hid (show m + 1 ≤ maxLen from by simp only [maxLen]; omega)
            have HM4 := Lib.hid (show (m + 1) * 24 ≤ 140737488355328 from by omega)
            clear hb hkl hm ho
            go_wp2_with fail
            go_region_law (first
              | (refine step_append_lies _ (by rfl) _ _ _ (by rfl) W0.heap.size 37 i0 (.agg #[.int .i64 0, .int .i64 0, .int .i64 0]) 3 24 Tryz.underlying23 hq0 hz0 hz1 hz2 (by rfl) (by decide) (.slice av m cv) m _ (by rfl) (HOD.out.alloc _) ⟨wr.heap.size, 0, none⟩ 1 1 (El.cs ⟨site, seq, (k : Int) % 3⟩) (by rfl) (by rfl) (cell_three_new wr.drew ⟨site, seq, (k : Int) % 3⟩ _) (cs_one ⟨site, seq, (k : Int) % 3⟩) (by omega) HM3.out HM4.out (by have := HB.out.size; simp; omega) _ rfl ?_; intro g8 cap8 w8 hown8 hgrow8 hat8 hlt8; have HO8 := Lib.hid hown8; have HB8 := Lib.hid (((HB.out.trans ((same_drew wr).below W0.heap.size)).alloc HB.out.size _).grown hgrow8 (by have := HB.out.size; simp; omega) (fun q hq => own_ge HOD.out q hq)); clear hown8 hgrow8 hat8 hlt8)
              | fail)
            all_goals
              go_wp2_with fail
              go_roundw
              case rel => exact ⟨k + 1, Z ++ [⟨site, seq, (k : Int) % 3⟩], by go_num, by omega, by omega, by rw [List.length_append, HM.out]; simp; omega, by
                rw [List.length_append, HM.out, ecs_append, show ecs [(⟨site, seq, (k : Int) % 3⟩ : El)] = El.cs ⟨site, seq, (k : Int) % 3⟩ from by simp [ecs]]
                exact HO8.out, HB8.out⟩
              case measure => simp [RowKit.intOf] <;> omega
          · have hd : decide ((k : Int) < 40) = false := decide_eq_false h40
            have HF := Lib.hid (any_of (v := u5) (show Z.length ≤ 50 from by omega) (owns_base ho HB0.out.size) (HB0.out.trans (hb.mono HB0.out.size)))
            clear ho hb
            go_wp2_with fail
            go_ret
            exact HF.out
        · have hd : decide (k < n) = false := decide_eq_false hlt
          have HF := Lib.hid (any_of (v := u5) (show Z.length ≤ 50 from by omega) (owns_base ho HB0.out.size) (HB0.out.trans (hb.mono HB0.out.size)))
          clear ho hb
          go_wp2_with fail
          go_ret
          exact HF.out
end Go.Proofs.YthnedehihbploaaGreatDoor
/- Heavy of layer 5: what it answers no to is light. -/
namespace Go.Proofs.YthnedehihbploaaGreatDoor
open Go.RowKit Go.Lib

/-- no more than is played -/
def Light (p : AskD) : Prop := p.e.length ≤ 900 ∧ p.n.length ≤ 900 ∧ ww p.o p.o.length ≤ 900 ∧ ∀ j (h : j < p.l.length), ww p.l[j].l p.l[j].l.length ≤ 900
def HvPost (LP : Prop) (w : World) (e : Ending) (w' : World) : Prop := ∃ b, e = .returned (.bool b) ∧ (b = false → LP) ∧ Below w.heap.size w w'
/-- the ops of a light row -/
theorem light_row {l : List OpR} (h : ww l l.length ≤ 900) : l.length ≤ 900 ∧ ∀ r ∈ l, r.o.text.size ≤ 3600 ∧ r.o.gone.length ≤ 900 := by
  have h1 := ww_sum l l.length (by omega)
  refine ⟨by omega, fun r hr => ?_⟩
  have h2 := wt_mem hr
  unfold wsum at h2
  have h3 : wt r ≤ 900 := by omega
  unfold wt at h3
  omega
set_option maxRecDepth 100000 in
set_option maxHeartbeats 2000000 in
theorem Heavy_light (p : AskD) (w : World) (h : AskAt w p) : Calls Tryz.prog 8 #[p.v] w (HvPost (Light p) w) := by
  have hW := Lib.hid (fun w h => OpsWeight_fn p.ao p.co p.o w h)
  have hwl := ww_huge h.o
  have HLT := Lib.hid (fun (h1 : p.e.length ≤ 900) (h2 : p.n.length ≤ 900) (h3 : ww p.o p.o.length ≤ 900) (h4 : ∀ j (h : j < p.l.length), ww p.l[j].l p.l[j].l.length ≤ 900) => (show Light p from ⟨h1, h2, h3, h4⟩))
  have HX := Lib.hid (BoxA.new w p)
  have hb0 : Below w.heap.size w (w.alloc p.obj) := (Below.refl _ _).alloc (Nat.le_refl _) _
  have HB := Lib.hid hb0
  have HO := Lib.hid (h.o.below hb0)
  have HRW := Lib.hid h.l
  have hl1 := h.el
  have hl2 := h.nl
  have hl3 := h.l.len
  clear h hb0
  generalize Light p = LP at *
  unfold AskD.v
  generalize ww p.o p.o.length = W at *
  obtain ⟨lr, le, lo, ln, ar, ae, ao, an, cr, ce, co, cn⟩ := p
  unfold AskD.obj at HX HB HO
  simp only at hW HX HB HO HRW hl1 hl2 hl3 HLT ⊢
  have hbl := big_lt
  have hhl := huge_lt
  have hbi := big_is
  obtain ⟨n0, hn0⟩ : ∃ n, lr.length = n := ⟨_, rfl⟩
  obtain ⟨n1, hn1⟩ : ∃ n, lo.length = n := ⟨_, rfl⟩
  obtain ⟨n2, hn2⟩ : ∃ n, le.length = n := ⟨_, rfl⟩
  obtain ⟨n3, hn3⟩ : ∃ n, ln.length = n := ⟨_, rfl⟩
  have HL0 := Lib.hid hn0
  have HL1 := Lib.hid hn1
  have HL2 := Lib.hid hn2
  have HL3 := Lib.hid hn3
  simp only [hn0, hn1, hn2, hn3] at hW HX HB HO hl1 hl2 hl3 ⊢
  rw [hn2, hn3] at HLT
  clear hn0 hn1 hn2 hn3
  have hW64 : (W : Int) ≤ 1152921504606846976 := by omega
  have h2a : (n2 : Int) ≤ 140737488351232 := by omega
  have h3a : (n3 : Int) ≤ 140737488351232 := by omega
  have h0a : (n0 : Int) ≤ 140737488351232 := by omega
  have HM0 := Lib.hid (show n2 + n3 + W ≤ HUGE + HUGE from by omega)
  clear hwl hl1 hl2 hl3 hbl hbi
  go_enter Tryz.func8, Tryz.ntmps8
  go_wp2_with fail
  generalize w.alloc (.cells #[.slice ar n0 cr, .slice ae n2 ce, .slice ao n1 co, .slice an n3 cn] 27) = W0 at *
  have q0 := HX.out.c0
  have q1 := HX.out.c1
  have q2 := HX.out.c2
  have q3 := HX.out.c3
  simp only [HL0.out, HL1.out, HL2.out, HL3.out] at q0 q1 q2 q3
  have HBX := Lib.hid (fun (wx : World) (hx : Below W0.heap.size W0 wx) => (And.intro ((hx.cell (p := ⟨w.heap.size, 0, none⟩) HX.out.lt).trans q0) (Nat.lt_of_lt_of_le HX.out.lt hx.size)))
  have g1 := cell_regrown q1
  have g2 := cell_regrown q2
  have g3 := cell_regrown q3
  clear q0 q1 q2 q3
  refine wp_region_quiet_below (by kernel_rfl) (by kernel_rfl) ?_
  repeat (first | go_big_quiet_step (exact Calls.regrown_of (hW.out _ (HO.out.below (below_regrown _ _ _)))) | quiet_step (exact Calls.regrown_of (hW.out _ (HO.out.below (below_regrown _ _ _)))))
  refine wpQuiet_nil ?_
  intro _ hw'
  obtain ⟨⟨dq, osq⟩, hw''⟩ := hw'
  subst hw''
  have HBV := Lib.hid (below_regrown W0 dq osq)
  clear g1 g2 g3
  generalize Sort.grow (redrawn W0 dq) osq = wv at *
  go_wp2_with fail
  go_loopw [3, 4] (fun s3 s4 wr => ∃ k M : Nat, s3 = .int .i64 M ∧ s4 = .int .i64 k ∧ k ≤ n0 ∧ M ≤ HUGE + HUGE ∧ (n2 + n3 + W ≤ M ∧ ∀ j (h : j < lr.length), j < k → ww lr[j].l lr[j].l.length ≤ M) ∧ Below W0.heap.size W0 wr) (fun _ s4 _ => n0 - (RowKit.intOf s4).toNat)
  case atStart => exact ⟨0, n2 + n3 + W, by go_num, rfl, Nat.zero_le _, HM0.out, ⟨Nat.le_refl _, fun j _ hj => absurd hj (by omega)⟩, HBV.out⟩
  case round =>
    obtain ⟨k, M, rfl, rfl, hk, hM, hinv, hb⟩ := hrel
    have HINV := Lib.hid hinv
    clear hinv
    obtain ⟨q0, hq0⟩ := HBX.out _ hb
    have hMi : (M : Int) ≤ 2305843009213693952 := by omega
    have hall : RowKit.Hid (Below w.heap.size w wr) := Lib.hid (HB.out.trans (hb.mono HB.out.size))
    by_cases hlt : k < n0
    · by_cases hsm : (M : Int) < 1048576
      · have HM := Lib.hid hM
        have HBR := Lib.hid hb
        have hrw := (HRW.out.below hall.out)
        have hk2 : k < lr.length := by rw [HL0.out]; exact hlt
        obtain ⟨b, off, rfl, hbb, c0⟩ := hrw.cell k hk2
        have hro := (hrw.row k hk2).1
        have HCW := Lib.hid (OpsWeight_fn _ lr[k].cap _ wr hro)
        have hwh := ww_huge hro
        have HST := Lib.hid (show ∀ V, ww lr[k].l lr[k].l.length = V → n2 + n3 + W ≤ M + V ∧ ∀ j (h : j < lr.length), j < k + 1 → ww lr[j].l lr[j].l.length ≤ M + V from fun V hV => ⟨by have := HINV.out.1; omega, fun j hj hjk => by
          by_cases hjk2 : j = k
          · subst hjk2; omega
          · have := HINV.out.2 j hj (by omega); omega⟩)
        clear hM hb hrw hro
        generalize lr[k] = rr at *
        clear hk2
        obtain ⟨rl, ra, rc⟩ := rr
        simp only at c0 HCW hwh HST
        generalize hV : ww rl rl.length = V at *
        have HST2 := Lib.hid (HST.out V rfl)
        clear hV HST
        generalize rl.length = nr at *
        have hVi : (V : Int) ≤ 1152921504606846976 := by omega
        go_wp2_with (first | (go_at_call 36; refine HCW.out.mono ?_; rintro x1 w1 ⟨rfl, hb1⟩; have HB1 := Lib.hid (HBR.out.trans (hb1.mono HBR.out.size)); clear hb1) | fail)
        go_roundw
        case rel => exact ⟨k + 1, M + V, by go_num, by go_num, by omega, by have : 1048576 ≤ HUGE := (by decide); omega, HST2.out, HB1.out⟩
        case measure => simp [RowKit.intOf]; omega
      · have hd : decide ((M : Int) < 1048576) = false := decide_eq_false hsm
        have h9 : (900 : Int) < (M : Int) := by omega
        go_wp2
        go_ret
        exact ⟨true, rfl, (fun h => by cases h), hall.out⟩
    · have h0 : k = n0 := by omega
      by_cases h9 : (900 : Int) < (M : Int)
      · go_wp2
        go_ret
        exact ⟨true, rfl, (fun h => by cases h), hall.out⟩
      · have HLP := Lib.hid (HLT.out (by have := HINV.out.1; omega) (by have := HINV.out.1; omega) (by have := HINV.out.1; omega) (fun j hj => by have := HINV.out.2 j hj (by rw [HL0.out] at hj; omega); omega))
        have hd : decide ((900 : Int) < (M : Int)) = false := decide_eq_false h9
        go_wp2
        go_ret
        exact ⟨false, rfl, fun _ => HLP.out, hall.out⟩
end Go.Proofs.YthnedehihbploaaGreatDoor
/- lectionarylaw5.Near: a row, and some with one op changed -/
namespace Go.Proofs.YthnedehihbploaaGreatDoor
open Go.RowKit Go.Lib Go.Sort

/-- a row that may be read, elsewhere than v's own -/
structure Row7 (w : World) (v : Value) (r : RowR) : Prop where
  at_ : OpsAt w r.a r.l
  cap : r.l.length ≤ r.cap
  len : r.l.length ≤ 901
  sz : ∀ x ∈ r.l, x.o.text.size ≤ 3600 ∧ x.o.gone.length ≤ 900
  far : 0 < r.l.length → ∀ ad, r.a = some ad → some ad.block ≠ v.ownBlock ∧ ad.block < w.heap.size
  farg : ∀ x ∈ r.l, 0 < x.o.gone.length → ∀ ad, x.a = some ad → some ad.block ≠ v.ownBlock ∧ ad.block < w.heap.size
theorem ElemsAt.kp2 {w w' : World} {r : Option Nat} {a : Option Addr} {l : List El} (h : ElemsAt w a l) (hk : Kp r w w') (hne : 0 < l.length → ∀ ad, a = some ad → some ad.block ≠ r) : ElemsAt w' a l := by
  by_cases h0 : 0 < l.length
  · exact h.kp hk (hne h0)
  · exact ⟨fun j hj => by omega⟩
theorem OpsAt.kp {w w' : World} {r : Option Nat} {a : Option Addr} {l : List OpR} (h : OpsAt w a l) (hk : Kp r w w') (hne : 0 < l.length → ∀ ad, a = some ad → some ad.block ≠ r) (hng : ∀ x ∈ l, 0 < x.o.gone.length → ∀ ad, x.a = some ad → some ad.block ≠ r) : OpsAt w' a l :=
  ⟨fun j hj => by
    obtain ⟨b, off, h1, h2, h3⟩ := h.cell j hj
    have hb := hk.block b h2 (hne (by omega) _ h1)
    exact ⟨b, off, h1, Nat.lt_of_lt_of_le h2 hk.size, fun c u hu => by
      have := h3 c u hu
      unfold World.cell? at this ⊢
      simp only [hb]
      exact this⟩, fun j hj => ⟨(h.op j hj).gone.kp2 hk (hng _ (List.getElem_mem hj)), (h.op j hj).len, (h.op j hj).size, (h.op j hj).none⟩, h.len⟩
theorem Row7.below {w w' : World} {v : Value} {r : RowR} (h : Row7 w v r) (hb : Below w.heap.size w w') : Row7 w' v r :=
  ⟨h.at_.below hb, h.cap, h.len, h.sz, fun h0 ad ha => ⟨(h.far h0 ad ha).1, Nat.lt_of_lt_of_le (h.far h0 ad ha).2 hb.size⟩, fun x hx h0 ad ha => ⟨(h.farg x hx h0 ad ha).1, Nat.lt_of_lt_of_le (h.farg x hx h0 ad ha).2 hb.size⟩⟩
theorem Row7.push {w w8 : World} {v v8 : Value} {r : RowR} {o : Obj} (h : Row7 w v r) (hg : (w.alloc o).grownBy w8 v.ownBlock) (hat : v8.ownBlock = v.ownBlock ∨ v8.ownBlock = some (w.alloc o).heap.size) : Row7 w8 v8 r := by
  have hkp : Kp v.ownBlock w w8 := (Kp.refl v.ownBlock w).step (.inl rfl) hg
  have hap : ∀ ad : Addr, some ad.block ≠ v.ownBlock ∧ ad.block < w.heap.size → some ad.block ≠ v8.ownBlock ∧ ad.block < w8.heap.size := by
    intro ad ⟨h1, h2⟩
    refine ⟨?_, Nat.lt_of_lt_of_le h2 hkp.size⟩
    rcases hat with e | e
    · rw [e]; exact h1
    · rw [e]
      intro e2
      simp at e2
      omega
  exact ⟨h.at_.kp hkp (fun h0 ad ha => (h.far h0 ad ha).1) (fun x hx h0 ad ha => (h.farg x hx h0 ad ha).1), h.cap, h.len, h.sz, fun h0 ad ha => hap ad (h.far h0 ad ha), fun x hx h0 ad ha => hap ad (h.farg x hx h0 ad ha)⟩
/-- a row of the call's own, made behind v's -/
theorem OwnO.row7 {base : Nat} {w : World} {v vx : Value} {L : List OpR} (h : OwnO base w v L) (hl : L.length ≤ 901) (hs : ∀ x ∈ L, x.o.text.size ≤ 3600 ∧ x.o.gone.length ≤ 900) (hx : ∀ g, vx.ownBlock = some g → g < base) : ∃ a c, v = .slice a L.length c ∧ Row7 w vx ⟨L, a, c⟩ := by
  obtain ⟨a, c, hv, ho, hc⟩ := h.ops (by unfold BIG; omega)
  refine ⟨a, c, hv, ho, hc, hl, hs, fun h0 ad ha => ?_, fun x hxm h0 ad ha => ?_⟩
  · simp only at ha
    subst ha
    have hob : v.ownBlock = some ad.block := by
      rcases h.own.2 with ⟨e, e0⟩ | ⟨g, cap, cur, e, _⟩
      · simp only at h0; omega
      · rw [hv] at e
        simp only [Value.slice.injEq, Option.some.injEq] at e
        rw [hv, e.1]
        rfl
    have h2 := h.own.lt _ hob
    exact ⟨fun e => by have := hx _ e.symm; omega, h2.2⟩
  · have h2 := h.apart x hxm ad ha
    have h3 := h.ge x hxm ad ha
    exact ⟨fun e => by have := hx _ e.symm; omega, h2.2⟩

def NearPost (w : World) (x : Ending) (w' : World) : Prop := ∃ (v : Value) (R : List RowR), x = .returned v ∧ w'.ownsRow w.heap.size 24 1 v R.length (R.map RowR.v) ∧ R.length ≤ 7 ∧ (∀ r ∈ R, Row7 w' v r) ∧ Below w.heap.size w w'
theorem Tryz.infoOps : (Tryz.prog.info? 24).map (fun i => (i.zero, i.size, i.bytes)) = some (some (.slice none 0 0), 1, 24) := by kernel_rfl
/-- the rows so far -/
structure NSt (W0 wr : World) (v : Value) (R : List RowR) (k : Nat) : Prop where
  own : wr.ownsRow W0.heap.size 24 1 v R.length (R.map RowR.v)
  len : R.length = k + 1
  rows : ∀ r ∈ R, Row7 wr v r
  below : Below W0.heap.size W0 wr
/-- the changed row -/
structure YSt (wr wx : World) (vy : Value) (L : List OpR) : Prop where
  own : OwnO wr.heap.size wx vy L
  len : L.length ≤ 901
  sz : ∀ x ∈ L, x.o.text.size ≤ 3600 ∧ x.o.gone.length ≤ 900
  below : Below wr.heap.size wr wx
theorem NSt.next {W0 wr w7 w8 : World} {v v8 : Value} {R : List RowR} {k ny cy : Nat} {ay : Option Addr} {L : List OpR} {o : Obj} (h : NSt W0 wr v R k) (hy : YSt wr w7 (.slice ay ny cy) L) (ho : w8.ownsRow W0.heap.size 24 1 v8 (R.length + 1) (R.map RowR.v ++ [.slice ay ny cy])) (hg : (w7.alloc o).grownBy w8 v.ownBlock) (hat : v8.ownBlock = v.ownBlock ∨ v8.ownBlock = some (w7.alloc o).heap.size) : ∃ r, NSt W0 w8 v8 (R ++ [r]) (k + 1) := by
  obtain ⟨a, c, hv, h7⟩ := hy.own.row7 (vx := v) hy.len hy.sz (fun g hgv => (h.own.lt g hgv).2)
  simp only [Value.slice.injEq] at hv
  obtain ⟨rfl, rfl, rfl⟩ := hv
  refine ⟨⟨L, ay, cy⟩, ?_, ?_, fun r hr => ?_, ?_⟩
  · rw [List.length_append, List.map_append]
    exact ho
  · rw [List.length_append, h.len]
    rfl
  · rcases List.mem_append.1 hr with hr | hr
    · exact ((h.rows r hr).below hy.below).push hg hat
    · have : r = ⟨L, ay, cy⟩ := by simpa using hr
      subst this
      exact h7.push hg hat
  · exact ((h.below.trans (hy.below.mono h.below.size)).alloc (by have := h.below.size; have := hy.below.size; omega) _).grown hg (by have := h.below.size; have := hy.below.size; simp; omega) (fun q hq => own_ge h.own q hq)
theorem row7_arg {w w0 : World} {a : Option Addr} {cap : Nat} {l : List OpR} {g : Nat} (h : OpsAt w a l) (hcap : l.length ≤ cap) (hl : l.length ≤ 900) (hs : ∀ x ∈ l, x.o.text.size ≤ 3600 ∧ x.o.gone.length ≤ 900) (hb : Below w.heap.size w w0) (hg : w.heap.size ≤ g) (n c : Nat) : Row7 w0 (.slice (some ⟨g, 0, none⟩) n c) ⟨l, a, cap⟩ := by
  refine ⟨h.below hb, hcap, (show l.length ≤ 901 by omega), hs, fun h0 ad ha => ?_, fun x hx h0 ad ha => ?_⟩
  · obtain ⟨b, off, h1, h2, _⟩ := h.cell 0 h0
    simp only at ha
    rw [ha] at h1
    have h3 : ad.block = b := by rw [Option.some.inj h1]
    refine ⟨fun e => ?_, by have := hb.size; omega⟩
    have e2 : some ad.block = some g := e
    simp only [Option.some.injEq] at e2
    omega
  · obtain ⟨j, hj, rfl⟩ := List.getElem_of_mem hx
    obtain ⟨b, off, h1, h2, _⟩ := (h.op j hj).gone.cell 0 h0
    rw [ha] at h1
    have h3 : ad.block = b := by rw [Option.some.inj h1]
    refine ⟨fun e => ?_, by have := hb.size; omega⟩
    have e2 : some ad.block = some g := e
    simp only [Option.some.injEq] at e2
    omega
theorem os_sz {L l : List OpR} (h : OpR.os L = OpR.os l) (hs : ∀ x ∈ l, x.o.text.size ≤ 3600 ∧ x.o.gone.length ≤ 900) : ∀ x ∈ L, x.o.text.size ≤ 3600 ∧ x.o.gone.length ≤ 900 := by
  intro x hx
  have h1 : x.o ∈ OpR.os L := List.mem_map.2 ⟨x, hx, rfl⟩
  rw [h] at h1
  obtain ⟨y, hy, he⟩ := List.mem_map.1 h1
  rw [← he]
  exact hs y hy
theorem OwnO.cell {base : Nat} {w : World} {g n c : Nat} {L : List OpR} (h : OwnO base w (.slice (some ⟨g, 0, none⟩) n c) L) (hn : L.length = n) {k : Nat} (hk : k < L.length) (j : Nat) (hj : j < 11) : w.cell? ⟨g, k * 11 + j, none⟩ = (L[k].cs)[j]? ∧ w.frozen? ⟨g, k * 11 + j, none⟩ = false := by
  have ho := h.own
  rw [hn] at ho
  exact ⟨by rw [ho.cellAt (k * 11 + j) (by omega)]; exact ocs_get L k j hk hj, ho.frozenAt _⟩
theorem cell_one_new (w : World) (v : Value) (t : TypeId) : ∀ j u, ([v])[j]? = some u → (w.alloc (.cells #[v] t)).cell? ((⟨w.heap.size, 0, none⟩ : Addr).add j) = some u := by
  intro j u hu
  rw [Addr.add_lit, Nat.zero_add, World.cell?_alloc_new, ← hu]
  simp
theorem one_slice (a : Option Addr) (n c : Nat) : ∀ u ∈ [Value.slice a n c], u.oneCell' = true := by
  intro u hu
  rw [List.mem_singleton.1 hu]
  rfl
theorem OwnO.cells {base : Nat} {w : World} {g n c : Nat} {L : List OpR} (h : OwnO base w (.slice (some ⟨g, 0, none⟩) n c) L) (hn : L.length = n) {k : Nat} (hk : k < L.length) :
    w.cell? ⟨g, k * 11, none⟩ = some (.int .i64 L[k].o.site) ∧ w.cell? ⟨g, k * 11 + 1, none⟩ = some (.int .i64 L[k].o.seq) ∧ w.cell? ⟨g, k * 11 + 2, none⟩ = some (.int .i64 L[k].o.kind) ∧
    w.cell? ⟨g, k * 11 + 3, none⟩ = some (.int .i64 L[k].o.after.s) ∧ w.cell? ⟨g, k * 11 + 4, none⟩ = some (.int .i64 L[k].o.after.q) ∧ w.cell? ⟨g, k * 11 + 5, none⟩ = some (.int .i64 L[k].o.after.i) ∧
    w.cell? ⟨g, k * 11 + 6, none⟩ = some (.string L[k].o.text) ∧ w.cell? ⟨g, k * 11 + 7, none⟩ = some (.slice L[k].a L[k].o.gone.length L[k].cap) ∧
    w.cell? ⟨g, k * 11 + 8, none⟩ = some (.int .i64 L[k].o.of) ∧ w.cell? ⟨g, k * 11 + 9, none⟩ = some (.int .i64 L[k].o.num) ∧ w.cell? ⟨g, k * 11 + 10, none⟩ = some (.int .i64 L[k].o.gen) :=
  ⟨(h.cell hn hk 0 (by decide)).1, (h.cell hn hk 1 (by decide)).1, (h.cell hn hk 2 (by decide)).1, (h.cell hn hk 3 (by decide)).1, (h.cell hn hk 4 (by decide)).1, (h.cell hn hk 5 (by decide)).1, (h.cell hn hk 6 (by decide)).1, (h.cell hn hk 7 (by decide)).1, (h.cell hn hk 8 (by decide)).1, (h.cell hn hk 9 (by decide)).1, (h.cell hn hk 10 (by decide)).1⟩
theorem YSt.stored {wr wx : World} {g n cap : Nat} {L : List OpR} (h : OwnO wr.heap.size wx (.slice (some ⟨g, 0, none⟩) n cap) L) (hb : Below wr.heap.size wr wx) (hg : wr.heap.size ≤ g) (hn : L.length = n) (hl : n ≤ 900) (hs : ∀ x ∈ L, x.o.text.size ≤ 3600 ∧ x.o.gone.length ≤ 900) {k c : Nat} (hk : k < L.length) (hc : c < 11) {u : Value} {r : OpR} (hr : r.cs = (L[k].cs).set c u) (hra : r.a = L[k].a) (hro : r.o.gone = L[k].o.gone) (hrc : r.cap = L[k].cap) (hrs : r.o.text = L[k].o.text) :
    YSt wr (wx.setCell ⟨g, k * 11 + c, none⟩ u) (.slice (some ⟨g, 0, none⟩) n cap) (L.set k r) :=
  ⟨h.stored hn hk hc hr hra hro hrc (by rw [hrs]; exact (h.at_ _ (List.getElem_mem hk)).size), by rw [List.length_set]; omega, fun x hx => by
    rcases mem_set hx with rfl | hx
    · rw [hrs, hro]; exact hs _ (List.getElem_mem hk)
    · exact hs x hx, hb.setCell hg u⟩
end Go.Proofs.YthnedehihbploaaGreatDoor
