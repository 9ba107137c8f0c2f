/- the laws' weight of ops, as a function -/
import Derived.Test.YtbhfokpakljfoaaOWeight
import Derived.Test.YtbhfokpakljfoaaOBox
import Derived.Test.YtbhfokpakljfoaaVArgs
namespace Go.Proofs.Ytbhfokpakljfoaa
open Go.RowKit Go.Lib

/-- how much ops weigh, as far as it is counted -/
def ww : List OpR → Nat → Nat
  | [], M => M
  | r :: t, M => if M < 1048576 then ww t (M + wt r) else M
theorem ww_stop : ∀ {M : Nat} (l : List OpR), 1048576 ≤ M → ww l M = M
  | _, [], _ => rfl
  | M, r :: t, h => by unfold ww; rw [if_neg (by omega)]
theorem ww_step {l : List OpR} {k M : Nat} (h : k < l.length) (hM : M < 1048576) : ww (l.drop k) M = ww (l.drop (k + 1)) (M + wt l[k]) := by
  rw [List.drop_eq_getElem_cons h, ww, if_pos hM]
theorem ww_sum : ∀ (l : List OpR) (M : Nat), ww l M ≤ 3000 → ww l M = M + (l.map wt).sum
  | [], M, _ => by simp [ww]
  | r :: t, M, h => by
    by_cases hM : M < 1048576
    · have e : ww (r :: t) M = ww t (M + wt r) := by rw [ww, if_pos hM]
      rw [e] at h ⊢
      rw [ww_sum t _ h, List.map_cons, List.sum_cons]; omega
    · rw [ww_stop _ (by omega)] at h; omega
theorem ww_le : ∀ (l : List OpR) (M : Nat), (∀ r ∈ l, wt r ≤ BIG + BIG + 2) → M ≤ HUGE → ww l M ≤ HUGE
  | [], M, _, h => h
  | r :: t, M, hr, h => by
    by_cases hM : M < 1048576
    · rw [ww, if_pos hM]
      refine ww_le t _ (fun x hx => hr x (List.mem_cons_of_mem _ hx)) ?_
      have := hr r (by simp)
      have hb := big_lt
      have h2 : 2 ≤ BIG := by unfold BIG; omega
      omega
    · rw [ww_stop _ (by omega)]; exact h

set_option maxRecDepth 100000 in
set_option maxHeartbeats 1000000 in
theorem OpsWeight_fn (a : Option Addr) (cap : Nat) (l : List OpR) (w : World) (h : OpsAt w a l) : Calls Try.prog 13 #[.slice a l.length cap] w (IntB (ww l l.length) w) := by
  have hlen := h.len
  have hbl := big_lt
  have hhl := huge_lt
  have hbi := big_is
  have H := Lib.hid h
  clear h
  go_enter Try.func13, Try.ntmps13
  go_wp2
  go_loopw [3, 4] (fun n i wr => ∃ k M : Nat, k ≤ l.length ∧ i = .int .i64 k ∧ n = .int .i64 M ∧ M = wpart l k ∧ M ≤ HUGE ∧ ww l l.length = ww (l.drop k) M ∧ Below w.heap.size w wr) (fun _ i _ => l.length - (RowKit.intOf i).toNat)
  case atStart => exact ⟨0, l.length, by omega, rfl, rfl, by simp [wpart], by omega, rfl, Below.refl _ _⟩
  case round =>
    obtain ⟨k, M, hk, rfl, rfl, hM, hM2, hww, hbel⟩ := hrel
    have HM := Lib.hid hM
    have HWW := Lib.hid hww
    clear hM hww
    by_cases hlt : k < l.length ∧ (M : Int) < 1048576
    · obtain ⟨h1, h2⟩ := hlt
      obtain ⟨b, off, ha, hb, c0, c1, c2, c3, c4, c5, c6, c7, c8, c9, ca⟩ := (H.out.below hbel).cells k h1
      have hts := (H.out.op k h1).size
      have htg := (H.out.op k h1).len
      have HP := Lib.hid (wpart_succ h1)
      have HST := Lib.hid (HWW.out.trans (ww_step h1 (by omega : M < 1048576)))
      clear HWW
      have hW := fun w => OpWeight_any l[k].o l[k].a l[k].cap w (by omega) (by omega)
      have hwt : wt l[k] = 2 + l[k].o.text.size / 4 + l[k].o.gone.length := rfl
      generalize l[k] = r at *
      obtain ⟨⟨site, seq, kind, ⟨es, eq, ei⟩, text, gone, of, num, gen⟩, ra, rc⟩ := r
      unfold OpD.v at hW
      simp only at c0 c1 c2 c3 c4 c5 c6 c7 c8 c9 ca hts htg hwt hW
      have HW := Lib.hid hW
      have HWT := Lib.hid hwt
      obtain ⟨T, hT⟩ : ∃ T : Nat, (text.size : Int) / 4 = T := ⟨text.size / 4, by omega⟩
      have hTs : T = text.size / 4 := by omega
      simp only [hT] at HW
      have HTS := Lib.hid hTs
      have hTb : T ≤ BIG := by omega
      clear hW hwt hT hTs
      subst ha
      go_wp2_with fail
      refine (HW.out _).mono ?_
      rintro e w1 ⟨rfl, hb1⟩
      have hbw := hbel.trans (hb1.mono hbel.size)
      clear c0 c1 c2 c3 c4 c5 c6 c7 c8 c9 ca hb1 hbel
      go_wp2
      go_roundw
      case rel => exact ⟨k + 1, M + (2 + T + gone.length), by omega, by go_num, by go_num, by rw [HP.out, HM.out, HWT.out, HTS.out], by omega, by rw [HST.out, HWT.out, HTS.out], hbw⟩
      case measure => simp [RowKit.intOf]; omega
    · by_cases h1 : k < l.length
      · have h2 : decide ((M : Int) < 1048576) = false := decide_eq_false (fun h => hlt ⟨h1, h⟩)
        have h4 : ¬ (M : Int) < 1048576 := fun h => hlt ⟨h1, h⟩
        clear hlt
        go_wp2
        go_ret
        exact ⟨by rw [HWW.out, ww_stop _ (by omega)]; rfl, hbel⟩
      · have h2 : decide (k < l.length) = false := by simp; omega
        go_wp2
        go_ret
        exact ⟨by rw [HWW.out, List.drop_eq_nil_of_le (by omega)]; rfl, hbel⟩
end Go.Proofs.Ytbhfokpakljfoaa
/- Heavy of layer 5: it answers. -/
namespace Go.Proofs.Ytbhfokpakljfoaa
open Go.RowKit Go.Lib

theorem wt_le {w : World} {r : OpR} (h : OpAt w r.o r.a r.cap) : wt r ≤ BIG + BIG + 2 := by
  have h1 := h.len
  have h2 := h.size
  unfold wt; omega
theorem ww_huge {w : World} {a : Option Addr} {l : List OpR} (h : OpsAt w a l) : ww l l.length ≤ HUGE := ww_le l l.length (fun r hr => by
    obtain ⟨j, hj, rfl⟩ := List.getElem_of_mem hr
    exact wt_le (h.op j hj)) (by have := h.len; have := big_lt; omega)
set_option maxRecDepth 100000 in
set_option maxHeartbeats 2000000 in
theorem Heavy_any (p : AskD) (w : World) (h : AskAt w p) : Calls Try.prog 4 #[p.v] w (SomeB w) := by
  have hW := Lib.hid (fun w h => OpsWeight_fn p.ao p.co p.o w h)
  have hwl := ww_huge h.o
  have HX := Lib.hid (BoxA.new w p)
  have hb0 : Below w.heap.size w (w.alloc p.obj) := (Below.refl _ _).alloc (Nat.le_refl _) _
  have HB := Lib.hid hb0
  have HO := Lib.hid (h.o.below hb0)
  have HRW := Lib.hid h.l
  have hl1 := h.el
  have hl2 := h.nl
  have hl3 := h.l.len
  clear h hb0
  unfold AskD.v
  generalize ww p.o p.o.length = W at *
  obtain ⟨lr, le, lo, ln, ar, ae, ao, an, cr, ce, co, cn⟩ := p
  unfold AskD.obj at HX HB HO
  simp only at hW HX HB HO HRW hl1 hl2 hl3 ⊢
  have hbl := big_lt
  have hhl := huge_lt
  have hbi := big_is
  obtain ⟨n0, hn0⟩ : ∃ n, lr.length = n := ⟨_, rfl⟩
  obtain ⟨n1, hn1⟩ : ∃ n, lo.length = n := ⟨_, rfl⟩
  obtain ⟨n2, hn2⟩ : ∃ n, le.length = n := ⟨_, rfl⟩
  obtain ⟨n3, hn3⟩ : ∃ n, ln.length = n := ⟨_, rfl⟩
  have HL0 := Lib.hid hn0
  have HL1 := Lib.hid hn1
  have HL2 := Lib.hid hn2
  have HL3 := Lib.hid hn3
  simp only [hn0, hn1, hn2, hn3] at hW HX HB HO hl1 hl2 hl3 ⊢
  clear hn0 hn1 hn2 hn3
  have hW64 : (W : Int) ≤ 1152921504606846976 := by omega
  have h2a : (n2 : Int) ≤ 140737488351232 := by omega
  have h3a : (n3 : Int) ≤ 140737488351232 := by omega
  have h0a : (n0 : Int) ≤ 140737488351232 := by omega
  have HM0 := Lib.hid (show n2 + n3 + W ≤ HUGE + HUGE from by omega)
  clear hwl hl1 hl2 hl3 hbl hbi
  go_enter Try.func4, Try.ntmps4
  go_wp2_with fail
  generalize w.alloc (.cells #[.slice ar n0 cr, .slice ae n2 ce, .slice ao n1 co, .slice an n3 cn] 27) = W0 at *
  have q0 := HX.out.c0
  have q1 := HX.out.c1
  have q2 := HX.out.c2
  have q3 := HX.out.c3
  simp only [HL0.out, HL1.out, HL2.out, HL3.out] at q0 q1 q2 q3
  have HBX := Lib.hid (fun (wx : World) (hx : Below W0.heap.size W0 wx) => (And.intro ((hx.cell (p := ⟨w.heap.size, 0, none⟩) HX.out.lt).trans q0) (Nat.lt_of_lt_of_le HX.out.lt hx.size)))
  have g1 := cell_regrown q1
  have g2 := cell_regrown q2
  have g3 := cell_regrown q3
  clear q0 q1 q2 q3
  refine wp_region_quiet_below (by kernel_rfl) (by kernel_rfl) ?_
  repeat (first | go_big_quiet_step (exact Calls.regrown_of (hW.out _ (HO.out.below (below_regrown _ _ _)))) | quiet_step (exact Calls.regrown_of (hW.out _ (HO.out.below (below_regrown _ _ _)))))
  refine wpQuiet_nil ?_
  intro _ hw'
  obtain ⟨⟨dq, osq⟩, hw''⟩ := hw'
  subst hw''
  have HBV := Lib.hid (below_regrown W0 dq osq)
  clear g1 g2 g3
  generalize Sort.grow (redrawn W0 dq) osq = wv at *
  go_wp2_with fail
  go_loopw [3, 4] (fun s3 s4 wr => ∃ k M : Nat, s3 = .int .i64 M ∧ s4 = .int .i64 k ∧ k ≤ n0 ∧ M ≤ HUGE + HUGE ∧ Below W0.heap.size W0 wr) (fun _ s4 _ => n0 - (RowKit.intOf s4).toNat)
  case atStart => exact ⟨0, n2 + n3 + W, by go_num, rfl, Nat.zero_le _, HM0.out, HBV.out⟩
  case round =>
    obtain ⟨k, M, rfl, rfl, hk, hM, hb⟩ := hrel
    obtain ⟨q0, hq0⟩ := HBX.out _ hb
    have hMi : (M : Int) ≤ 2305843009213693952 := by omega
    have hall : RowKit.Hid (Below w.heap.size w wr) := Lib.hid (HB.out.trans (hb.mono HB.out.size))
    by_cases hlt : k < n0
    · by_cases hsm : (M : Int) < 1048576
      · have HM := Lib.hid hM
        have HBR := Lib.hid hb
        have hrw := (HRW.out.below hall.out)
        have hk2 : k < lr.length := by rw [HL0.out]; exact hlt
        obtain ⟨b, off, rfl, hbb, c0⟩ := hrw.cell k hk2
        have hro := (hrw.row k hk2).1
        have HCW := Lib.hid (OpsWeight_fn _ lr[k].cap _ wr hro)
        have hwh := ww_huge hro
        clear hM hb hrw hro
        generalize lr[k] = rr at *
        clear hk2
        obtain ⟨rl, ra, rc⟩ := rr
        simp only at c0 HCW hwh
        generalize ww rl rl.length = V at *
        generalize rl.length = nr at *
        have hVi : (V : Int) ≤ 1152921504606846976 := by omega
        go_wp2_with (first | (go_at_call 13; refine HCW.out.mono ?_; rintro x1 w1 ⟨rfl, hb1⟩; have HB1 := Lib.hid (HBR.out.trans (hb1.mono HBR.out.size)); clear hb1) | fail)
        go_roundw
        case rel => exact ⟨k + 1, M + V, by go_num, by go_num, by omega, by have : 1048576 ≤ HUGE := (by decide); omega, HB1.out⟩
        case measure => simp [RowKit.intOf]; omega
      · have hd : decide ((M : Int) < 1048576) = false := decide_eq_false hsm
        go_wp2
        go_ret
        exact ⟨_, rfl, hall.out⟩
    · have h0 : k = n0 := by omega
      go_wp2
      go_ret
      exact ⟨_, rfl, hall.out⟩
end Go.Proofs.Ytbhfokpakljfoaa
