/- the laws of layer 4: Heavy, num -/
import Derived.Test.YtnkinbobnhdpaaaDoorOWeight
import Derived.Test.YtnkinbobnhdpaaaDoorOBox
namespace Go.Proofs.YtnkinbobnhdpaaaDoor
open Go.RowKit Go.Lib

/-- how much ops weigh, as far as it is counted -/
def ww : List OpR → Nat → Nat
  | [], M => M
  | r :: t, M => if M < 1048576 then ww t (M + wt r) else M
theorem ww_stop : ∀ {M : Nat} (l : List OpR), 1048576 ≤ M → ww l M = M
  | _, [], _ => rfl
  | M, r :: t, h => by unfold ww; rw [if_neg (by omega)]
theorem ww_step {l : List OpR} {k M : Nat} (h : k < l.length) (hM : M < 1048576) : ww (l.drop k) M = ww (l.drop (k + 1)) (M + wt l[k]) := by
  rw [List.drop_eq_getElem_cons h, ww, if_pos hM]
theorem ww_sum : ∀ (l : List OpR) (M : Nat), ww l M ≤ 3000 → ww l M = M + (l.map wt).sum
  | [], M, _ => by simp [ww]
  | r :: t, M, h => by
    by_cases hM : M < 1048576
    · have e : ww (r :: t) M = ww t (M + wt r) := by rw [ww, if_pos hM]
      rw [e] at h ⊢
      rw [ww_sum t _ h, List.map_cons, List.sum_cons]; omega
    · rw [ww_stop _ (by omega)] at h; omega
theorem ww_le : ∀ (l : List OpR) (M : Nat), (∀ r ∈ l, wt r ≤ BIG + BIG + 2) → M ≤ HUGE → ww l M ≤ HUGE
  | [], M, _, h => h
  | r :: t, M, hr, h => by
    by_cases hM : M < 1048576
    · rw [ww, if_pos hM]
      refine ww_le t _ (fun x hx => hr x (List.mem_cons_of_mem _ hx)) ?_
      have := hr r (by simp)
      have hb := big_lt
      have h2 : 2 ≤ BIG := by unfold BIG; omega
      omega
    · rw [ww_stop _ (by omega)]; exact h

set_option maxRecDepth 100000 in
set_option maxHeartbeats 1000000 in
theorem OpsWeight_fn (a : Option Addr) (cap : Nat) (l : List OpR) (w : World) (h : OpsAt w a l) : Calls Tryd.prog 45 #[.slice a l.length cap] w (IntB (ww l l.length) w) := by
  have hlen := h.len
  have hbl := big_lt
  have hhl := huge_lt
  have hbi := big_is
  have H := Lib.hid h
  clear h
  go_enter Tryd.func45, Tryd.ntmps45
  go_wp2
  go_loopw [3, 4] (fun n i wr => ∃ k M : Nat, k ≤ l.length ∧ i = .int .i64 k ∧ n = .int .i64 M ∧ M = wpart l k ∧ M ≤ HUGE ∧ ww l l.length = ww (l.drop k) M ∧ Below w.heap.size w wr) (fun _ i _ => l.length - (RowKit.intOf i).toNat)
  case atStart => exact ⟨0, l.length, by omega, rfl, rfl, by simp [wpart], by omega, rfl, Below.refl _ _⟩
  case round =>
    obtain ⟨k, M, hk, rfl, rfl, hM, hM2, hww, hbel⟩ := hrel
    have HM := Lib.hid hM
    have HWW := Lib.hid hww
    clear hM hww
    by_cases hlt : k < l.length ∧ (M : Int) < 1048576
    · obtain ⟨h1, h2⟩ := hlt
      obtain ⟨b, off, ha, hb, c0, c1, c2, c3, c4, c5, c6, c7, c8, c9, ca⟩ := (H.out.below hbel).cells k h1
      have hts := (H.out.op k h1).size
      have htg := (H.out.op k h1).len
      have HP := Lib.hid (wpart_succ h1)
      have HST := Lib.hid (HWW.out.trans (ww_step h1 (by omega : M < 1048576)))
      clear HWW
      have hW := fun w => OpWeight_any l[k].o l[k].a l[k].cap w (by omega) (by omega)
      have hwt : wt l[k] = 2 + l[k].o.text.size / 4 + l[k].o.gone.length := rfl
      generalize l[k] = r at *
      obtain ⟨⟨site, seq, kind, ⟨es, eq, ei⟩, text, gone, of, num, gen⟩, ra, rc⟩ := r
      unfold OpD.v at hW
      simp only at c0 c1 c2 c3 c4 c5 c6 c7 c8 c9 ca hts htg hwt hW
      have HW := Lib.hid hW
      have HWT := Lib.hid hwt
      obtain ⟨T, hT⟩ : ∃ T : Nat, (text.size : Int) / 4 = T := ⟨text.size / 4, by omega⟩
      have hTs : T = text.size / 4 := by omega
      simp only [hT] at HW
      have HTS := Lib.hid hTs
      have hTb : T ≤ BIG := by omega
      clear hW hwt hT hTs
      subst ha
      go_wp2_with fail
      refine (HW.out _).mono ?_
      rintro e w1 ⟨rfl, hb1⟩
      have hbw := hbel.trans (hb1.mono hbel.size)
      clear c0 c1 c2 c3 c4 c5 c6 c7 c8 c9 ca hb1 hbel
      go_wp2
      go_roundw
      case rel => exact ⟨k + 1, M + (2 + T + gone.length), by omega, by go_num, by go_num, by rw [HP.out, HM.out, HWT.out, HTS.out], by omega, by rw [HST.out, HWT.out, HTS.out], hbw⟩
      case measure => simp [RowKit.intOf]; omega
    · by_cases h1 : k < l.length
      · have h2 : decide ((M : Int) < 1048576) = false := decide_eq_false (fun h => hlt ⟨h1, h⟩)
        have h4 : ¬ (M : Int) < 1048576 := fun h => hlt ⟨h1, h⟩
        clear hlt
        go_wp2
        go_ret
        exact ⟨by rw [HWW.out, ww_stop _ (by omega)]; rfl, hbel⟩
      · have h2 : decide (k < l.length) = false := by simp; omega
        go_wp2
        go_ret
        exact ⟨by rw [HWW.out, List.drop_eq_nil_of_le (by omega)]; rfl, hbel⟩

/-- the statement's argument -/
structure AskD where
  o : List OpR
  e : List El
  n : List Int
  ao : Option Addr
  ae : Option Addr
  an : Option Addr
  co : Nat
  ce : Nat
  cn : Nat
def AskD.v (p : AskD) : Value := .agg #[.slice p.ao p.o.length p.co, .slice p.ae p.e.length p.ce, .slice p.an p.n.length p.cn]
/-- numbers that may be read -/
structure NumsAt (w : World) (a : Option Addr) (l : List Int) : Prop where
  cell : ∀ j (h : j < l.length), ∃ b off, a = some ⟨b, off, none⟩ ∧ b < w.heap.size ∧ w.cell? ⟨b, off + j, none⟩ = some (.int .i64 l[j])
theorem NumsAt.below {w w' : World} {a : Option Addr} {l : List Int} (h : NumsAt w a l) (hb : Below w.heap.size w w') : NumsAt w' a l :=
  ⟨fun j hj => by obtain ⟨b, off, h1, h2, h3⟩ := h.cell j hj; exact ⟨b, off, h1, Nat.lt_of_lt_of_le h2 hb.size, (hb.cell (p := ⟨b, off + j, none⟩) h2).trans h3⟩⟩
structure AskAt (w : World) (p : AskD) : Prop where
  o : OpsAt w p.ao p.o
  e : ElemsAt w p.ae p.e
  el : p.e.length ≤ BIG
  n : NumsAt w p.an p.n
  nl : p.n.length ≤ BIG
theorem AskAt.below {w w' : World} {p : AskD} (h : AskAt w p) (hb : Below w.heap.size w w') : AskAt w' p := ⟨h.o.below hb, h.e.below hb, h.el, h.n.below hb, h.nl⟩
structure BoxA (w : World) (b : Nat) (p : AskD) : Prop where
  lt : b < w.heap.size
  c0 : w.cell? ⟨b, 0, none⟩ = some (.slice p.ao p.o.length p.co)
  c1 : w.cell? ⟨b, 1, none⟩ = some (.slice p.ae p.e.length p.ce)
  c2 : w.cell? ⟨b, 2, none⟩ = some (.slice p.an p.n.length p.cn)
theorem BoxA.next {w w' : World} {b B : Nat} {p : AskD} (h : BoxA w b p) (hb : Below B w w') (hB : b < B) : BoxA w' b p :=
  ⟨Nat.lt_of_lt_of_le h.lt hb.size, (hb.cell (p := ⟨b, 0, none⟩) hB).trans h.c0, (hb.cell (p := ⟨b, 1, none⟩) hB).trans h.c1, (hb.cell (p := ⟨b, 2, none⟩) hB).trans h.c2⟩
theorem BoxA.step {w w' : World} {b : Nat} {p : AskD} (h : BoxA w b p) (hb : Below w.heap.size w w') : BoxA w' b p := h.next hb h.lt
theorem BoxA.new (w : World) (p : AskD) : BoxA (w.alloc (.cells #[.slice p.ao p.o.length p.co, .slice p.ae p.e.length p.ce, .slice p.an p.n.length p.cn] 26)) w.heap.size p := by
  refine ⟨by simp, ?_, ?_, ?_⟩
  all_goals
    rw [World.cell?_alloc_new]
    rfl

theorem wt_le {w : World} {r : OpR} (h : OpAt w r.o r.a r.cap) : wt r ≤ BIG + BIG + 2 := by
  have h1 := h.len
  have h2 := h.size
  unfold wt; omega

def heavyB (p : AskD) : Bool := decide (900 < ww p.o p.o.length + p.e.length + p.n.length)
theorem heavy_no {p : AskD} (h : heavyB p = false) : wsum p.o ≤ 900 ∧ p.e.length ≤ 900 ∧ p.n.length ≤ 900 := by
  have h1 : ¬ 900 < ww p.o p.o.length + p.e.length + p.n.length := of_decide_eq_false h
  have h2 := ww_sum p.o p.o.length (by omega)
  unfold wsum
  omega
theorem light_op {p : AskD} (h : wsum p.o ≤ 900) {r : OpR} (hr : r ∈ p.o) : r.o.text.size ≤ 3600 ∧ r.o.gone.length ≤ 900 := by
  have := wt_mem hr
  unfold wt at this
  omega

set_option maxRecDepth 100000 in
set_option maxHeartbeats 1000000 in
theorem Heavy_any (p : AskD) (w : World) (h : AskAt w p) : Calls Tryd.prog 46 #[p.v] w (BoB (heavyB p) w) := by
  have hW := Lib.hid (fun w h => OpsWeight_fn p.ao p.co p.o w h)
  have hwl := ww_le p.o p.o.length (fun r hr => by
    obtain ⟨j, hj, rfl⟩ := List.getElem_of_mem hr
    exact wt_le (h.o.op j hj)) (by have := h.o.len; have := big_lt; omega)
  have hh : heavyB p = decide (900 < ww p.o p.o.length + p.e.length + p.n.length) := rfl
  rw [hh]
  have HX := Lib.hid (BoxA.new w p)
  have hb0 : Below w.heap.size w (w.alloc (.cells #[.slice p.ao p.o.length p.co, .slice p.ae p.e.length p.ce, .slice p.an p.n.length p.cn] 26)) := (Below.refl _ _).alloc (Nat.le_refl _) _
  have HB := Lib.hid hb0
  have HO := Lib.hid (h.o.below hb0)
  have hl1 := h.el
  have hl2 := h.nl
  clear h hh hb0
  unfold AskD.v
  generalize ww p.o p.o.length = W at *
  obtain ⟨lo, le, ln, ao, ae, an, co, ce, cn⟩ := p
  simp only at hW HX HB HO hl1 hl2 ⊢
  have hbl := big_lt
  have hhl := huge_lt
  have hbi := big_is
  obtain ⟨n1, hn1⟩ : ∃ n, lo.length = n := ⟨_, rfl⟩
  obtain ⟨n2, hn2⟩ : ∃ n, le.length = n := ⟨_, rfl⟩
  obtain ⟨n3, hn3⟩ : ∃ n, ln.length = n := ⟨_, rfl⟩
  have HL1 := Lib.hid hn1
  have HL2 := Lib.hid hn2
  have HL3 := Lib.hid hn3
  simp only [hn1, hn2, hn3] at hW HX HB HO hl1 hl2 ⊢
  clear hn1 hn2 hn3
  have hW64 : (W : Int) ≤ 1152921504606846976 := by omega
  have h2a : (n2 : Int) ≤ 140737488351232 := by omega
  have h3a : (n3 : Int) ≤ 140737488351232 := by omega
  clear hwl hl1 hl2 hbl hhl hbi
  rw [show decide (900 < W + n2 + n3) = decide ((900 : Int) < (W : Int) + n2 + n3) from by rw [decide_eq_decide]; omega]
  go_enter Tryd.func46, Tryd.ntmps46
  go_wp2_with fail
  generalize w.alloc (.cells #[.slice ao n1 co, .slice ae n2 ce, .slice an n3 cn] 26) = W0 at *
  have q0 := HX.out.c0
  have q1 := HX.out.c1
  have q2 := HX.out.c2
  simp only [HL1.out, HL2.out, HL3.out] at q0 q1 q2
  have g0 := cell_regrown q0
  have g1 := cell_regrown q1
  have g2 := cell_regrown q2
  clear q0 q1 q2
  refine wp_region_quiet_below (by kernel_rfl) (by kernel_rfl) ?_
  repeat (first | go_big_quiet_step (exact Calls.regrown_of (hW.out _ (HO.out.below (below_regrown _ _ _)))) | quiet_step (exact Calls.regrown_of (hW.out _ (HO.out.below (below_regrown _ _ _)))))
  refine wpQuiet_nil ?_
  intro _ hw'
  obtain ⟨⟨dq, osq⟩, hw''⟩ := hw'
  subst hw''
  have hbv := HB.out.trans ((below_regrown W0 dq osq).mono HB.out.size)
  clear g0 g1 g2
  generalize Sort.grow (redrawn W0 dq) osq = wv at *
  go_wp2
  go_ret
  exact ⟨rfl, hbv⟩

end Go.Proofs.YtnkinbobnhdpaaaDoor
