/- the law OpOwn -/
import Derived.Test.YtlgnpkigodohnaaLWakes
import Derived.Test.YtlgnpkigodohnaaONeedsP
import Derived.BigQuiet
namespace Go.Proofs.Ytlgnpkigodohnaa
open Go.RowKit Go.Lib

theorem mine_at {w : World} {base : Nat} {a : Option Addr} {cap n : Nat} {s q : Int} (h : w.ownsRow base 29 3 (.slice a n cap) n (ecs (mine s q n))) (k : Nat) (hk : k < n) :
    ∃ b off, a = some ⟨b, off, none⟩ ∧ b < w.heap.size ∧ w.cell? ⟨b, off + k * 3, none⟩ = some (.int .i64 s) ∧ w.cell? ⟨b, off + k * 3 + 1, none⟩ = some (.int .i64 q) ∧ w.cell? ⟨b, off + k * 3 + 2, none⟩ = some (.int .i64 k) := by
  have hl := mine_length s q n
  have h2 : w.ownsRow base 29 3 (.slice a (mine s q n).length cap) (mine s q n).length (ecs (mine s q n)) := by rw [hl]; exact h
  obtain ⟨aa, cc, hv, HE, _, _, _⟩ := elems_own h2
  simp only [Value.slice.injEq] at hv
  obtain ⟨rfl, _, rfl⟩ := hv
  obtain ⟨b, off, h1, hb, q1, q2, q3⟩ := HE.cell k (by omega)
  rw [mine_get] at q1 q2 q3
  exact ⟨b, off, h1, hb, q1, q2, q3⟩
theorem own_at {o : OpD} (h : okOp o = true) (k : Nat) (hk : k < nR o.text) : ownR o k = (⟨o.site, o.seq, k⟩, 0) := by
  unfold ownR
  rw [if_pos h, if_pos ⟨by omega, by omega⟩]
/-- elements of the call's own, by an address -/
theorem elems_row {w : World} {base : Nat} {a : Option Addr} {cap n : Nat} {l : List El} (h : w.ownsRow base 29 3 (.slice a n cap) n (ecs l)) (hl : l.length = n) : ElemsAt w a l := by
  subst hl
  obtain ⟨aa, cc, hv, HE, _, _, _⟩ := elems_own h
  simp only [Value.slice.injEq] at hv
  obtain ⟨rfl, _, rfl⟩ := hv
  exact HE

set_option maxRecDepth 100000 in
set_option maxHeartbeats 12000000 in
theorem opOwn_walk (p : AskD) (w : World) (h : AskAt w p) : Calls Try.prog 3 #[p.v] w (BoB true w) := by
  have hb0 : Below w.heap.size w (w.alloc (.cells #[.slice p.ao p.o.length p.co, .slice p.ae p.e.length p.ce, .slice p.an p.n.length p.cn] 26)) := (Below.refl _ _).alloc (Nat.le_refl _) _
  have HX := Lib.hid (BoxA.new w p)
  have HB := Lib.hid hb0
  have HA := Lib.hid (h.below hb0)
  have HH := Lib.hid (fun w h => Heavy_any p w h)
  have hlo := h.o.len
  clear h hb0
  cases hv : heavyB p
  case true =>
    rw [hv] at HH
    clear hv
    unfold AskD.v at *
    go_enter Try.func3, Try.ntmps3
    go_wp2_with fail
    refine (HH.out _ HA.out).mono ?_
    rintro x w1 ⟨rfl, hb1⟩
    have HB1 := Lib.hid (HB.out.trans (hb1.mono HB.out.size))
    clear hb1
    go_wp2
    go_ret
    exact ⟨rfl, HB1.out⟩
  case false =>
    rw [hv] at HH
    obtain ⟨hw1, hw2, hw3⟩ := heavy_no hv
    have HW1 := Lib.hid hw1
    have HLT := Lib.hid (fun r hr => light_op (p := p) hw1 (r := r) hr)
    have hle9 : (p.e.length : Int) ≤ 900 := by omega
    have hlo9 : (p.o.length : Int) ≤ 140737488351232 := by unfold BIG at hlo; omega
    clear hv hw1 hw2 hw3 hlo
    have HVV := Lib.hid (show p.v = .agg #[.slice p.ao p.o.length p.co, .slice p.ae p.e.length p.ce, .slice p.an p.n.length p.cn] from rfl)
    unfold AskD.v at *
    obtain ⟨lo, le, ln, ao, ae, an, co, ce, cn⟩ := p
    simp only at HX HB HA HH hle9 hlo9 HLT ⊢
    go_enter Try.func3, Try.ntmps3
    go_wp2_with fail
    generalize w.alloc (.cells #[.slice ao lo.length co, .slice ae le.length ce, .slice an ln.length cn] 26) = W0 at *
    refine (HH.out _ HA.out).mono ?_
    rintro x w1 ⟨rfl, hb1⟩
    have HB1 := Lib.hid hb1
    have hzW := HX.out.lt
    clear hb1 HH
    go_wp2_with fail
    go_loopw [3] (fun i wr => ∃ k : Nat, k ≤ lo.length ∧ i = .int .i64 k ∧ Below W0.heap.size W0 wr) (fun i _ => lo.length - (RowKit.intOf i).toNat)
    case atStart => exact ⟨0, by omega, rfl, HB1.out⟩
    case round =>
      obtain ⟨k, hk, rfl, hbel⟩ := hrel
      have a0 := (HX.out.step hbel).c0
      simp only at a0
      have hor : (k < lo.length ∧ (k : Int) < 10) ∨ (decide (k < lo.length) = false) ∨ (k < lo.length ∧ decide ((k : Int) < 10) = false) := by
        by_cases h1 : k < lo.length
        · by_cases h2 : (k : Int) < 10
          · exact .inl ⟨h1, h2⟩
          · right; right; exact ⟨h1, by simp; omega⟩
        · right; left; simp; omega
      rcases hor with ⟨h1, h2⟩ | hex | ⟨h1, hex⟩
      · obtain ⟨b, off, ha, hb, c0, c1, c2, c3, c4, c5, c6, c7, c8, c9, ca⟩ := (HA.out.o.below hbel).cells k h1
        have HOP := Lib.hid ((HA.out.o.below hbel).op k h1)
        have HLI := Lib.hid (HLT.out lo[k] (List.getElem_mem h1))
        generalize lo[k] = r at *
        obtain ⟨⟨site, seq, kind, ⟨es, eq, ei⟩, text, gone, of, num, gen⟩, ra, rc⟩ := r
        simp only at c0 c1 c2 c3 c4 c5 c6 c7 c8 c9 ca HOP HLI
        subst ha
        obtain ⟨o, ho⟩ : ∃ o : OpD, o = ⟨site, seq, kind, ⟨es, eq, ei⟩, text, gone, of, num, gen⟩ := ⟨_, rfl⟩
        have HXo := Lib.hid (BoxO.new wr ⟨site, seq, kind, ⟨es, eq, ei⟩, text, gone, of, num, gen⟩ ra rc)
        have HBo := Lib.hid (hbel.alloc hbel.size (OpD.obj ⟨site, seq, kind, ⟨es, eq, ei⟩, text, gone, of, num, gen⟩ ra rc))
        have HIo := Lib.hid (show OpIn (wr.alloc (OpD.obj ⟨site, seq, kind, ⟨es, eq, ei⟩, text, gone, of, num, gen⟩ ra rc)) o ra from by rw [ho]; exact ⟨HOP.out.gone.below ((Below.refl _ _).alloc (Nat.le_refl _) _), HOP.out.len, HOP.out.size⟩)
        unfold OpD.obj at HXo HBo HIo
        simp only at HXo HBo HIo
        go_wp2_with fail
        clear c0 c1 c2 c3 c4 c5 c6 c7 c8 c9 ca a0 hb
        generalize wr.alloc (.cells #[.int .i64 site, .int .i64 seq, .int .i64 kind, .int .i64 es, .int .i64 eq, .int .i64 ei, .string text, .slice ra gone.length rc, .int .i64 of, .int .i64 num, .int .i64 gen] 31) = W1 at *
        have HOV := Lib.hid (show o.v ra rc = .agg #[.int .i64 site, .int .i64 seq, .int .i64 kind, .int .i64 es, .int .i64 eq, .int .i64 ei, .string text, .slice ra gone.length rc, .int .i64 of, .int .i64 num, .int .i64 gen] from by rw [ho]; rfl)
        have HOS := Lib.hid (show o.site = site ∧ o.seq = seq ∧ nR o.text = nR text from by rw [ho]; exact ⟨rfl, rfl, rfl⟩)
        have HC := Lib.hid (xCheck_any o ra rc W1 HIo.out)
        have HGL := Lib.hid (show o.gone.length ≤ 900 from by rw [ho]; exact HLI.out.2)
        clear ho
        rw [HOV.out] at HC
        refine HC.out.mono ?_
        rintro x w2 ⟨rfl, hb2⟩
        have HX2 := Lib.hid (HXo.out.step hb2)
        have HI2 := Lib.hid (HIo.out.below hb2)
        have HB2 := Lib.hid (HBo.out.trans (hb2.mono HBo.out.size))
        have hzo := HXo.out.lt
        clear hb2 HC
        cases hok : okOp o
        · rw [show errO false = 1 from rfl]
          as_aux_lemma =>
            go_wp2_with fail
            refine (num_any _ _).mono ?_
            rintro x w3 ⟨rfl, rfl⟩
            go_wp2_with fail
            go_roundw
            case rel => exact ⟨k + 1, by omega, by go_num, HB2.out⟩
            case measure => simp [RowKit.intOf]; omega
        · rw [show errO true = 0 from rfl]
          obtain ⟨_, ht2, _⟩ := okOp_text hok
          obtain ⟨n, hn⟩ : ∃ n, nR text = n := ⟨_, rfl⟩
          have hn12 : n ≤ 12 := by rw [← hn, ← HOS.out.2.2]; exact ht2
          have HNR := Lib.hid (show nR o.text = n from by rw [HOS.out.2.2]; exact hn)
          have HEL := Lib.hid (fun w h => xElems_ok o ra rc w h hok)
          have HND := Lib.hid (show ∀ w, OpIn w o ra → Calls Try.prog 8 #[o.v ra rc] w (ListPost (needs o) w) from fun w h => by
            by_cases hk2 : o.kind = 2
            · exact xNeeds_toggle o ra rc w h hok hk2
            · exact xNeeds_edit o ra rc w h hok hk2)
          have HOW := Lib.hid (fun (j : Int) w h => xOwn_any o ra rc j w h)
          have HOK := Lib.hid hok
          rw [HOV.out] at HEL HND HOW
          rw [HNR.out, HOS.out.1, HOS.out.2.1] at HEL
          clear hok hn ht2
          go_wp2_with fail
          refine (num_any _ _).mono ?_
          rintro x w3 ⟨rfl, rfl⟩
          have g0 := HX2.out.c0
          have g1 := HX2.out.c1
          have g2 := HX2.out.c2
          have g3 := HX2.out.c3
          have g4 := HX2.out.c4
          have g5 := HX2.out.c5
          have g6 := HX2.out.c6
          have g7 := HX2.out.c7
          have g8 := HX2.out.c8
          have g9 := HX2.out.c9
          have ga := HX2.out.ca
          simp only at g0 g1 g2 g3 g4 g5 g6 g7 g8 g9 ga
          go_wp2_with fail
          clear g0 g1 g2 g3 g4 g5 g6 g7 g8 g9 ga
          refine (HEL.out _ HI2.out).mono ?_
          rintro x w3 ⟨a3, cap3, rfl, hown3, hb3⟩
          rw [mine_length] at hown3 ⊢
          have HX3 := Lib.hid (HX2.out.step hb3)
          have HI3 := Lib.hid (HI2.out.below hb3)
          have HB3 := Lib.hid (HB2.out.trans (hb3.mono HB2.out.size))
          have HO3 := Lib.hid hown3
          clear hb3 hown3 HX2 HI2 HB2
          have g0 := HX3.out.c0
          have g1 := HX3.out.c1
          have g2 := HX3.out.c2
          have g3 := HX3.out.c3
          have g4 := HX3.out.c4
          have g5 := HX3.out.c5
          have g6 := HX3.out.c6
          have g7 := HX3.out.c7
          have g8 := HX3.out.c8
          have g9 := HX3.out.c9
          have ga := HX3.out.ca
          simp only at g0 g1 g2 g3 g4 g5 g6 g7 g8 g9 ga
          go_wp2_with fail
          clear g0 g1 g2 g3 g4 g5 g6 g7 g8 g9 ga
          refine (HND.out _ HI3.out).mono ?_
          rintro x w4 ⟨a4, cap4, rfl, hown4, hb4⟩
          have HX4 := Lib.hid (HX3.out.step hb4)
          have HI4 := Lib.hid (HI3.out.below hb4)
          have HB4 := Lib.hid (HB3.out.trans (hb4.mono HB3.out.size))
          have HO3' := Lib.hid (owns_belE HO3.out hb4)
          have HNL := Lib.hid (needs_len o)
          obtain ⟨m, hm⟩ : ∃ m, (needs o).length = m := ⟨_, rfl⟩
          rw [hm] at hown4 ⊢
          have HM := Lib.hid hm
          have HO4 := Lib.hid hown4
          have hm9 : (m : Int) ≤ 901 := by have := HNL.out; have := HGL.out; omega
          clear hb4 hown4 HX3 HI3 HB3 HO3 hm
          go_wp2_with (go_at_call 5; refine (num_any _ _).mono ?_; rintro x w5 ⟨rfl, rfl⟩)
          go_loopw [9] (fun i wx => ∃ j : Nat, j ≤ n ∧ i = .int .i64 j ∧ Below w4.heap.size w4 wx) (fun i _ => n - (RowKit.intOf i).toNat)
          case atStart => exact ⟨0, by omega, rfl, Below.refl _ _⟩
          case round =>
            obtain ⟨j, hj, rfl, hbx⟩ := hrel
            by_cases hjn : j < n
            · have HOW1 := Lib.hid (fun w h => (show Calls Try.prog 9 _ w (fun e w' => e = .returned (.tuple #[.agg #[.int .i64 site, .int .i64 seq, .int .i64 (j : Int)], .int .i64 0]) ∧ Below w.heap.size w w') from by have := HOW.out j w h; rw [own_at HOK.out j (by rw [HNR.out]; exact hjn), HOS.out.1, HOS.out.2.1] at this; exact this))
              have g0 := (HX4.out.step hbx).c0
              have g1 := (HX4.out.step hbx).c1
              have g2 := (HX4.out.step hbx).c2
              have g3 := (HX4.out.step hbx).c3
              have g4 := (HX4.out.step hbx).c4
              have g5 := (HX4.out.step hbx).c5
              have g6 := (HX4.out.step hbx).c6
              have g7 := (HX4.out.step hbx).c7
              have g8 := (HX4.out.step hbx).c8
              have g9 := (HX4.out.step hbx).c9
              have ga := (HX4.out.step hbx).ca
              simp only at g0 g1 g2 g3 g4 g5 g6 g7 g8 g9 ga
              as_aux_lemma =>
                go_wp2_with fail
                refine (HOW1.out _ (HI4.out.below hbx)).mono ?_
                rintro x w6 ⟨rfl, hb6⟩
                clear g0 g1 g2 g3 g4 g5 g6 g7 g8 g9 ga
                have hbx6 := hbx.trans (hb6.mono hbx.size)
                have hbx7 := hbx6.alloc hbx6.size (.cells #[.int .i64 site, .int .i64 seq, .int .i64 (j : Int)] 29)
                have HE7 := Lib.hid (BoxE.new w6 ⟨site, seq, j⟩)
                have HX7 := Lib.hid (HX4.out.step hbx7)
                simp only at HE7
                clear hb6 hbx
                go_wp2_with fail
                generalize w6.alloc (.cells #[.int .i64 site, .int .i64 seq, .int .i64 (j : Int)] 29) = w7 at *
                obtain ⟨b3, o3, h3, _, r0, r1, r2⟩ := mine_at (owns_belE HO3'.out hbx7) j hjn
                have e0 := cell_regrown HE7.out.c0
                have e1 := cell_regrown HE7.out.c1
                have e2 := cell_regrown HE7.out.c2
                have x0 := cell_regrown HX7.out.c0
                have x1 := cell_regrown HX7.out.c1
                have q0 := cell_regrown r0
                have q1 := cell_regrown r1
                have q2 := cell_regrown r2
                simp only at e0 e1 e2 x0 x1
                clear r0 r1 r2
                subst h3
                by_cases hj0 : j = 0
                · subst hj0
                  simp only [Nat.zero_mul, Nat.add_zero] at q0 q1 q2
                  refine wp_region_quiet_below (by kernel_rfl) (by kernel_rfl) ?_
                  repeat (first | go_big_quiet_step (exact Calls.regrown_of (num_below _ _)) | quiet_step (exact Calls.regrown_of (num_below _ _)))
                  refine wpQuiet_nil ?_
                  intro _ hw'
                  obtain ⟨⟨dq, osq⟩, hw''⟩ := hw'
                  subst hw''
                  have hbv := hbx7.trans ((below_regrown w7 dq osq).mono hbx7.size)
                  clear e0 e1 e2 x0 x1 q0 q1 q2 hbx7
                  generalize Sort.grow (redrawn w7 dq) osq = wv at *
                  go_wp2_with fail
                  go_roundw
                  case rel => exact ⟨1, by omega, by go_num, hbv⟩
                  case measure => simp [RowKit.intOf]; omega
                · obtain ⟨i, rfl⟩ : ∃ i, j = i + 1 := ⟨j - 1, by omega⟩
                  obtain ⟨b4, o4, h4, _, r0, r1, r2⟩ := mine_at (owns_belE HO3'.out hbx7) i (by omega)
                  simp only [Option.some.injEq, Addr.mk.injEq] at h4
                  obtain ⟨rfl, rfl, _⟩ := h4
                  have p0 := cell_regrown r0
                  have p1 := cell_regrown r1
                  have p2 := cell_regrown r2
                  have hjw : wrap64 (((i + 1 : Nat) : Int) - 1) = (i : Int) := by rw [IntWalk.wrap64_in _ ⟨by omega, by omega⟩]; omega
                  have HL := Lib.hid (fun w => (show Calls Try.prog 10 #[.agg #[.int .i64 site, .int .i64 seq, .int .i64 (i : Int)], .agg #[.int .i64 site, .int .i64 seq, .int .i64 ((i + 1 : Nat) : Int)]] w (BoB true w) from by
                    have := xLess_any ⟨site, seq, i⟩ ⟨site, seq, ((i + 1 : Nat) : Int)⟩ w
                    rw [show El.lt ⟨site, seq, i⟩ ⟨site, seq, ((i + 1 : Nat) : Int)⟩ = true from (lt_iff _ _).2 (.inr ⟨rfl, .inr ⟨rfl, by show (i : Int) < ((i + 1 : Nat) : Int); omega⟩⟩)] at this
                    exact this))
                  clear r0 r1 r2
                  refine wp_region_quiet_below (by kernel_rfl) (by kernel_rfl) ?_
                  repeat (first | go_big_quiet_step (first | exact Calls.regrown_of (num_below _ _) | exact Calls.regrown_of (HL.out _)) | quiet_step (first | exact Calls.regrown_of (num_below _ _) | exact Calls.regrown_of (HL.out _)))
                  refine wpQuiet_nil ?_
                  intro _ hw'
                  obtain ⟨⟨dq, osq⟩, hw''⟩ := hw'
                  subst hw''
                  have hbv := hbx7.trans ((below_regrown w7 dq osq).mono hbx7.size)
                  clear e0 e1 e2 x0 x1 q0 q1 q2 p0 p1 p2 hbx7 hjw
                  generalize Sort.grow (redrawn w7 dq) osq = wv at *
                  go_wp2_with fail
                  go_roundw
                  case rel => exact ⟨i + 1 + 1, by omega, by go_num, hbv⟩
                  case measure => simp [RowKit.intOf]; omega
            · have hj9 : j = n := by omega
              subst hj9
              have HB5 := Lib.hid (HB4.out.trans (hbx.mono HB4.out.size))
              have HX5 := Lib.hid (HX4.out.step hbx)
              have HO5 := Lib.hid (owns_belE HO4.out hbx)
              clear hbx HX4 HB4 HO4 HI4 HO3'
              go_wp2_with fail
              go_loopw [12] (fun i wx => ∃ j : Nat, j ≤ m ∧ i = .int .i64 j ∧ Below wr.heap.size wr wx) (fun i _ => m - (RowKit.intOf i).toNat)
              case atStart => exact ⟨0, by omega, rfl, Below.refl _ _⟩
              case round =>
                obtain ⟨j, hj, rfl, hbx⟩ := hrel
                by_cases hjn : j < m
                · have HEN := Lib.hid (elems_row (owns_belE HO5.out hbx) HM.out)
                  have hjm : j < (needs o).length := by rw [HM.out]; exact hjn
                  obtain ⟨b3, o3, h3, _, r0, r1, r2⟩ := HEN.out.cell j hjm
                  have HNO := Lib.hid (needs_own HOK.out (needs o)[j] (List.getElem_mem hjm))
                  have HRS := Lib.hid (fun i hi => rise_get (needs_rise o) i hi)
                  have x0 := cell_regrown (HX5.out.step hbx).c0
                  have x1 := cell_regrown (HX5.out.step hbx).c1
                  have q0 := cell_regrown r0
                  have q1 := cell_regrown r1
                  have q2 := cell_regrown r2
                  simp only at x0 x1
                  have HJ := Lib.hid (show (needs o)[j] = (needs o)[j] from rfl)
                  have hno : ((needs o)[j].s == site) = false ∨ ((needs o)[j].s == site) = true ∧ ((needs o)[j].q == seq) = false := by
                    have h9 := HNO.out
                    rw [HOS.out.1, HOS.out.2.1] at h9
                    have h8 : ¬ ((needs o)[j].s = site ∧ (needs o)[j].q = seq) := of_decide_eq_false h9
                    by_cases e1 : (needs o)[j].s = site
                    · right
                      exact ⟨by simp [e1], by simp; exact fun e2 => h8 ⟨e1, e2⟩⟩
                    · left; simp; exact e1
                  subst h3
                  clear r0 r1 r2
                  by_cases hj0 : j = 0
                  · subst hj0
                    simp only [Nat.zero_mul, Nat.add_zero] at q0 q1 q2
                    generalize (needs o)[0] = y at *
                    rcases hno with hno | ⟨hno, hno2⟩
                    all_goals
                      as_aux_lemma =>
                        go_wp2_with fail
                        refine wp_region_quiet_below (by kernel_rfl) (by kernel_rfl) ?_
                        repeat (first | go_big_quiet_step (fail) | quiet_step (fail))
                        refine wpQuiet_nil ?_
                        intro _ hw'
                        obtain ⟨⟨dq, osq⟩, hw''⟩ := hw'
                        subst hw''
                        have hbv := hbx.trans ((below_regrown _ dq osq).mono hbx.size)
                        clear q0 q1 q2 x0 x1 hbx
                        generalize Sort.grow (redrawn _ dq) osq = wv at *
                        go_wp2_with fail
                        go_roundw
                        case rel => exact ⟨1, by omega, by go_num, hbv⟩
                        case measure => simp [RowKit.intOf]; omega
                  · obtain ⟨i, rfl⟩ : ∃ i, j = i + 1 := ⟨j - 1, by omega⟩
                    obtain ⟨b4, o4, h4, _, r0, r1, r2⟩ := HEN.out.cell i (by omega)
                    simp only [Option.some.injEq, Addr.mk.injEq] at h4
                    obtain ⟨rfl, rfl, _⟩ := h4
                    have p0 := cell_regrown r0
                    have p1 := cell_regrown r1
                    have p2 := cell_regrown r2
                    have hjw : wrap64 (((i + 1 : Nat) : Int) - 1) = (i : Int) := by rw [IntWalk.wrap64_in _ ⟨by omega, by omega⟩]; omega
                    have HL := Lib.hid (fun w => (show Calls Try.prog 10 #[(needs o)[i].v, (needs o)[i + 1].v] w (BoB true w) from by
                      have := xLess_any (needs o)[i] (needs o)[i + 1] w
                      rw [HRS.out i hjm] at this
                      exact this))
                    clear r0 r1 r2
                    generalize (needs o)[i] = z at *
                    generalize (needs o)[i + 1] = y at *
                    rcases hno with hno | ⟨hno, hno2⟩
                    all_goals
                      as_aux_lemma =>
                        go_wp2_with fail
                        refine wp_region_quiet_below (by kernel_rfl) (by kernel_rfl) ?_
                        repeat (first | go_big_quiet_step (exact Calls.regrown_of (HL.out _)) | quiet_step (exact Calls.regrown_of (HL.out _)))
                        refine wpQuiet_nil ?_
                        intro _ hw'
                        obtain ⟨⟨dq, osq⟩, hw''⟩ := hw'
                        subst hw''
                        have hbv := hbx.trans ((below_regrown _ dq osq).mono hbx.size)
                        clear q0 q1 q2 x0 x1 p0 p1 p2 hjw hbx
                        generalize Sort.grow (redrawn _ dq) osq = wv at *
                        go_wp2_with fail
                        go_roundw
                        case rel => exact ⟨i + 1 + 1, by omega, by go_num, hbv⟩
                        case measure => simp [RowKit.intOf]; omega
                · as_aux_lemma =>
                    go_wp2_with fail
                    go_roundw
                    case rel => exact ⟨k + 1, by omega, by go_num, HB5.out.trans (hbx.mono HB5.out.size)⟩
                    case measure => simp [RowKit.intOf]; omega
      · go_wp2_with fail
        clear a0
        go_loopw [13] (fun i wx => ∃ k : Nat, k ≤ le.length ∧ i = .int .i64 k ∧ Below W0.heap.size W0 wx) (fun i _ => le.length - (RowKit.intOf i).toNat)
        case atStart => exact ⟨0, by omega, rfl, hbel⟩
        case round =>
          clear hbel
          obtain ⟨k1, hk1, rfl, hbel⟩ := hrel
          have a1 := (HX.out.step hbel).c1
          simp only at a1
          have hor1 : (k1 < le.length ∧ (k1 : Int) < 10) ∨ (decide (k1 < le.length) = false) ∨ (k1 < le.length ∧ decide ((k1 : Int) < 10) = false) := by
            by_cases h1 : k1 < le.length
            · by_cases h2 : (k1 : Int) < 10
              · exact .inl ⟨h1, h2⟩
              · right; right; exact ⟨h1, by simp; omega⟩
            · right; left; simp; omega
          rcases hor1 with ⟨i1, i2⟩ | hex1 | ⟨i1, hex1⟩
          · go_wp2_with fail
            clear a1
            go_loopw [14] (fun i wx => ∃ k : Nat, k ≤ le.length ∧ i = .int .i64 k ∧ Below W0.heap.size W0 wx) (fun i _ => le.length - (RowKit.intOf i).toNat)
            case atStart => exact ⟨0, by omega, rfl, hbel⟩
            case round =>
              clear hbel
              obtain ⟨k2, hk2, rfl, hbel⟩ := hrel
              have a1 := (HX.out.step hbel).c1
              simp only at a1
              have hor2 : (k2 < le.length ∧ (k2 : Int) < 10) ∨ (decide (k2 < le.length) = false) ∨ (k2 < le.length ∧ decide ((k2 : Int) < 10) = false) := by
                by_cases h1 : k2 < le.length
                · by_cases h2 : (k2 : Int) < 10
                  · exact .inl ⟨h1, h2⟩
                  · right; right; exact ⟨h1, by simp; omega⟩
                · right; left; simp; omega
              rcases hor2 with ⟨j1, j2⟩ | hex2 | ⟨j1, hex2⟩
              · obtain ⟨b1, o1, hae, hb1, x0, x1, x2⟩ := HA.out.e.cell k1 i1
                obtain ⟨b2, o2, hae2, hb2, y0, y1, y2⟩ := HA.out.e.cell k2 j1
                simp only at hae hae2 x0 x1 x2 y0 y1 y2
                rw [hae] at hae2
                simp only [Option.some.injEq, Addr.mk.injEq] at hae2
                obtain ⟨rfl, rfl, _⟩ := hae2
                subst hae
                have p0 := (hbel.cell (p := ⟨b1, o1 + k1 * 3, none⟩) hb1).trans x0
                have p1 := (hbel.cell (p := ⟨b1, o1 + k1 * 3 + 1, none⟩) hb1).trans x1
                have p2 := (hbel.cell (p := ⟨b1, o1 + k1 * 3 + 2, none⟩) hb1).trans x2
                have q0 := (hbel.cell (p := ⟨b1, o1 + k2 * 3, none⟩) hb1).trans y0
                have q1 := (hbel.cell (p := ⟨b1, o1 + k2 * 3 + 1, none⟩) hb1).trans y1
                have q2 := (hbel.cell (p := ⟨b1, o1 + k2 * 3 + 2, none⟩) hb1).trans y2
                clear x0 x1 x2 y0 y1 y2
                generalize le[k1] = x at *
                generalize le[k2] = y at *
                have hxy : (x = y ∧ x.lt y = false ∧ y.lt x = false) ∨ (¬ x = y ∧ ((x.lt y = true ∧ y.lt x = false) ∨ (x.lt y = false ∧ y.lt x = true))) := by
                  by_cases e : x = y
                  · subst e; exact .inl ⟨rfl, lt_irrefl x, lt_irrefl x⟩
                  · right
                    refine ⟨e, ?_⟩
                    cases hl : x.lt y
                    · right
                      refine ⟨rfl, ?_⟩
                      cases hl2 : y.lt x
                      · exact absurd (lt_total x y (by rw [ltOf_cmpE]; exact hl) (by rw [ltOf_cmpE]; exact hl2)) e
                      · rfl
                    · exact .inl ⟨rfl, lt_asym hl⟩
                have HLA := Lib.hid (fun w => xLess_any x y w)
                have HLB := Lib.hid (fun w => xLess_any y x w)
                have G0 := Lib.hid p0
                have G1 := Lib.hid p1
                have G2 := Lib.hid p2
                have K0 := Lib.hid q0
                have K1 := Lib.hid q1
                have K2 := Lib.hid q2
                have A1 := Lib.hid a1
                clear p0 p1 p2 q0 q1 q2
                go_wp2_with fail
                have r0 := cell_regrown G0.out
                have r1 := cell_regrown G1.out
                have r2 := cell_regrown G2.out
                have s0 := cell_regrown K0.out
                have s1 := cell_regrown K1.out
                have s2 := cell_regrown K2.out
                have t1 := cell_regrown A1.out
                clear a1
                rcases hxy with ⟨hxy, l1, l2⟩ | ⟨hxy, hlt⟩
                · subst hxy
                  rw [l1] at HLA HLB
                  clear l1 l2
                  as_aux_lemma =>
                    refine wp_region_quiet_below (by kernel_rfl) (by kernel_rfl) ?_
                    repeat (first | go_big_quiet_step (first | exact Calls.regrown_of (HLA.out _) | exact Calls.regrown_of (HLB.out _)) | quiet_step (first | exact Calls.regrown_of (HLA.out _) | exact Calls.regrown_of (HLB.out _)))
                    refine wpQuiet_nil ?_
                    intro _ hw'
                    obtain ⟨⟨dq, osq⟩, hw''⟩ := hw'
                    subst hw''
                    have hbv := hbel.trans ((below_regrown _ dq osq).mono hbel.size)
                    have r0 := cell_regrown (r0 dq osq)
                    have r1 := cell_regrown (r1 dq osq)
                    have r2 := cell_regrown (r2 dq osq)
                    have s0 := cell_regrown (s0 dq osq)
                    have s1 := cell_regrown (s1 dq osq)
                    have s2 := cell_regrown (s2 dq osq)
                    have t1 := cell_regrown (t1 dq osq)
                    generalize Sort.grow (redrawn _ dq) osq = wv at *
                    go_wp2_with fail
                    refine wp_region_quiet_below (by kernel_rfl) (by kernel_rfl) ?_
                    repeat (first | go_big_quiet_step (fail) | quiet_step (fail))
                    refine wpQuiet_nil ?_
                    intro _ hw'
                    obtain ⟨⟨dq2, osq2⟩, hw''⟩ := hw'
                    subst hw''
                    have hbu := hbv.trans ((below_regrown _ dq2 osq2).mono hbv.size)
                    clear r0 r1 r2 s0 s1 s2 t1 hbv
                    generalize Sort.grow (redrawn _ dq2) osq2 = wu at *
                    go_wp2_with fail
                    go_roundw
                    case rel => exact ⟨k2 + 1, by omega, by go_num, hbu⟩
                    case measure => simp [RowKit.intOf]; omega
                · rcases hlt with ⟨l1, l2⟩ | ⟨l1, l2⟩
                  all_goals
                    rw [l1] at HLA
                    rw [l2] at HLB
                    clear l1 l2
                    as_aux_lemma =>
                      refine wp_region_quiet_below (by kernel_rfl) (by kernel_rfl) ?_
                      repeat (first | go_big_quiet_step (first | exact Calls.regrown_of (HLA.out _) | exact Calls.regrown_of (HLB.out _)) | quiet_step (first | exact Calls.regrown_of (HLA.out _) | exact Calls.regrown_of (HLB.out _)))
                      refine wpQuiet_nil ?_
                      intro _ hw'
                      obtain ⟨⟨dq, osq⟩, hw''⟩ := hw'
                      subst hw''
                      have hbv := hbel.trans ((below_regrown _ dq osq).mono hbel.size)
                      have r0 := cell_regrown (r0 dq osq)
                      have r1 := cell_regrown (r1 dq osq)
                      have r2 := cell_regrown (r2 dq osq)
                      have s0 := cell_regrown (s0 dq osq)
                      have s1 := cell_regrown (s1 dq osq)
                      have s2 := cell_regrown (s2 dq osq)
                      have t1 := cell_regrown (t1 dq osq)
                      generalize Sort.grow (redrawn _ dq) osq = wv at *
                      go_wp2_with fail
                      rcases el_ne hxy with z0 | ⟨z0, z1⟩ | ⟨z0, z1, z2⟩
                      all_goals
                        clear HLA HLB HA G0 G1 G2 K0 K1 K2 A1
                        obtain ⟨xs, xq, xi⟩ := x
                        obtain ⟨ys, yq, yi⟩ := y
                        simp only at r0 r1 r2 s0 s1 s2 z0
                        try simp only at z1
                        try simp only at z2
                        try subst z0
                        try subst z1
                        refine wp_region_quiet_below (by kernel_rfl) (by kernel_rfl) ?_
                        repeat (first | go_big_quiet_step (fail) | quiet_step (fail))
                        refine wpQuiet_nil ?_
                        intro _ hw'
                        obtain ⟨⟨dq2, osq2⟩, hw''⟩ := hw'
                        subst hw''
                        have hbu := hbv.trans ((below_regrown _ dq2 osq2).mono hbv.size)
                        clear r0 r1 r2 s0 s1 s2 t1 hbv
                        generalize Sort.grow (redrawn _ dq2) osq2 = wu at *
                        go_wp2_with fail
                        go_roundw
                        case rel => exact ⟨k2 + 1, by omega, by go_num, hbu⟩
                        case measure => simp [RowKit.intOf]; omega
              · as_aux_lemma =>
                  go_wp2_with fail
                  go_roundw
                  case rel => exact ⟨k1 + 1, by omega, by go_num, hbel⟩
                  case measure => simp [RowKit.intOf]; omega
              · as_aux_lemma =>
                  go_wp2_with fail
                  go_roundw
                  case rel => exact ⟨k1 + 1, by omega, by go_num, hbel⟩
                  case measure => simp [RowKit.intOf]; omega
          · have HBF := Lib.hid (HB.out.trans (hbel.mono HB.out.size))
            clear hbel
            as_aux_lemma =>
              go_wp2_with fail
              refine (wakes_any _).mono ?_
              rintro x w9 ⟨rfl, hb9⟩
              go_wp2
              go_ret
              exact ⟨rfl, HBF.out.trans (hb9.mono HBF.out.size)⟩
          · have HBF := Lib.hid (HB.out.trans (hbel.mono HB.out.size))
            clear hbel
            as_aux_lemma =>
              go_wp2_with fail
              refine (wakes_any _).mono ?_
              rintro x w9 ⟨rfl, hb9⟩
              go_wp2
              go_ret
              exact ⟨rfl, HBF.out.trans (hb9.mono HBF.out.size)⟩
      · go_wp2_with fail
        clear a0
        go_loopw [13] (fun i wx => ∃ k : Nat, k ≤ le.length ∧ i = .int .i64 k ∧ Below W0.heap.size W0 wx) (fun i _ => le.length - (RowKit.intOf i).toNat)
        case atStart => exact ⟨0, by omega, rfl, hbel⟩
        case round =>
          clear hbel
          obtain ⟨k1, hk1, rfl, hbel⟩ := hrel
          have a1 := (HX.out.step hbel).c1
          simp only at a1
          have hor1 : (k1 < le.length ∧ (k1 : Int) < 10) ∨ (decide (k1 < le.length) = false) ∨ (k1 < le.length ∧ decide ((k1 : Int) < 10) = false) := by
            by_cases h1 : k1 < le.length
            · by_cases h2 : (k1 : Int) < 10
              · exact .inl ⟨h1, h2⟩
              · right; right; exact ⟨h1, by simp; omega⟩
            · right; left; simp; omega
          rcases hor1 with ⟨i1, i2⟩ | hex1 | ⟨i1, hex1⟩
          · go_wp2_with fail
            clear a1
            go_loopw [14] (fun i wx => ∃ k : Nat, k ≤ le.length ∧ i = .int .i64 k ∧ Below W0.heap.size W0 wx) (fun i _ => le.length - (RowKit.intOf i).toNat)
            case atStart => exact ⟨0, by omega, rfl, hbel⟩
            case round =>
              clear hbel
              obtain ⟨k2, hk2, rfl, hbel⟩ := hrel
              have a1 := (HX.out.step hbel).c1
              simp only at a1
              have hor2 : (k2 < le.length ∧ (k2 : Int) < 10) ∨ (decide (k2 < le.length) = false) ∨ (k2 < le.length ∧ decide ((k2 : Int) < 10) = false) := by
                by_cases h1 : k2 < le.length
                · by_cases h2 : (k2 : Int) < 10
                  · exact .inl ⟨h1, h2⟩
                  · right; right; exact ⟨h1, by simp; omega⟩
                · right; left; simp; omega
              rcases hor2 with ⟨j1, j2⟩ | hex2 | ⟨j1, hex2⟩
              · obtain ⟨b1, o1, hae, hb1, x0, x1, x2⟩ := HA.out.e.cell k1 i1
                obtain ⟨b2, o2, hae2, hb2, y0, y1, y2⟩ := HA.out.e.cell k2 j1
                simp only at hae hae2 x0 x1 x2 y0 y1 y2
                rw [hae] at hae2
                simp only [Option.some.injEq, Addr.mk.injEq] at hae2
                obtain ⟨rfl, rfl, _⟩ := hae2
                subst hae
                have p0 := (hbel.cell (p := ⟨b1, o1 + k1 * 3, none⟩) hb1).trans x0
                have p1 := (hbel.cell (p := ⟨b1, o1 + k1 * 3 + 1, none⟩) hb1).trans x1
                have p2 := (hbel.cell (p := ⟨b1, o1 + k1 * 3 + 2, none⟩) hb1).trans x2
                have q0 := (hbel.cell (p := ⟨b1, o1 + k2 * 3, none⟩) hb1).trans y0
                have q1 := (hbel.cell (p := ⟨b1, o1 + k2 * 3 + 1, none⟩) hb1).trans y1
                have q2 := (hbel.cell (p := ⟨b1, o1 + k2 * 3 + 2, none⟩) hb1).trans y2
                clear x0 x1 x2 y0 y1 y2
                generalize le[k1] = x at *
                generalize le[k2] = y at *
                have hxy : (x = y ∧ x.lt y = false ∧ y.lt x = false) ∨ (¬ x = y ∧ ((x.lt y = true ∧ y.lt x = false) ∨ (x.lt y = false ∧ y.lt x = true))) := by
                  by_cases e : x = y
                  · subst e; exact .inl ⟨rfl, lt_irrefl x, lt_irrefl x⟩
                  · right
                    refine ⟨e, ?_⟩
                    cases hl : x.lt y
                    · right
                      refine ⟨rfl, ?_⟩
                      cases hl2 : y.lt x
                      · exact absurd (lt_total x y (by rw [ltOf_cmpE]; exact hl) (by rw [ltOf_cmpE]; exact hl2)) e
                      · rfl
                    · exact .inl ⟨rfl, lt_asym hl⟩
                have HLA := Lib.hid (fun w => xLess_any x y w)
                have HLB := Lib.hid (fun w => xLess_any y x w)
                have G0 := Lib.hid p0
                have G1 := Lib.hid p1
                have G2 := Lib.hid p2
                have K0 := Lib.hid q0
                have K1 := Lib.hid q1
                have K2 := Lib.hid q2
                have A1 := Lib.hid a1
                clear p0 p1 p2 q0 q1 q2
                go_wp2_with fail
                have r0 := cell_regrown G0.out
                have r1 := cell_regrown G1.out
                have r2 := cell_regrown G2.out
                have s0 := cell_regrown K0.out
                have s1 := cell_regrown K1.out
                have s2 := cell_regrown K2.out
                have t1 := cell_regrown A1.out
                clear a1
                rcases hxy with ⟨hxy, l1, l2⟩ | ⟨hxy, hlt⟩
                · subst hxy
                  rw [l1] at HLA HLB
                  clear l1 l2
                  as_aux_lemma =>
                    refine wp_region_quiet_below (by kernel_rfl) (by kernel_rfl) ?_
                    repeat (first | go_big_quiet_step (first | exact Calls.regrown_of (HLA.out _) | exact Calls.regrown_of (HLB.out _)) | quiet_step (first | exact Calls.regrown_of (HLA.out _) | exact Calls.regrown_of (HLB.out _)))
                    refine wpQuiet_nil ?_
                    intro _ hw'
                    obtain ⟨⟨dq, osq⟩, hw''⟩ := hw'
                    subst hw''
                    have hbv := hbel.trans ((below_regrown _ dq osq).mono hbel.size)
                    have r0 := cell_regrown (r0 dq osq)
                    have r1 := cell_regrown (r1 dq osq)
                    have r2 := cell_regrown (r2 dq osq)
                    have s0 := cell_regrown (s0 dq osq)
                    have s1 := cell_regrown (s1 dq osq)
                    have s2 := cell_regrown (s2 dq osq)
                    have t1 := cell_regrown (t1 dq osq)
                    generalize Sort.grow (redrawn _ dq) osq = wv at *
                    go_wp2_with fail
                    refine wp_region_quiet_below (by kernel_rfl) (by kernel_rfl) ?_
                    repeat (first | go_big_quiet_step (fail) | quiet_step (fail))
                    refine wpQuiet_nil ?_
                    intro _ hw'
                    obtain ⟨⟨dq2, osq2⟩, hw''⟩ := hw'
                    subst hw''
                    have hbu := hbv.trans ((below_regrown _ dq2 osq2).mono hbv.size)
                    clear r0 r1 r2 s0 s1 s2 t1 hbv
                    generalize Sort.grow (redrawn _ dq2) osq2 = wu at *
                    go_wp2_with fail
                    go_roundw
                    case rel => exact ⟨k2 + 1, by omega, by go_num, hbu⟩
                    case measure => simp [RowKit.intOf]; omega
                · rcases hlt with ⟨l1, l2⟩ | ⟨l1, l2⟩
                  all_goals
                    rw [l1] at HLA
                    rw [l2] at HLB
                    clear l1 l2
                    as_aux_lemma =>
                      refine wp_region_quiet_below (by kernel_rfl) (by kernel_rfl) ?_
                      repeat (first | go_big_quiet_step (first | exact Calls.regrown_of (HLA.out _) | exact Calls.regrown_of (HLB.out _)) | quiet_step (first | exact Calls.regrown_of (HLA.out _) | exact Calls.regrown_of (HLB.out _)))
                      refine wpQuiet_nil ?_
                      intro _ hw'
                      obtain ⟨⟨dq, osq⟩, hw''⟩ := hw'
                      subst hw''
                      have hbv := hbel.trans ((below_regrown _ dq osq).mono hbel.size)
                      have r0 := cell_regrown (r0 dq osq)
                      have r1 := cell_regrown (r1 dq osq)
                      have r2 := cell_regrown (r2 dq osq)
                      have s0 := cell_regrown (s0 dq osq)
                      have s1 := cell_regrown (s1 dq osq)
                      have s2 := cell_regrown (s2 dq osq)
                      have t1 := cell_regrown (t1 dq osq)
                      generalize Sort.grow (redrawn _ dq) osq = wv at *
                      go_wp2_with fail
                      rcases el_ne hxy with z0 | ⟨z0, z1⟩ | ⟨z0, z1, z2⟩
                      all_goals
                        clear HLA HLB HA G0 G1 G2 K0 K1 K2 A1
                        obtain ⟨xs, xq, xi⟩ := x
                        obtain ⟨ys, yq, yi⟩ := y
                        simp only at r0 r1 r2 s0 s1 s2 z0
                        try simp only at z1
                        try simp only at z2
                        try subst z0
                        try subst z1
                        refine wp_region_quiet_below (by kernel_rfl) (by kernel_rfl) ?_
                        repeat (first | go_big_quiet_step (fail) | quiet_step (fail))
                        refine wpQuiet_nil ?_
                        intro _ hw'
                        obtain ⟨⟨dq2, osq2⟩, hw''⟩ := hw'
                        subst hw''
                        have hbu := hbv.trans ((below_regrown _ dq2 osq2).mono hbv.size)
                        clear r0 r1 r2 s0 s1 s2 t1 hbv
                        generalize Sort.grow (redrawn _ dq2) osq2 = wu at *
                        go_wp2_with fail
                        go_roundw
                        case rel => exact ⟨k2 + 1, by omega, by go_num, hbu⟩
                        case measure => simp [RowKit.intOf]; omega
              · as_aux_lemma =>
                  go_wp2_with fail
                  go_roundw
                  case rel => exact ⟨k1 + 1, by omega, by go_num, hbel⟩
                  case measure => simp [RowKit.intOf]; omega
              · as_aux_lemma =>
                  go_wp2_with fail
                  go_roundw
                  case rel => exact ⟨k1 + 1, by omega, by go_num, hbel⟩
                  case measure => simp [RowKit.intOf]; omega
          · have HBF := Lib.hid (HB.out.trans (hbel.mono HB.out.size))
            clear hbel
            as_aux_lemma =>
              go_wp2_with fail
              refine (wakes_any _).mono ?_
              rintro x w9 ⟨rfl, hb9⟩
              go_wp2
              go_ret
              exact ⟨rfl, HBF.out.trans (hb9.mono HBF.out.size)⟩
          · have HBF := Lib.hid (HB.out.trans (hbel.mono HB.out.size))
            clear hbel
            as_aux_lemma =>
              go_wp2_with fail
              refine (wakes_any _).mono ?_
              rintro x w9 ⟨rfl, hb9⟩
              go_wp2
              go_ret
              exact ⟨rfl, HBF.out.trans (hb9.mono HBF.out.size)⟩
end Go.Proofs.Ytlgnpkigodohnaa
