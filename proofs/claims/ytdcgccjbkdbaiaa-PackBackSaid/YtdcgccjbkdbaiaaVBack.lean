/- the law PackBack -/
import Derived.Test.YtdcgccjbkdbaiaaKLaw
namespace Go.Proofs.Ytdcgccjbkdbaiaa
open Go.RowKit Go.Lib Go.Shelf Go.Sort

theorem rune97 (w : World) : Calls Try.prog 12 #[.int .i32 97] w fun e w' => e = .returned (.bool true) ∧ w = w' := by
  go_enter Try.func12, Try.ntmps12
  go_wp2
  go_ret
  exact ⟨rfl, rfl⟩
theorem msB_len {m : MsD} (h : okMs m = true) : (msB m).length ≤ 20000 := by
  have h1 := encL_len _ (fun n hn => (Nb.okB_of (okMs_head h n hn)).2)
  have h2 : m.head.length = 7 := rfl
  have h3 := opsB_len m.ops (okMs_ops h).2
  have h4 := (okMs_ops h).1
  unfold msB
  rw [List.length_append]; omega
def behindL : List UInt8 := [98, 101, 104, 105, 110, 100]
set_option maxRecDepth 100000 in
set_option maxHeartbeats 16000000 in
theorem packBack_walk (p : PAsk) (w : World) (h : PAskAt w p) : Calls Try.prog 3 #[p.v] w (BoB true w) := by
  have HHV := Lib.hid (fun (wx : World) (hx : Below w.heap.size w wx) => Heavy12_any p wx (h.below hx))
  have HB := Lib.hid (below_al w (.cells p.A 30))
  have HX := Lib.hid (Hp.new w p.A 30)
  have HO := Lib.hid h.o.o
  have HM := Lib.hid h.m
  have hol := h.o.o.len
  have hml := h.m.len
  have hbi := big_is
  clear h
  obtain ⟨⟨lo, le, ln, ao, ae, an, co, ce, cn⟩, ms, am, cm, ss, as_, cs_⟩ := p
  unfold PAsk.v PAsk.A at *
  simp only at HHV HB HX HO HM hol hml ⊢
  obtain ⟨n0, hn0⟩ : ∃ n, lo.length = n := ⟨_, rfl⟩
  obtain ⟨n4, hn4⟩ : ∃ n, ms.length = n := ⟨_, rfl⟩
  have HN0 := Lib.hid hn0
  have HN4 := Lib.hid hn4
  rw [hn0, hn4] at HHV HB HX ⊢
  rw [hn0] at hol
  rw [hn4] at hml
  clear hn0 hn4
  have HNU := Lib.hid (fun n wx => num12_below n wx)
  unfold BoolB at HHV
  go_enter Try.func3, Try.ntmps3
  go_upto_region 1 with fail
  generalize w.alloc (.cells #[.slice ao n0 co, .slice ae le.length ce, .slice an ln.length cn, .slice am n4 cm, .slice as_ ss.length cs_] 30) = W0 at *
  obtain ⟨bx, hbx⟩ : ∃ b, w.heap.size = b := ⟨_, rfl⟩
  rw [hbx] at HX ⊢
  clear hbx
  have q0 : W0.cell? ⟨bx, 0, none⟩ = some (.slice ao n0 co) := HX.out.cell 0 rfl
  have q1 : W0.cell? ⟨bx, 1, none⟩ = some (.slice ae le.length ce) := HX.out.cell 1 rfl
  have q2 : W0.cell? ⟨bx, 2, none⟩ = some (.slice an ln.length cn) := HX.out.cell 2 rfl
  have q3 : W0.cell? ⟨bx, 3, none⟩ = some (.slice am n4 cm) := HX.out.cell 3 rfl
  have q4 : W0.cell? ⟨bx, 4, none⟩ = some (.slice as_ ss.length cs_) := HX.out.cell 4 rfl
  go_wp2_with fail
  refine (HHV.out _ HB.out).mono ?_
  rintro e w1 ⟨bv, rfl, hb1⟩
  have HX1 := Lib.hid (HX.out.step hb1)
  have HB1 := Lib.hid (HB.out.trans (hb1.mono HB.out.size))
  have HO1 := Lib.hid ((HO.out.below HB.out).below hb1)
  have HM1 := Lib.hid ((HM.out.below HB.out).below hb1)
  clear hb1 q0 q1 q2 q3 q4 HX HB HO HM HHV
  cases bv
  case true =>
    go_wp2
    go_ret
    exact ⟨rfl, HB1.out⟩
  go_wp2_with fail
  go_loopw [3] (fun i wr => ∃ k : Nat, k ≤ n0 ∧ i = .int .i64 k ∧ Below w1.heap.size w1 wr) (fun i _ => n0 - (RowKit.intOf i).toNat)
  case atStart => exact ⟨0, Nat.zero_le _, rfl, Below.refl _ _⟩
  case round =>
    obtain ⟨k, hk, rfl, hbel⟩ := hrel
    have HBR := Lib.hid hbel
    have HXR := Lib.hid (HX1.out.step hbel)
    have q0 : wr.cell? ⟨bx, 0, none⟩ = some (.slice ao n0 co) := HXR.out.cell 0 rfl
    clear hbel
    by_cases hlt : k < n0 ∧ (k : Int) < 8
    · obtain ⟨h1, h8⟩ := hlt
      have hkl : k < lo.length := by rw [HN0.out]; exact h1
      have HOR := Lib.hid (HO1.out.below HBR.out)
      have HCE := Lib.hid (fun (wx : World) (hx : Below wr.heap.size wr wx) => (HOR.out.below hx).cells k hkl)
      have HOA := Lib.hid (HOR.out.op k hkl)
      obtain ⟨b, off, ha, hb, c0, c1, c2, c3, c4, c5, c6, c7, c8, c9, ca⟩ := HCE.out wr (Below.refl _ _)
      generalize lo[k] = r at *
      obtain ⟨⟨os, oq, ok, ⟨es, eq, ei⟩, text, gone, of, num, gen⟩, ra, rc⟩ := r
      obtain ⟨gn, hgn⟩ : ∃ n, gone.length = n := ⟨_, rfl⟩
      have HGN := Lib.hid hgn
      simp only [hgn] at HCE c0 c1 c2 c3 c4 c5 c6 c7 c8 c9 ca
      simp only at HOA
      have HPO := Lib.hid (fun (wx : World) (hx : Below wr.heap.size wr wx) => pkOp_any ⟨os, oq, ok, ⟨es, eq, ei⟩, text, gone, of, num, gen⟩ ra rc wx (show OpIn wx _ ra from ⟨(HOA.out.below hx).gone, HOA.out.len, HOA.out.size⟩))
      have HEQ := Lib.hid (fun (hl : gone.length ≤ 1000000) (a2 : Option Addr) (c2 : Nat) (wx wy : World) (hE : ElemsAt wx a2 gone) (hx : Below wr.heap.size wr wx) (hy : Below wx.heap.size wx wy) => EqOp_yes ⟨os, oq, ok, ⟨es, eq, ei⟩, text, gone, of, num, gen⟩ a2 ra c2 rc wy (hE.below hy) ((HOA.out.gone.below hx).below hy) hl)
      have HTK := Lib.hid (fun (hok : okOp ⟨os, oq, ok, ⟨es, eq, ei⟩, text, gone, of, num, gen⟩ = true) (wx : World) => TakeOp_yes (opB ⟨os, oq, ok, ⟨es, eq, ei⟩, text, gone, of, num, gen⟩ ++ behindL) ⟨os, oq, ok, ⟨es, eq, ei⟩, text, gone, of, num, gen⟩ behindL wx (by rw [List.length_append]; have h2 : behindL.length = 6 := rfl; have := opB_len hok; unfold TOP; omega) (tkOp_enc hok behindL))
      have HGL := Lib.hid (fun (hok : okOp ⟨os, oq, ok, ⟨es, eq, ei⟩, text, gone, of, num, gen⟩ = true) => (okOp_nums hok).len)
      have HLB := Lib.hid (fun (hok : okOp ⟨os, oq, ok, ⟨es, eq, ei⟩, text, gone, of, num, gen⟩ = true) => opB_len hok)
      have HSA := Lib.hid (S_app (opB ⟨os, oq, ok, ⟨es, eq, ei⟩, text, gone, of, num, gen⟩) behindL)
      unfold pkV PkPost at HPO
      unfold OpD.v at HPO HEQ HTK
      simp only [hgn] at HPO HEQ HTK HGL
      clear hgn
      generalize opB ⟨os, oq, ok, ⟨es, eq, ei⟩, text, gone, of, num, gen⟩ = OB at *
      cases hok : okOp ⟨os, oq, ok, ⟨es, eq, ei⟩, text, gone, of, num, gen⟩
      · simp only [hok] at HPO
        clear HTK HGL HLB HEQ
        subst ha
        go_wp2_with (first
          | (go_at_call 5; refine (HPO.out _ (Below.refl _ _)).mono ?_; rintro e w2 ⟨rfl, hb2⟩; have HB2 := Lib.hid (HBR.out.trans (hb2.mono HBR.out.size)); clear hb2 c0 c1 c2 c3 c4 c5 c6 c7 c8 c9 ca)
          | (go_at_call 6; refine (num12_any _ _).mono ?_; rintro e w3 ⟨rfl, hw3⟩; first | (subst hw3) | skip)
          | fail)
        go_roundw
        case rel => exact ⟨k + 1, by omega, by go_num, HB2.out⟩
        case measure => simp [RowKit.intOf]; omega
      · simp only [hok] at HPO
        have HTK2 := Lib.hid (HTK.out hok)
        have hlb := HLB.out hok
        have hgl := HGL.out hok
        have HEQ2 := Lib.hid (HEQ.out (by omega))
        clear HTK HGL HLB HEQ hok
        subst ha
        obtain ⟨SB, hSB⟩ : ∃ S : ByteArray, (⟨OB.toArray⟩ : ByteArray) = S := ⟨_, rfl⟩
        have hz : SB.size ≤ 3100 := hSB ▸ hlb
        have HS0 := Lib.hid (show Nb.S OB = .string SB from by rw [← hSB])
        have HS1 := Lib.hid (show Nb.S (OB ++ behindL) = .string (SB ++ ⟨#[98, 101, 104, 105, 110, 100]⟩) from by rw [← HSA.out, hSB]; rfl)
        have HS2 := Lib.hid (show Nb.S behindL = .string ⟨#[98, 101, 104, 105, 110, 100]⟩ from rfl)
        rw [HS0.out] at HPO
        simp only [HS1.out, HS2.out] at HTK2
        have hz6 : (⟨#[98, 101, 104, 105, 110, 100]⟩ : ByteArray).size = 6 := rfl
        clear hSB HS0 HS1 HS2 HSA hlb
        go_wp2_with (first
          | (go_at_call 5; refine (HPO.out _ (Below.refl _ _)).mono ?_; rintro e w2 ⟨rfl, hb2⟩; have HB2 := Lib.hid hb2; clear hb2 c0 c1 c2 c3 c4 c5 c6 c7 c8 c9 ca)
          | (go_at_call 7; refine (HTK2.out _).mono ?_; rintro e w3 ⟨a3, cp3, rfl, hE3, hb3⟩; have HE3 := Lib.hid hE3; have HB3 := Lib.hid (HB2.out.trans (hb3.mono HB2.out.size)); clear hE3 hb3)
          | (go_at_call 6; refine (num12_any _ _).mono ?_; rintro e w9 ⟨rfl, hw9⟩; first | (subst hw9) | skip)
          | fail)
        have HB9 := Lib.hid (below_alx HB3.out (.cells (opA ⟨os, oq, ok, ⟨es, eq, ei⟩, text, gone, of, num, gen⟩ a3 gn cp3) 38))
        have HE9 := Lib.hid (HE3.out.below (below_al w3 (.cells (opA ⟨os, oq, ok, ⟨es, eq, ei⟩, text, gone, of, num, gen⟩ a3 gn cp3) 38)))
        have HX9 := Lib.hid (HXR.out.step HB9.out)
        have HP9 := Lib.hid (Hp.new w3 (opA ⟨os, oq, ok, ⟨es, eq, ei⟩, text, gone, of, num, gen⟩ a3 gn cp3) 38)
        obtain ⟨b2, off2, ha2, hbb2, c0, c1, c2, c3, c4, c5, c6, c7, c8, c9, ca⟩ := HCE.out _ HB9.out
        simp only [Option.some.injEq, Addr.mk.injEq] at ha2
        obtain ⟨rfl, rfl, _⟩ := ha2
        unfold opA at HB9 HE9 HX9 HP9 c0 c1 c2 c3 c4 c5 c6 c7 c8 c9 ca hbb2
        simp only at HB9 HE9 HX9 HP9 c0 c1 c2 c3 c4 c5 c6 c7 c8 c9 ca hbb2
        generalize w3.alloc (.cells #[.int .i64 os, .int .i64 oq, .int .i64 ok, .int .i64 es, .int .i64 eq, .int .i64 ei, .string text, .slice a3 gn cp3, .int .i64 of, .int .i64 num, .int .i64 gen] 38) = W9 at *
        obtain ⟨b9, hb9⟩ : ∃ b, w3.heap.size = b := ⟨_, rfl⟩
        rw [hb9] at HP9 ⊢
        clear hb9
        have hk0 : (0 : Int) ≤ (k : Int) := by omega
        have hk1 : (k : Int) < (n0 : Int) := by omega
        have g0 := cell_regrown c0
        have g1 := cell_regrown c1
        have g2 := cell_regrown c2
        have g3 := cell_regrown c3
        have g4 := cell_regrown c4
        have g5 := cell_regrown c5
        have g6 := cell_regrown c6
        have g7 := cell_regrown c7
        have g8 := cell_regrown c8
        have g9 := cell_regrown c9
        have ga := cell_regrown ca
        have gx := cell_regrown (show W9.cell? ⟨bx, 0, none⟩ = some (.slice (some ⟨b, off, none⟩) n0 co) from HX9.out.cell 0 rfl)
        have y0 := cell_regrown (show W9.cell? ⟨b9, 0, none⟩ = some (.int .i64 os) from HP9.out.cell 0 rfl)
        have y1 := cell_regrown (show W9.cell? ⟨b9, 1, none⟩ = some (.int .i64 oq) from HP9.out.cell 1 rfl)
        have y2 := cell_regrown (show W9.cell? ⟨b9, 2, none⟩ = some (.int .i64 ok) from HP9.out.cell 2 rfl)
        have y3 := cell_regrown (show W9.cell? ⟨b9, 3, none⟩ = some (.int .i64 es) from HP9.out.cell 3 rfl)
        have y4 := cell_regrown (show W9.cell? ⟨b9, 4, none⟩ = some (.int .i64 eq) from HP9.out.cell 4 rfl)
        have y5 := cell_regrown (show W9.cell? ⟨b9, 5, none⟩ = some (.int .i64 ei) from HP9.out.cell 5 rfl)
        have y6 := cell_regrown (show W9.cell? ⟨b9, 6, none⟩ = some (.string text) from HP9.out.cell 6 rfl)
        have y7 := cell_regrown (show W9.cell? ⟨b9, 7, none⟩ = some (.slice a3 gn cp3) from HP9.out.cell 7 rfl)
        have y8 := cell_regrown (show W9.cell? ⟨b9, 8, none⟩ = some (.int .i64 of) from HP9.out.cell 8 rfl)
        have y9 := cell_regrown (show W9.cell? ⟨b9, 9, none⟩ = some (.int .i64 num) from HP9.out.cell 9 rfl)
        have ya := cell_regrown (show W9.cell? ⟨b9, 10, none⟩ = some (.int .i64 gen) from HP9.out.cell 10 rfl)
        clear c0 c1 c2 c3 c4 c5 c6 c7 c8 c9 ca q0
        have HEQ3 := Lib.hid (fun d os => Calls.regrown_of (HEQ2.out a3 cp3 W9 (Sort.grow (redrawn W9 d) os) HE9.out HB9.out (below_regrown W9 d os)))
        have HNU3 := Lib.hid (fun n d os => Calls.regrown_of (HNU.out n (Sort.grow (redrawn W9 d) os)))
        refine wp_region_quiet_below (by kernel_rfl) (by kernel_rfl) ?_
        repeat (first | go_big_quiet_step (first | with_reducible exact HNU3.out _ _ _ | with_reducible exact HEQ3.out _ _) | quiet_step (first | with_reducible exact HNU3.out _ _ _ | with_reducible exact HEQ3.out _ _))
        refine wpQuiet_nil ?_
        intro _ hw'
        obtain ⟨⟨dq, osq⟩, hw''⟩ := hw'
        subst hw''
        have HBV := Lib.hid ((HBR.out.trans (HB9.out.mono HBR.out.size)).trans ((below_regrown W9 dq osq).mono (Nat.le_trans HBR.out.size HB9.out.size)))
        clear g0 g1 g2 g3 g4 g5 g6 g7 g8 g9 ga gx y0 y1 y2 y3 y4 y5 y6 y7 y8 y9 ya HEQ3 HNU3
        generalize Sort.grow (redrawn W9 dq) osq = wv at *
        go_wp2_with fail
        go_roundw
        case rel => exact ⟨k + 1, by omega, by go_num, HBV.out⟩
        case measure => simp [RowKit.intOf]; omega
    · have hx : (¬ k < n0 ∧ decide (k < n0) = false) ∨ ((¬ (k : Int) < 8 ∧ k < n0) ∧ decide ((k : Int) < 8) = false) := by
        by_cases h1 : k < n0
        · exact .inr ⟨⟨fun h => hlt ⟨h1, h⟩, h1⟩, decide_eq_false (fun h => hlt ⟨h1, h⟩)⟩
        · exact .inl ⟨h1, decide_eq_false h1⟩
      have HMR := Lib.hid (HM1.out.below HBR.out)
      have HBB := Lib.hid (HB1.out.trans (HBR.out.mono HB1.out.size))
      clear hlt HO1 HX1 HB1 HM1 HBR
      rcases hx with ⟨hx, hx2⟩ | ⟨⟨hx, hxk⟩, hx2⟩
      all_goals
        go_wp2_with fail
        generalize wr = w5 at *
        clear hx hx2 q0
        try clear hxk
        go_loopw [9] (fun i wr => ∃ k : Nat, k ≤ n4 ∧ i = .int .i64 k ∧ Below w5.heap.size w5 wr) (fun i _ => n4 - (RowKit.intOf i).toNat)
        case atStart => exact ⟨0, Nat.zero_le _, rfl, Below.refl _ _⟩
        case round =>
          obtain ⟨j, hj, rfl, hbel⟩ := hrel
          have HBR := Lib.hid hbel
          have HXQ := Lib.hid (HXR.out.step hbel)
          have q3 : wr.cell? ⟨bx, 3, none⟩ = some (.slice am n4 cm) := HXQ.out.cell 3 rfl
          clear hbel
          by_cases hlt : j < n4 ∧ (j : Int) < 8
          · obtain ⟨h1, h8⟩ := hlt
            have hkl : j < ms.length := by rw [HN4.out]; exact h1
            have HMQ := Lib.hid (HMR.out.below HBR.out)
            have HCE := Lib.hid (fun (wx : World) (hx : Below wr.heap.size wr wx) => (HMQ.out.below hx).cells j hkl)
            have HMI := Lib.hid (HMQ.out.msg j hkl)
            obtain ⟨b, off, ha, hb, c0, c1, c2, c3, c4, c5, c6⟩ := HCE.out wr (Below.refl _ _)
            generalize ms[j] = r at *
            obtain ⟨⟨kind, site, nonce, known, seq, err, ops⟩, ra, rc, L⟩ := r
            obtain ⟨ln4, hln4⟩ : ∃ n, L.length = n := ⟨_, rfl⟩
            have hol4 := HMI.out.len
            simp only at hol4 HMI
            simp only [hln4] at HCE c0 c1 c2 c3 c4 c5 c6 hol4
            have HPB := Lib.hid (fun (wx : World) (hx : Below wr.heap.size wr wx) => pkBytes_any ⟨kind, site, nonce, known, seq, err, ops⟩ ra rc L wx (HMI.out.below hx))
            have HEQ := Lib.hid (fun (hok : okMs ⟨kind, site, nonce, known, seq, err, ops⟩ = true) (a2 : Option Addr) (cp2 : Nat) (L2 : List OpR) (wx wy : World) (hE : MsIn wx ⟨kind, site, nonce, known, seq, err, ops⟩ a2 L2) (hx : Below wr.heap.size wr wx) (hy : Below wx.heap.size wx wy) => EqMsg_yes ⟨kind, site, nonce, known, seq, err, ops⟩ a2 ra cp2 rc L2 L wy (hE.below hy) ((HMI.out.below hx).below hy) (fun r hr => by
              have h5 := (okMs_ops hok).2
              rw [List.all_eq_true] at h5
              have h6 := (okOp_nums (h5 r.o (by rw [← hE.os]; exact List.mem_map.2 ⟨r, hr, rfl⟩))).len
              omega) (by rw [← hE.len]; have := (okMs_ops hok).1; omega))
            have HTY := Lib.hid (fun (hok : okMs ⟨kind, site, nonce, known, seq, err, ops⟩ = true) (wx : World) => Take_yes (msB ⟨kind, site, nonce, known, seq, err, ops⟩) ⟨kind, site, nonce, known, seq, err, ops⟩ wx (by have := msB_len hok; unfold TOP; omega) (tkMs_enc (okMs_head hok) hok) (by have := (okMs_ops hok).1; unfold BIG; omega))
            have HTN := Lib.hid (fun (hok : okMs ⟨kind, site, nonce, known, seq, err, ops⟩ = true) (wx : World) => Take_not (msB ⟨kind, site, nonce, known, seq, err, ops⟩ ++ [1]) wx (by rw [List.length_append]; have := msB_len hok; unfold TOP; simp; omega) (tkMs_more (okMs_head hok) hok 1 []))
            have HLB := Lib.hid (fun (hok : okMs ⟨kind, site, nonce, known, seq, err, ops⟩ = true) => msB_len hok)
            have HSA := Lib.hid (S_app (msB ⟨kind, site, nonce, known, seq, err, ops⟩) [1])
            unfold msV PkPost at HPB
            unfold MsD.v at HPB HEQ HTY
            simp only [hol4] at HPB HEQ HTY
            clear hol4 hln4
            generalize msB ⟨kind, site, nonce, known, seq, err, ops⟩ = OB at *
            cases hok : okMs ⟨kind, site, nonce, known, seq, err, ops⟩
            · simp only [hok] at HPB
              clear HTY HTN HLB HEQ
              subst ha
              go_wp2_with (first
                | (go_at_call 9; refine (HPB.out _ (Below.refl _ _)).mono ?_; rintro e w2 ⟨rfl, hb2⟩; have HB2 := Lib.hid (HBR.out.trans (hb2.mono HBR.out.size)); clear hb2 c0 c1 c2 c3 c4 c5 c6)
                | (go_at_call 6; refine (num12_any _ _).mono ?_; rintro e w3 ⟨rfl, hw3⟩; first | (subst hw3) | skip)
                | fail)
              go_roundw
              case rel => exact ⟨j + 1, by omega, by go_num, HB2.out⟩
              case measure => simp [RowKit.intOf]; omega
            · simp only [hok] at HPB
              have HTY2 := Lib.hid (HTY.out hok)
              have HTN2 := Lib.hid (HTN.out hok)
              have hlb := HLB.out hok
              have HEQ2 := Lib.hid (HEQ.out hok)
              clear HTY HTN HLB HEQ hok
              subst ha
              obtain ⟨SB, hSB⟩ : ∃ S : ByteArray, (⟨OB.toArray⟩ : ByteArray) = S := ⟨_, rfl⟩
              have hz : SB.size ≤ 20000 := hSB ▸ hlb
              have HS0 := Lib.hid (show Nb.S OB = .string SB from by rw [← hSB])
              have HS1 := Lib.hid (show Nb.S (OB ++ [1]) = .string (SB ++ ⟨#[1]⟩) from by rw [← HSA.out, hSB])
              rw [HS0.out] at HPB
              simp only [HS0.out] at HTY2
              simp only [HS1.out] at HTN2
              have hz6 : (⟨#[1]⟩ : ByteArray).size = 1 := rfl
              clear hSB HS0 HS1 HSA hlb
              unfold zMsV at HTN2
              go_wp2_with (first
                | (go_at_call 9; refine (HPB.out _ (Below.refl _ _)).mono ?_; rintro e w2 ⟨rfl, hb2⟩; have HB2 := Lib.hid hb2; clear hb2 c0 c1 c2 c3 c4 c5 c6)
                | (go_at_call 10; with_reducible refine (HTN2.out _).mono ?_; rintro e w4 ⟨rfl, hb4⟩; have HS4 := Lib.hid hb4; have HB4 := Lib.hid (below_next (below_alx HB3.out _) hb4); clear hb4)
                | (go_at_call 10; with_reducible refine (HTY2.out _).mono ?_; rintro e w3 ⟨a3, cp3, L3, rfl, hE3, hb3⟩; have HE3 := Lib.hid hE3; have HB3 := Lib.hid (HB2.out.trans (hb3.mono HB2.out.size)); clear hE3 hb3)
                | (go_at_call 6; refine (num12_any _ _).mono ?_; rintro e w9 ⟨rfl, hw9⟩; first | (subst hw9) | skip)
                | fail)
              have HB8 := Lib.hid (below_alx HB4.out (.cells #[.int .i64 0, .int .i64 0, .int .i64 0, .int .i64 0, .int .i64 0, .int .i64 0, .slice none 0 0] 45))
              have HB5 := Lib.hid (below_alx HB3.out (.cells #[.int .i64 kind, .int .i64 site, .int .i64 nonce, .int .i64 known, .int .i64 seq, .int .i64 err, .slice a3 ln4 cp3] 45))
              have HP5 := Lib.hid (Hp.new w3 #[.int .i64 kind, .int .i64 site, .int .i64 nonce, .int .i64 known, .int .i64 seq, .int .i64 err, .slice a3 ln4 cp3] 45)
              have HE5 := Lib.hid (HE3.out.below (below_al w3 (.cells #[.int .i64 kind, .int .i64 site, .int .i64 nonce, .int .i64 known, .int .i64 seq, .int .i64 err, .slice a3 ln4 cp3] 45)))
              have HP9 := Lib.hid ((HP5.out.step HS4.out).step (below_al w4 (.cells #[.int .i64 0, .int .i64 0, .int .i64 0, .int .i64 0, .int .i64 0, .int .i64 0, .slice none 0 0] 45)))
              have HE9 := Lib.hid ((HE5.out.below HS4.out).below (below_al w4 (.cells #[.int .i64 0, .int .i64 0, .int .i64 0, .int .i64 0, .int .i64 0, .int .i64 0, .slice none 0 0] 45)))
              have HX9 := Lib.hid (HXQ.out.step HB8.out)
              obtain ⟨b2, off2, ha2, hbb2, c0, c1, c2, c3, c4, c5, c6⟩ := HCE.out _ HB8.out
              simp only [Option.some.injEq, Addr.mk.injEq] at ha2
              obtain ⟨rfl, rfl, _⟩ := ha2
              generalize w4.alloc (.cells #[.int .i64 0, .int .i64 0, .int .i64 0, .int .i64 0, .int .i64 0, .int .i64 0, .slice none 0 0] 45) = W9 at *
              obtain ⟨b9, hb9⟩ : ∃ b, w3.heap.size = b := ⟨_, rfl⟩
              rw [hb9] at HP9 ⊢
              clear hb9
              have hk0 : (0 : Int) ≤ (j : Int) := by omega
              have hk1 : (j : Int) < (n4 : Int) := by omega
              have g0 := cell_regrown c0
              have g1 := cell_regrown c1
              have g2 := cell_regrown c2
              have g3 := cell_regrown c3
              have g4 := cell_regrown c4
              have g5 := cell_regrown c5
              have g6 := cell_regrown c6
              have gx := cell_regrown (show W9.cell? ⟨bx, 3, none⟩ = some (.slice (some ⟨b, off, none⟩) n4 cm) from HX9.out.cell 3 rfl)
              have y0 := cell_regrown (show W9.cell? ⟨b9, 0, none⟩ = some (.int .i64 kind) from HP9.out.cell 0 rfl)
              have y1 := cell_regrown (show W9.cell? ⟨b9, 1, none⟩ = some (.int .i64 site) from HP9.out.cell 1 rfl)
              have y2 := cell_regrown (show W9.cell? ⟨b9, 2, none⟩ = some (.int .i64 nonce) from HP9.out.cell 2 rfl)
              have y3 := cell_regrown (show W9.cell? ⟨b9, 3, none⟩ = some (.int .i64 known) from HP9.out.cell 3 rfl)
              have y4 := cell_regrown (show W9.cell? ⟨b9, 4, none⟩ = some (.int .i64 seq) from HP9.out.cell 4 rfl)
              have y5 := cell_regrown (show W9.cell? ⟨b9, 5, none⟩ = some (.int .i64 err) from HP9.out.cell 5 rfl)
              have y6 := cell_regrown (show W9.cell? ⟨b9, 6, none⟩ = some (.slice a3 ln4 cp3) from HP9.out.cell 6 rfl)
              clear c0 c1 c2 c3 c4 c5 c6 q3
              have HEQ3 := Lib.hid (fun d os => Calls.regrown_of (HEQ2.out a3 cp3 L3 W9 (Sort.grow (redrawn W9 d) os) HE9.out HB8.out (below_regrown W9 d os)))
              have HNU3 := Lib.hid (fun n d os => Calls.regrown_of (HNU.out n (Sort.grow (redrawn W9 d) os)))
              refine wp_region_quiet_below (by kernel_rfl) (by kernel_rfl) ?_
              repeat (first | go_big_quiet_step (first | with_reducible exact HNU3.out _ _ _ | with_reducible exact HEQ3.out _ _) | quiet_step (first | with_reducible exact HNU3.out _ _ _ | with_reducible exact HEQ3.out _ _))
              refine wpQuiet_nil ?_
              intro _ hw'
              obtain ⟨⟨dq, osq⟩, hw''⟩ := hw'
              subst hw''
              have HBV := Lib.hid ((HBR.out.trans (HB8.out.mono HBR.out.size)).trans ((below_regrown W9 dq osq).mono (Nat.le_trans HBR.out.size HB8.out.size)))
              clear g0 g1 g2 g3 g4 g5 g6 gx y0 y1 y2 y3 y4 y5 y6 HEQ3 HNU3
              generalize Sort.grow (redrawn W9 dq) osq = wv at *
              go_wp2_with fail
              go_roundw
              case rel => exact ⟨j + 1, by omega, by go_num, HBV.out⟩
              case measure => simp [RowKit.intOf]; omega
          · have hx : (¬ j < n4 ∧ decide (j < n4) = false) ∨ ((¬ (j : Int) < 8 ∧ j < n4) ∧ decide ((j : Int) < 8) = false) := by
              by_cases h1 : j < n4
              · exact .inr ⟨⟨fun h => hlt ⟨h1, h⟩, h1⟩, decide_eq_false (fun h => hlt ⟨h1, h⟩)⟩
              · exact .inl ⟨h1, decide_eq_false h1⟩
            have HBF := Lib.hid (HBB.out.trans (HBR.out.mono HBB.out.size))
            clear hlt
            rcases hx with ⟨hx, hx2⟩ | ⟨⟨hx, hxk⟩, hx2⟩
            all_goals
              go_wp2_with (first
                | (go_at_call 12; refine (rune97 _).mono ?_; rintro e w3 ⟨rfl, hw3⟩; first | (subst hw3) | skip)
                | (go_at_call 13; refine (wakes12_any _).mono ?_; rintro e w4 ⟨rfl, hb4⟩; have HB4 := Lib.hid (HBF.out.trans (hb4.mono HBF.out.size)); clear hb4)
                | fail)
              go_ret
              exact ⟨rfl, HB4.out⟩
end Go.Proofs.Ytdcgccjbkdbaiaa
