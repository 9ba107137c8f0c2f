/- package pack: which messages may be: Check -/
import Derived.Test.YtnkinbobnhdpaaaDoorKMsg
namespace Go.Proofs.YtnkinbobnhdpaaaDoor
open Go.RowKit Go.Lib Go.Shelf

set_option maxRecDepth 100000 in
set_option maxHeartbeats 8000000 in
theorem msgMayBe_any (m : MsD) (a : Option Addr) (cap : Nat) (L : List OpR) (w : World) (h : MsIn w m a L) : Calls Tryd.prog 66 #[m.v a cap] w (BoB (okMs m) w) := by
  have hln := h.len
  have hok : okMs m = (kOk m.kind && ((shp m.kind).ok m.site m.nonce m.known m.seq m.err L.length && (OpR.os L).all okOp)) := by
    unfold okMs MsD.fields
    rw [← shp_ok, h.len, h.os, Bool.and_assoc]
  have HSH := Lib.hid (fun wx => shape_any m.kind wx)
  have HOP := Lib.hid (fun (wx : World) (hx : OpsAt wx a L) => opsMayBe_any a cap L wx hx)
  have HI := Lib.hid h.ops
  rw [hok]
  unfold Shp.ok ShPost at *
  generalize shp m.kind = S at *
  generalize kOk m.kind = kb at *
  generalize (OpR.os L).all okOp = ob at *
  obtain ⟨s0, s1, n0, n1, k0, k1, q0, q1, e0, e1, o0, o1⟩ := S
  obtain ⟨kind, site, nonce, known, seq, err, ops⟩ := m
  unfold MsD.v
  simp only at HSH hln ⊢
  rw [hln]
  obtain ⟨n, hn⟩ : ∃ n, L.length = n := ⟨_, rfl⟩
  rw [hn] at HOP ⊢
  clear hok h hln hn
  have HB := Lib.hid (below_al w (.cells #[.int .i64 kind, .int .i64 site, .int .i64 nonce, .int .i64 known, .int .i64 seq, .int .i64 err, .slice a n cap] 53))
  have HM := Lib.hid (Hp.new w #[.int .i64 kind, .int .i64 site, .int .i64 nonce, .int .i64 known, .int .i64 seq, .int .i64 err, .slice a n cap] 53)
  obtain ⟨bm, hbm⟩ : ∃ b, w.heap.size = b := ⟨_, rfl⟩
  go_enter Tryd.func66, Tryd.ntmps66
  go_upto_region 1 with fail
  generalize w.alloc (.cells #[.int .i64 kind, .int .i64 site, .int .i64 nonce, .int .i64 known, .int .i64 seq, .int .i64 err, .slice a n cap] 53) = W0 at *
  rw [hbm] at HM
  clear hbm
  have c0 : W0.cell? ⟨bm, 0, none⟩ = some (.int .i64 kind) := HM.out.cell 0 rfl
  go_upto_region 2 with (first
    | (go_at_call 92; refine (HSH.out _).mono ?_; rintro e w1 ⟨rfl, hb1⟩; have HB1 := Lib.hid (HB.out.trans (hb1.mono HB.out.size)); have HM1 := Lib.hid (HM.out.step hb1); have HI1 := Lib.hid ((HI.out.below HB.out).below hb1); clear hb1 c0)
    | fail)
  have HSX := Lib.hid (Hp.new w1 #[.int .i64 s0, .int .i64 s1, .int .i64 n0, .int .i64 n1, .int .i64 k0, .int .i64 k1, .int .i64 q0, .int .i64 q1, .int .i64 e0, .int .i64 e1, .int .i64 o0, .int .i64 o1] 139)
  have HM2 := Lib.hid (HM1.out.step (below_al w1 (.cells #[.int .i64 s0, .int .i64 s1, .int .i64 n0, .int .i64 n1, .int .i64 k0, .int .i64 k1, .int .i64 q0, .int .i64 q1, .int .i64 e0, .int .i64 e1, .int .i64 o0, .int .i64 o1] 139)))
  have HI2 := Lib.hid (HI1.out.below (below_al w1 (.cells #[.int .i64 s0, .int .i64 s1, .int .i64 n0, .int .i64 n1, .int .i64 k0, .int .i64 k1, .int .i64 q0, .int .i64 q1, .int .i64 e0, .int .i64 e1, .int .i64 o0, .int .i64 o1] 139)))
  have HB2 := Lib.hid (below_alx HB1.out (.cells #[.int .i64 s0, .int .i64 s1, .int .i64 n0, .int .i64 n1, .int .i64 k0, .int .i64 k1, .int .i64 q0, .int .i64 q1, .int .i64 e0, .int .i64 e1, .int .i64 o0, .int .i64 o1] 139))
  clear HM HB HM1 HI1 HB1 HI
  generalize w1.alloc (.cells #[.int .i64 s0, .int .i64 s1, .int .i64 n0, .int .i64 n1, .int .i64 k0, .int .i64 k1, .int .i64 q0, .int .i64 q1, .int .i64 e0, .int .i64 e1, .int .i64 o0, .int .i64 o1] 139) = W1 at *
  obtain ⟨bs, hbs⟩ : ∃ b, w1.heap.size = b := ⟨_, rfl⟩
  rw [hbs] at HSX ⊢
  clear hbs
  have HC := Lib.hid (fun wx (hb : Below W1.heap.size W1 wx) => (by
    have h1 := HM2.out.step hb
    have h2 := HSX.out.step hb
    exact ⟨⟨h1.cell 0 rfl, h1.cell 1 rfl, h1.cell 2 rfl, h1.cell 3 rfl, h1.cell 4 rfl, h1.cell 5 rfl, h1.cell 6 rfl⟩, h2.cell 0 rfl, h2.cell 1 rfl, h2.cell 2 rfl, h2.cell 3 rfl, h2.cell 4 rfl, h2.cell 5 rfl, h2.cell 6 rfl, h2.cell 7 rfl, h2.cell 8 rfl, h2.cell 9 rfl, h2.cell 10 rfl, h2.cell 11 rfl⟩ : (wx.cell? ⟨bm, 0, none⟩ = some (.int .i64 kind) ∧ wx.cell? ⟨bm, 1, none⟩ = some (.int .i64 site) ∧ wx.cell? ⟨bm, 2, none⟩ = some (.int .i64 nonce) ∧ wx.cell? ⟨bm, 3, none⟩ = some (.int .i64 known) ∧ wx.cell? ⟨bm, 4, none⟩ = some (.int .i64 seq) ∧ wx.cell? ⟨bm, 5, none⟩ = some (.int .i64 err) ∧ wx.cell? ⟨bm, 6, none⟩ = some (.slice a n cap)) ∧ (wx.cell? ⟨bs, 0, none⟩ = some (.int .i64 s0) ∧ wx.cell? ⟨bs, 1, none⟩ = some (.int .i64 s1) ∧ wx.cell? ⟨bs, 2, none⟩ = some (.int .i64 n0) ∧ wx.cell? ⟨bs, 3, none⟩ = some (.int .i64 n1) ∧ wx.cell? ⟨bs, 4, none⟩ = some (.int .i64 k0) ∧ wx.cell? ⟨bs, 5, none⟩ = some (.int .i64 k1) ∧ wx.cell? ⟨bs, 6, none⟩ = some (.int .i64 q0) ∧ wx.cell? ⟨bs, 7, none⟩ = some (.int .i64 q1) ∧ wx.cell? ⟨bs, 8, none⟩ = some (.int .i64 e0) ∧ wx.cell? ⟨bs, 9, none⟩ = some (.int .i64 e1) ∧ wx.cell? ⟨bs, 10, none⟩ = some (.int .i64 o0) ∧ wx.cell? ⟨bs, 11, none⟩ = some (.int .i64 o1))))
  have hb0 := Below.refl W1.heap.size W1
  obtain ⟨⟨m0, m1, m2, m3, m4, m5, m6⟩, x0, x1, x2, x3, x4, x5, x6, x7, x8, x9, x10, x11⟩ := HC.out _ hb0
  cases kb
  · go_wp2_with (first
        | (go_at_call 93; refine (has_any _ _ _ _).mono ?_; rintro e wn ⟨rfl, hb⟩; have hbn := below_next (w1 := W1) (by first | exact hbn | exact hb0) hb; clear m0 m1 m2 m3 m4 m5 m6 x0 x1 x2 x3 x4 x5 x6 x7 x8 x9 x10 x11; obtain ⟨⟨m0, m1, m2, m3, m4, m5, m6⟩, x0, x1, x2, x3, x4, x5, x6, x7, x8, x9, x10, x11⟩ := HC.out _ hbn; clear hb)
        | (go_at_call 94; refine (HOP.out _ (HI2.out.below hbn)).mono ?_; rintro e wz ⟨rfl, hb⟩; have hbz := below_next (w1 := W1) hbn hb; clear hb)
        | fail)
    go_ret
    exact ⟨rfl, HB2.out.trans ((show Below W1.heap.size W1 _ from by first | exact hbz | exact hbn | exact hb0).mono HB2.out.size)⟩
  · skip
    cases y1 : btw site s0 s1
    · go_wp2_with (first
          | (go_at_call 93; refine (has_any _ _ _ _).mono ?_; rintro e wn ⟨rfl, hb⟩; have hbn := below_next (w1 := W1) (by first | exact hbn | exact hb0) hb; clear m0 m1 m2 m3 m4 m5 m6 x0 x1 x2 x3 x4 x5 x6 x7 x8 x9 x10 x11; obtain ⟨⟨m0, m1, m2, m3, m4, m5, m6⟩, x0, x1, x2, x3, x4, x5, x6, x7, x8, x9, x10, x11⟩ := HC.out _ hbn; clear hb)
          | (go_at_call 94; refine (HOP.out _ (HI2.out.below hbn)).mono ?_; rintro e wz ⟨rfl, hb⟩; have hbz := below_next (w1 := W1) hbn hb; clear hb)
          | fail)
      go_ret
      exact ⟨ret_bool (by simp only [Bool.false_and, Bool.true_and, y1]), HB2.out.trans ((show Below W1.heap.size W1 _ from by first | exact hbz | exact hbn | exact hb0).mono HB2.out.size)⟩
    · skip
      cases y2 : btw nonce n0 n1
      · go_wp2_with (first
            | (go_at_call 93; refine (has_any _ _ _ _).mono ?_; rintro e wn ⟨rfl, hb⟩; have hbn := below_next (w1 := W1) (by first | exact hbn | exact hb0) hb; clear m0 m1 m2 m3 m4 m5 m6 x0 x1 x2 x3 x4 x5 x6 x7 x8 x9 x10 x11; obtain ⟨⟨m0, m1, m2, m3, m4, m5, m6⟩, x0, x1, x2, x3, x4, x5, x6, x7, x8, x9, x10, x11⟩ := HC.out _ hbn; clear hb)
            | (go_at_call 94; refine (HOP.out _ (HI2.out.below hbn)).mono ?_; rintro e wz ⟨rfl, hb⟩; have hbz := below_next (w1 := W1) hbn hb; clear hb)
            | fail)
        go_ret
        exact ⟨ret_bool (by simp only [Bool.false_and, Bool.true_and, y1, y2]), HB2.out.trans ((show Below W1.heap.size W1 _ from by first | exact hbz | exact hbn | exact hb0).mono HB2.out.size)⟩
      · skip
        cases y3 : btw known k0 k1
        · go_wp2_with (first
              | (go_at_call 93; refine (has_any _ _ _ _).mono ?_; rintro e wn ⟨rfl, hb⟩; have hbn := below_next (w1 := W1) (by first | exact hbn | exact hb0) hb; clear m0 m1 m2 m3 m4 m5 m6 x0 x1 x2 x3 x4 x5 x6 x7 x8 x9 x10 x11; obtain ⟨⟨m0, m1, m2, m3, m4, m5, m6⟩, x0, x1, x2, x3, x4, x5, x6, x7, x8, x9, x10, x11⟩ := HC.out _ hbn; clear hb)
              | (go_at_call 94; refine (HOP.out _ (HI2.out.below hbn)).mono ?_; rintro e wz ⟨rfl, hb⟩; have hbz := below_next (w1 := W1) hbn hb; clear hb)
              | fail)
          go_ret
          exact ⟨ret_bool (by simp only [Bool.false_and, Bool.true_and, y1, y2, y3]), HB2.out.trans ((show Below W1.heap.size W1 _ from by first | exact hbz | exact hbn | exact hb0).mono HB2.out.size)⟩
        · skip
          cases y4 : btw seq q0 q1
          · go_wp2_with (first
                | (go_at_call 93; refine (has_any _ _ _ _).mono ?_; rintro e wn ⟨rfl, hb⟩; have hbn := below_next (w1 := W1) (by first | exact hbn | exact hb0) hb; clear m0 m1 m2 m3 m4 m5 m6 x0 x1 x2 x3 x4 x5 x6 x7 x8 x9 x10 x11; obtain ⟨⟨m0, m1, m2, m3, m4, m5, m6⟩, x0, x1, x2, x3, x4, x5, x6, x7, x8, x9, x10, x11⟩ := HC.out _ hbn; clear hb)
                | (go_at_call 94; refine (HOP.out _ (HI2.out.below hbn)).mono ?_; rintro e wz ⟨rfl, hb⟩; have hbz := below_next (w1 := W1) hbn hb; clear hb)
                | fail)
            go_ret
            exact ⟨ret_bool (by simp only [Bool.false_and, Bool.true_and, y1, y2, y3, y4]), HB2.out.trans ((show Below W1.heap.size W1 _ from by first | exact hbz | exact hbn | exact hb0).mono HB2.out.size)⟩
          · skip
            cases y5 : btw err e0 e1
            · go_wp2_with (first
                  | (go_at_call 93; refine (has_any _ _ _ _).mono ?_; rintro e wn ⟨rfl, hb⟩; have hbn := below_next (w1 := W1) (by first | exact hbn | exact hb0) hb; clear m0 m1 m2 m3 m4 m5 m6 x0 x1 x2 x3 x4 x5 x6 x7 x8 x9 x10 x11; obtain ⟨⟨m0, m1, m2, m3, m4, m5, m6⟩, x0, x1, x2, x3, x4, x5, x6, x7, x8, x9, x10, x11⟩ := HC.out _ hbn; clear hb)
                  | (go_at_call 94; refine (HOP.out _ (HI2.out.below hbn)).mono ?_; rintro e wz ⟨rfl, hb⟩; have hbz := below_next (w1 := W1) hbn hb; clear hb)
                  | fail)
              go_ret
              exact ⟨ret_bool (by simp only [Bool.false_and, Bool.true_and, y1, y2, y3, y4, y5]), HB2.out.trans ((show Below W1.heap.size W1 _ from by first | exact hbz | exact hbn | exact hb0).mono HB2.out.size)⟩
            · skip
              cases y6 : btw (n : Int) o0 o1
              · go_wp2_with (first
                    | (go_at_call 93; refine (has_any _ _ _ _).mono ?_; rintro e wn ⟨rfl, hb⟩; have hbn := below_next (w1 := W1) (by first | exact hbn | exact hb0) hb; clear m0 m1 m2 m3 m4 m5 m6 x0 x1 x2 x3 x4 x5 x6 x7 x8 x9 x10 x11; obtain ⟨⟨m0, m1, m2, m3, m4, m5, m6⟩, x0, x1, x2, x3, x4, x5, x6, x7, x8, x9, x10, x11⟩ := HC.out _ hbn; clear hb)
                    | (go_at_call 94; refine (HOP.out _ (HI2.out.below hbn)).mono ?_; rintro e wz ⟨rfl, hb⟩; have hbz := below_next (w1 := W1) hbn hb; clear hb)
                    | fail)
                go_ret
                exact ⟨ret_bool (by simp only [Bool.false_and, Bool.true_and, y1, y2, y3, y4, y5, y6]), HB2.out.trans ((show Below W1.heap.size W1 _ from by first | exact hbz | exact hbn | exact hb0).mono HB2.out.size)⟩
              · skip
                go_wp2_with (first
                    | (go_at_call 93; refine (has_any _ _ _ _).mono ?_; rintro e wn ⟨rfl, hb⟩; have hbn := below_next (w1 := W1) (by first | exact hbn | exact hb0) hb; clear m0 m1 m2 m3 m4 m5 m6 x0 x1 x2 x3 x4 x5 x6 x7 x8 x9 x10 x11; obtain ⟨⟨m0, m1, m2, m3, m4, m5, m6⟩, x0, x1, x2, x3, x4, x5, x6, x7, x8, x9, x10, x11⟩ := HC.out _ hbn; clear hb)
                    | (go_at_call 94; refine (HOP.out _ (HI2.out.below hbn)).mono ?_; rintro e wz ⟨rfl, hb⟩; have hbz := below_next (w1 := W1) hbn hb; clear hb)
                    | fail)
                go_ret
                exact ⟨ret_bool (by simp only [Bool.true_and, y1, y2, y3, y4, y5, y6]), HB2.out.trans ((show Below W1.heap.size W1 _ from by first | exact hbz | exact hbn | exact hb0).mono HB2.out.size)⟩
end Go.Proofs.YtnkinbobnhdpaaaDoor
