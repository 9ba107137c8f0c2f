/- the page's bytes -/
import Derived.Test.YtnkinbobnhdpaaaDoorKOpB
import Derived.Test.YtnkinbobnhdpaaaDoorKPgR
namespace Go.Proofs.YtnkinbobnhdpaaaDoor
open Go.RowKit Go.Lib Go.Sort

theorem okB_put {n : Int} (h : Nb.okB n = true) (wx : World) : Calls Tryd.prog 56 #[.int .i64 n] wx fun e w' => e = .returned (.string ⟨(encI n).toArray⟩) ∧ Below wx.heap.size wx w' :=
  Nb.rPut_ok n wx (Nb.okB_of h).1 (Nb.okB_of h).2
theorem encI_len5 {n : Int} (h : Nb.okB n = true) : (⟨(encI n).toArray⟩ : ByteArray).size ≤ 5 := encI_len n (Nb.okB_of h).2

set_option maxRecDepth 100000 in
set_option maxHeartbeats 4000000 in
theorem pEl_any (e : El) (w : World) (hk : e.okN = true) : Calls Tryd.prog 57 #[e.v] w (StrB (encL e.nums) w) := by
  have hs := El.okN_all hk
  obtain ⟨es, eq, ei⟩ := e
  have k1 := hs es (by simp [El.nums])
  have k2 := hs eq (by simp [El.nums])
  have k3 := hs ei (by simp [El.nums])
  clear hs hk
  have C1 := Lib.hid (okB_put k1)
  have C2 := Lib.hid (okB_put k2)
  have C3 := Lib.hid (okB_put k3)
  have z1 := encI_len5 k1
  have z2 := encI_len5 k2
  have z3 := encI_len5 k3
  clear k1 k2 k3
  have HRES := Lib.hid (show Value.string (((⟨(encI es).toArray⟩ : ByteArray) ++ ⟨(encI eq).toArray⟩) ++ ⟨(encI ei).toArray⟩) = Nb.S (encL (El.nums ⟨es, eq, ei⟩)) from by
    rw [ByteArray.mk_append_mk, ByteArray.mk_append_mk]
    show Nb.S ((encI es ++ encI eq) ++ encI ei) = Nb.S (encI es ++ (encI eq ++ (encI ei ++ [])))
    rw [List.append_nil, List.append_assoc])
  generalize (⟨(encI es).toArray⟩ : ByteArray) = B1 at *
  generalize (⟨(encI eq).toArray⟩ : ByteArray) = B2 at *
  generalize (⟨(encI ei).toArray⟩ : ByteArray) = B3 at *
  obtain ⟨D2, e2⟩ : ∃ B, B1 ++ B2 = B := ⟨_, rfl⟩
  obtain ⟨D3, e3⟩ : ∃ B, D2 ++ B3 = B := ⟨_, rfl⟩
  have y2 : D2.size = B1.size + B2.size := by rw [← e2, ByteArray.size_append]
  rw [e2, e3] at HRES
  have q1 : ¬ (9223372036854775807 < B1.size + B2.size) := by omega
  have q2 : ¬ (9223372036854775807 < D2.size + B3.size) := by omega
  clear y2 z1 z2 z3
  have HX := Lib.hid (BoxE.new w ⟨es, eq, ei⟩)
  have HB := Lib.hid (below_al w (.cells #[.int .i64 es, .int .i64 eq, .int .i64 ei] 34))
  unfold El.v StrB
  simp only at HX
  go_enter Tryd.func57, Tryd.ntmps57
  go_upto_region 1 with fail
  generalize w.alloc (.cells #[.int .i64 es, .int .i64 eq, .int .i64 ei] 34) = w1 at *
  obtain ⟨bx, hbx⟩ : ∃ bx, w.heap.size = bx := ⟨_, rfl⟩
  rw [hbx] at HX ⊢
  have HSR := Lib.hid (fun wx (hb : Below w1.heap.size w1 wx) => (by
    have h := HX.out.step hb
    exact ⟨h.c0, h.c1, h.c2⟩ : wx.cell? ⟨bx, 0, none⟩ = some (.int .i64 es) ∧ wx.cell? ⟨bx, 1, none⟩ = some (.int .i64 eq) ∧ wx.cell? ⟨bx, 2, none⟩ = some (.int .i64 ei)))
  have hbz := Below.refl w1.heap.size w1
  clear HX
  go_region_held3 (fun wx => wx.cell? ⟨bx, 0, none⟩ = some (.int .i64 es) ∧ wx.cell? ⟨bx, 1, none⟩ = some (.int .i64 eq) ∧ wx.cell? ⟨bx, 2, none⟩ = some (.int .i64 ei)) (first | exact HSR.out _ (by first | with_reducible exact hb3 | with_reducible exact hb3.drew | with_reducible exact hb2 | with_reducible exact hb2.drew | with_reducible exact hb1 | with_reducible exact hb1.drew | with_reducible exact hbz | with_reducible exact hbz.drew) | fail) (first
    | (go_at_call 56; with_reducible refine (C1.out _).mono ?_; rintro e wa ⟨rfl, hs1⟩; have hb1 := below_next (w1 := w1) (by first | with_reducible exact hb3 | with_reducible exact hb3.drew | with_reducible exact hb2 | with_reducible exact hb2.drew | with_reducible exact hb1 | with_reducible exact hb1.drew | with_reducible exact hbz | with_reducible exact hbz.drew) hs1)
    | (go_at_call 56; with_reducible refine (C2.out _).mono ?_; rintro e wb ⟨rfl, hs2⟩; have hb2 := below_next (w1 := w1) (by first | with_reducible exact hb3 | with_reducible exact hb3.drew | with_reducible exact hb2 | with_reducible exact hb2.drew | with_reducible exact hb1 | with_reducible exact hb1.drew | with_reducible exact hbz | with_reducible exact hbz.drew) hs2)
    | (go_at_call 56; with_reducible refine (C3.out _).mono ?_; rintro e wc ⟨rfl, hs3⟩; have hb3 := below_next (w1 := w1) (by first | with_reducible exact hb3 | with_reducible exact hb3.drew | with_reducible exact hb2 | with_reducible exact hb2.drew | with_reducible exact hb1 | with_reducible exact hb1.drew | with_reducible exact hbz | with_reducible exact hbz.drew) hs3)
    | fail)
  all_goals
    go_wp2
    go_ret
    subst hbx
    exact ⟨by rw [← HRES.out]; rfl, HB.out.trans (hb3.mono HB.out.size)⟩

set_option maxRecDepth 100000 in
set_option maxHeartbeats 4000000 in
theorem pOpB_any (o : OpD) (a : Option Addr) (cap : Nat) (w : World) (hi : OpIn w o a) (hk : okOp o = true) : Calls Tryd.prog 18 #[o.v a cap] w (StrB (opB o) w) := by
  have hok := okOp_nums hk
  have hb0 : Below w.heap.size w (w.alloc (o.obj a cap)) := below_al _ _
  have HX := Lib.hid (BoxO.new w o a cap)
  have HG := Lib.hid (hi.gone.below hb0)
  have HB := Lib.hid hb0
  have hgl := hok.len
  have HGN := Lib.hid hok.gone
  have hsz := hok.size
  have k1 := hok.head o.site (by simp)
  have k2 := hok.head o.seq (by simp)
  have k3 := hok.head o.kind (by simp)
  rcases hok.kind with hk1 | hk1
  case inr =>
    have HT := hok.tog hk1
    have k4 := HT o.of (by simp)
    have k5 := HT o.num (by simp)
    have k6 := HT o.gen (by simp)
    rw [opB_2 hk1]
    clear hi hk hok hb0 hgl hsz HT HG HGN
    obtain ⟨site, seq, kind, ⟨es, eq, ei⟩, text, gone, of, num, gen⟩ := o
    unfold OpD.v OpD.obj at *
    simp only at hk1 HX HB k1 k2 k3 k4 k5 k6 ⊢
    subst hk1
    have C1 := Lib.hid (okB_put k1)
    have z1 := encI_len5 k1
    have C2 := Lib.hid (okB_put k2)
    have z2 := encI_len5 k2
    have C3 := Lib.hid (okB_put k3)
    have z3 := encI_len5 k3
    have C4 := Lib.hid (okB_put k4)
    have z4 := encI_len5 k4
    have C5 := Lib.hid (okB_put k5)
    have z5 := encI_len5 k5
    have C6 := Lib.hid (okB_put k6)
    have z6 := encI_len5 k6
    clear k1 k2 k3 k4 k5 k6
    have HRES := Lib.hid (show Value.string ((((((⟨(encI site).toArray⟩ : ByteArray) ++ ⟨(encI seq).toArray⟩) ++ ⟨(encI 2).toArray⟩) ++ ⟨(encI of).toArray⟩) ++ ⟨(encI num).toArray⟩) ++ ⟨(encI gen).toArray⟩) = Nb.S (encL [site, seq, 2] ++ encL [of, num, gen]) from by
      simp only [ByteArray.mk_append_mk, encL, List.append_nil, List.append_assoc])
    generalize (⟨(encI site).toArray⟩ : ByteArray) = B1 at *
    generalize (⟨(encI seq).toArray⟩ : ByteArray) = B2 at *
    generalize (⟨(encI 2).toArray⟩ : ByteArray) = B3 at *
    generalize (⟨(encI of).toArray⟩ : ByteArray) = B4 at *
    generalize (⟨(encI num).toArray⟩ : ByteArray) = B5 at *
    generalize (⟨(encI gen).toArray⟩ : ByteArray) = B6 at *
    obtain ⟨D2, e2⟩ : ∃ B, B1 ++ B2 = B := ⟨_, rfl⟩
    have y2 : D2.size = B1.size + B2.size := by rw [← e2, ByteArray.size_append]
    obtain ⟨D3, e3⟩ : ∃ B, D2 ++ B3 = B := ⟨_, rfl⟩
    have y3 : D3.size = D2.size + B3.size := by rw [← e3, ByteArray.size_append]
    obtain ⟨D4, e4⟩ : ∃ B, D3 ++ B4 = B := ⟨_, rfl⟩
    have y4 : D4.size = D3.size + B4.size := by rw [← e4, ByteArray.size_append]
    obtain ⟨D5, e5⟩ : ∃ B, D4 ++ B5 = B := ⟨_, rfl⟩
    have y5 : D5.size = D4.size + B5.size := by rw [← e5, ByteArray.size_append]
    obtain ⟨D6, e6⟩ : ∃ B, D5 ++ B6 = B := ⟨_, rfl⟩
    have y6 : D6.size = D5.size + B6.size := by rw [← e6, ByteArray.size_append]
    rw [e2, e3, e4, e5, e6] at HRES
    have q2 : ¬ (9223372036854775807 < B1.size + B2.size) := by omega
    have q3 : ¬ (9223372036854775807 < D2.size + B3.size) := by omega
    have q4 : ¬ (9223372036854775807 < D3.size + B4.size) := by omega
    have q5 : ¬ (9223372036854775807 < D4.size + B5.size) := by omega
    have q6 : ¬ (9223372036854775807 < D5.size + B6.size) := by omega
    clear y2 y3 y4 y5 y6 z1 z2 z3 z4 z5 z6
    unfold StrB
    go_enter Tryd.func18, Tryd.ntmps18
    go_upto_region 1 with fail
    generalize w.alloc (.cells #[.int .i64 site, .int .i64 seq, .int .i64 2, .int .i64 es, .int .i64 eq, .int .i64 ei, .string text, .slice a gone.length cap, .int .i64 of, .int .i64 num, .int .i64 gen] 36) = w1 at *
    obtain ⟨bx, hbx⟩ : ∃ bx, w.heap.size = bx := ⟨_, rfl⟩
    rw [hbx] at HX ⊢
    have HSR := Lib.hid (fun wx (hb : Below w1.heap.size w1 wx) => (by
      have h := HX.out.step hb
      exact ⟨h.c0, h.c1, h.c2⟩ : wx.cell? ⟨bx, 0, none⟩ = some (.int .i64 site) ∧ wx.cell? ⟨bx, 1, none⟩ = some (.int .i64 seq) ∧ wx.cell? ⟨bx, 2, none⟩ = some (.int .i64 2)))
    have HSS := Lib.hid (fun wx (hb : Below w1.heap.size w1 wx) => (by
      have h := HX.out.step hb
      exact ⟨h.c8, h.c9, h.ca⟩ : wx.cell? ⟨bx, 8, none⟩ = some (.int .i64 of) ∧ wx.cell? ⟨bx, 9, none⟩ = some (.int .i64 num) ∧ wx.cell? ⟨bx, 10, none⟩ = some (.int .i64 gen)))
    have hbz := Below.refl w1.heap.size w1
    clear HX
    go_region_held3 (fun wx => wx.cell? ⟨bx, 0, none⟩ = some (.int .i64 site) ∧ wx.cell? ⟨bx, 1, none⟩ = some (.int .i64 seq) ∧ wx.cell? ⟨bx, 2, none⟩ = some (.int .i64 2)) (first | exact HSR.out _ (by first | with_reducible exact hb3 | with_reducible exact hb3.drew | with_reducible exact hb2 | with_reducible exact hb2.drew | with_reducible exact hb1 | with_reducible exact hb1.drew | with_reducible exact hbz | with_reducible exact hbz.drew) | fail) (first
      | (go_at_call 56; with_reducible refine (C1.out _).mono ?_; rintro e w11 ⟨rfl, hs1⟩; have hb1 := below_next (w1 := w1) (by first | with_reducible exact hb3 | with_reducible exact hb3.drew | with_reducible exact hb2 | with_reducible exact hb2.drew | with_reducible exact hb1 | with_reducible exact hb1.drew | with_reducible exact hbz | with_reducible exact hbz.drew) hs1)
      | (go_at_call 56; with_reducible refine (C2.out _).mono ?_; rintro e w12 ⟨rfl, hs2⟩; have hb2 := below_next (w1 := w1) (by first | with_reducible exact hb3 | with_reducible exact hb3.drew | with_reducible exact hb2 | with_reducible exact hb2.drew | with_reducible exact hb1 | with_reducible exact hb1.drew | with_reducible exact hbz | with_reducible exact hbz.drew) hs2)
      | (go_at_call 56; with_reducible refine (C3.out _).mono ?_; rintro e w13 ⟨rfl, hs3⟩; have hb3 := below_next (w1 := w1) (by first | with_reducible exact hb3 | with_reducible exact hb3.drew | with_reducible exact hb2 | with_reducible exact hb2.drew | with_reducible exact hb1 | with_reducible exact hb1.drew | with_reducible exact hbz | with_reducible exact hbz.drew) hs3)
      | fail)
    all_goals
      clear hs1 hs2 hs3 hb1 hb2 hbz
      have c2 := (HSR.out _ hb3).2.2
      clear HSR
      go_upto_region 3 with fail
      clear c2
      go_region_held3 (fun wx => wx.cell? ⟨bx, 8, none⟩ = some (.int .i64 of) ∧ wx.cell? ⟨bx, 9, none⟩ = some (.int .i64 num) ∧ wx.cell? ⟨bx, 10, none⟩ = some (.int .i64 gen)) (first | exact HSS.out _ (by first | with_reducible exact hb6 | with_reducible exact hb6.drew | with_reducible exact hb5 | with_reducible exact hb5.drew | with_reducible exact hb4 | with_reducible exact hb4.drew | with_reducible exact hb3 | with_reducible exact hb3.drew) | fail) (first
        | (go_at_call 56; with_reducible refine (C4.out _).mono ?_; rintro e w14 ⟨rfl, hs4⟩; have hb4 := below_next (w1 := w1) (by first | with_reducible exact hb6 | with_reducible exact hb6.drew | with_reducible exact hb5 | with_reducible exact hb5.drew | with_reducible exact hb4 | with_reducible exact hb4.drew | with_reducible exact hb3 | with_reducible exact hb3.drew) hs4)
        | (go_at_call 56; with_reducible refine (C5.out _).mono ?_; rintro e w15 ⟨rfl, hs5⟩; have hb5 := below_next (w1 := w1) (by first | with_reducible exact hb6 | with_reducible exact hb6.drew | with_reducible exact hb5 | with_reducible exact hb5.drew | with_reducible exact hb4 | with_reducible exact hb4.drew | with_reducible exact hb3 | with_reducible exact hb3.drew) hs5)
        | (go_at_call 56; with_reducible refine (C6.out _).mono ?_; rintro e w16 ⟨rfl, hs6⟩; have hb6 := below_next (w1 := w1) (by first | with_reducible exact hb6 | with_reducible exact hb6.drew | with_reducible exact hb5 | with_reducible exact hb5.drew | with_reducible exact hb4 | with_reducible exact hb4.drew | with_reducible exact hb3 | with_reducible exact hb3.drew) hs6)
        | fail)
      all_goals
        go_wp2
        go_ret
        subst hbx
        exact ⟨by rw [← HRES.out]; rfl, HB.out.trans (hb6.mono HB.out.size)⟩
  have HAF := Lib.hid (hok.aft hk1)
  have hle := encL_len _ (fun n hn => (Nb.okB_of (El.okN_all (hok.aft hk1) n hn)).2)
  have HLG := Lib.hid (fun k => elsB_take_len k hok.gone)
  rw [opB_1 hk1]
  clear hi hk hok hb0
  obtain ⟨site, seq, kind, ⟨es, eq, ei⟩, text, gone, of, num, gen⟩ := o
  unfold OpD.v OpD.obj at *
  simp only at hk1 HX HB HG HAF hle HGN HLG hgl hsz k1 k2 k3 ⊢
  subst hk1
  obtain ⟨n, hn⟩ : ∃ n, gone.length = n := ⟨_, rfl⟩
  have HGL := Lib.hid hn
  rw [hn] at HX HB HG HLG hgl ⊢
  clear hn
  have kn : Nb.okB (n : Int) = true := Nb.okB_yes (by omega) (by omega)
  have C1 := Lib.hid (okB_put k1)
  have C2 := Lib.hid (okB_put k2)
  have C3 := Lib.hid (okB_put k3)
  have C4 := Lib.hid (okB_put kn)
  have CE := Lib.hid (fun wx => pEl_any ⟨es, eq, ei⟩ wx HAF.out)
  have CX := Lib.hid (fun wx => Nb.rText_any text wx (by omega))
  change RowKit.Hid (∀ wx, Calls _ _ _ _ fun e w' => e = .returned (.string ⟨(txB text).toArray⟩) ∧ _) at CX
  unfold StrB El.v at CE
  change RowKit.Hid (∀ wx, Calls _ _ #[.agg #[.int .i64 es, .int .i64 eq, .int .i64 ei]] _ fun e w' => e = .returned (.string ⟨(encL (El.nums ⟨es, eq, ei⟩)).toArray⟩) ∧ _) at CE
  have z1 := encI_len5 k1
  have z2 := encI_len5 k2
  have z3 := encI_len5 k3
  have z4 := encI_len5 kn
  have ze : (⟨(encL (El.nums ⟨es, eq, ei⟩)).toArray⟩ : ByteArray).size ≤ 15 := hle
  have zx : (⟨(txB text).toArray⟩ : ByteArray).size ≤ 53 := by
    show (txB text).length ≤ 53
    unfold txB
    rw [List.length_append]
    have h1 := uvarint_length 4 text.size (by simp; omega)
    have h2 : text.data.toList.length = text.size := by simp
    omega
  clear k1 k2 k3 kn hle HAF hsz
  have HRES := Lib.hid (show ∀ k, (((((((⟨(encI site).toArray⟩ : ByteArray) ++ ⟨(encI seq).toArray⟩) ++ ⟨(encI 1).toArray⟩) ++ ⟨(encL (El.nums ⟨es, eq, ei⟩)).toArray⟩) ++ ⟨(txB text).toArray⟩) ++ ⟨(encI (n : Int)).toArray⟩) ++ ⟨(elsB (gone.take k)).toArray⟩) = ⟨(encL [site, seq, 1] ++ (((encL (El.nums ⟨es, eq, ei⟩) ++ txB text) ++ encL [(n : Int)]) ++ elsB (gone.take k))).toArray⟩ from by
    intro k
    simp only [ByteArray.mk_append_mk, List.append_assoc]
    simp only [encL, List.append_nil, List.append_assoc])
  generalize (⟨(encI site).toArray⟩ : ByteArray) = B1 at *
  generalize (⟨(encI seq).toArray⟩ : ByteArray) = B2 at *
  generalize (⟨(encI 1).toArray⟩ : ByteArray) = B3 at *
  generalize (⟨(encI (n : Int)).toArray⟩ : ByteArray) = B4 at *
  generalize (⟨(encL (El.nums ⟨es, eq, ei⟩)).toArray⟩ : ByteArray) = BE at *
  generalize (⟨(txB text).toArray⟩ : ByteArray) = BX at *
  obtain ⟨D2, eD2⟩ : ∃ B, B1 ++ B2 = B := ⟨_, rfl⟩
  have yD2 : D2.size = B1.size + B2.size := by rw [← eD2, ByteArray.size_append]
  obtain ⟨D3, eD3⟩ : ∃ B, D2 ++ B3 = B := ⟨_, rfl⟩
  have yD3 : D3.size = D2.size + B3.size := by rw [← eD3, ByteArray.size_append]
  obtain ⟨D4, eD4⟩ : ∃ B, D3 ++ BE = B := ⟨_, rfl⟩
  have yD4 : D4.size = D3.size + BE.size := by rw [← eD4, ByteArray.size_append]
  obtain ⟨D5, eD5⟩ : ∃ B, D4 ++ BX = B := ⟨_, rfl⟩
  have yD5 : D5.size = D4.size + BX.size := by rw [← eD5, ByteArray.size_append]
  obtain ⟨D6, eD6⟩ : ∃ B, D5 ++ B4 = B := ⟨_, rfl⟩
  have yD6 : D6.size = D5.size + B4.size := by rw [← eD6, ByteArray.size_append]
  simp only [eD2, eD3, eD4, eD5, eD6] at HRES
  have qD2 : ¬ (9223372036854775807 < B1.size + B2.size) := by omega
  have qD3 : ¬ (9223372036854775807 < D2.size + B3.size) := by omega
  have qD4 : ¬ (9223372036854775807 < D3.size + BE.size) := by omega
  have qD5 : ¬ (9223372036854775807 < D4.size + BX.size) := by omega
  have qD6 : ¬ (9223372036854775807 < D5.size + B4.size) := by omega
  have HZ6 := Lib.hid (show D6.size ≤ 100 from by omega)
  clear yD2 yD3 yD4 yD5 yD6 z1 z2 z3 z4 ze zx
  unfold StrB
  go_enter Tryd.func18, Tryd.ntmps18
  go_upto_region 1 with fail
  generalize w.alloc (.cells #[.int .i64 site, .int .i64 seq, .int .i64 1, .int .i64 es, .int .i64 eq, .int .i64 ei, .string text, .slice a n cap, .int .i64 of, .int .i64 num, .int .i64 gen] 36) = w1 at *
  obtain ⟨bx, hbx⟩ : ∃ bx, w.heap.size = bx := ⟨_, rfl⟩
  rw [hbx] at HX ⊢
  have HSR := Lib.hid (fun wx (hb : Below w1.heap.size w1 wx) => (by
    have h := HX.out.step hb
    exact ⟨h.c0, h.c1, h.c2⟩ : wx.cell? ⟨bx, 0, none⟩ = some (.int .i64 site) ∧ wx.cell? ⟨bx, 1, none⟩ = some (.int .i64 seq) ∧ wx.cell? ⟨bx, 2, none⟩ = some (.int .i64 1)))
  have HSS := Lib.hid (fun wx (hb : Below w1.heap.size w1 wx) => (by
    have h := HX.out.step hb
    have c3 := h.c3
    have c4 := h.c4
    have c5 := h.c5
    have c6 := h.c6
    have c7 := h.c7
    simp only [HGL.out] at c3 c4 c5 c6 c7
    exact ⟨c3, c4, c5, c6, c7⟩ : wx.cell? ⟨bx, 3, none⟩ = some (.int .i64 es) ∧ wx.cell? ⟨bx, 4, none⟩ = some (.int .i64 eq) ∧ wx.cell? ⟨bx, 5, none⟩ = some (.int .i64 ei) ∧ wx.cell? ⟨bx, 6, none⟩ = some (.string text) ∧ wx.cell? ⟨bx, 7, none⟩ = some (.slice a n cap)))
  have hbz := Below.refl w1.heap.size w1
  clear HX
  go_region_held3 (fun wx => wx.cell? ⟨bx, 0, none⟩ = some (.int .i64 site) ∧ wx.cell? ⟨bx, 1, none⟩ = some (.int .i64 seq) ∧ wx.cell? ⟨bx, 2, none⟩ = some (.int .i64 1)) (first | exact HSR.out _ (by first | with_reducible exact hb3 | with_reducible exact hb3.drew | with_reducible exact hb2 | with_reducible exact hb2.drew | with_reducible exact hb1 | with_reducible exact hb1.drew | with_reducible exact hbz | with_reducible exact hbz.drew) | fail) (first
    | (go_at_call 56; with_reducible refine (C1.out _).mono ?_; rintro e w11 ⟨rfl, hs1⟩; have hb1 := below_next (w1 := w1) (by first | with_reducible exact hb3 | with_reducible exact hb3.drew | with_reducible exact hb2 | with_reducible exact hb2.drew | with_reducible exact hb1 | with_reducible exact hb1.drew | with_reducible exact hbz | with_reducible exact hbz.drew) hs1)
    | (go_at_call 56; with_reducible refine (C2.out _).mono ?_; rintro e w12 ⟨rfl, hs2⟩; have hb2 := below_next (w1 := w1) (by first | with_reducible exact hb3 | with_reducible exact hb3.drew | with_reducible exact hb2 | with_reducible exact hb2.drew | with_reducible exact hb1 | with_reducible exact hb1.drew | with_reducible exact hbz | with_reducible exact hbz.drew) hs2)
    | (go_at_call 56; with_reducible refine (C3.out _).mono ?_; rintro e w13 ⟨rfl, hs3⟩; have hb3 := below_next (w1 := w1) (by first | with_reducible exact hb3 | with_reducible exact hb3.drew | with_reducible exact hb2 | with_reducible exact hb2.drew | with_reducible exact hb1 | with_reducible exact hb1.drew | with_reducible exact hbz | with_reducible exact hbz.drew) hs3)
    | fail)
  all_goals
    clear hs1 hs2 hs3 hb1 hb2 hbz
    have c2 := (HSR.out _ hb3).2.2
    clear HSR
    go_upto_region 4 with fail
    clear c2
    go_region_held3 (fun wx => wx.cell? ⟨bx, 3, none⟩ = some (.int .i64 es) ∧ wx.cell? ⟨bx, 4, none⟩ = some (.int .i64 eq) ∧ wx.cell? ⟨bx, 5, none⟩ = some (.int .i64 ei) ∧ wx.cell? ⟨bx, 6, none⟩ = some (.string text) ∧ wx.cell? ⟨bx, 7, none⟩ = some (.slice a n cap)) (first | exact HSS.out _ (by first | with_reducible exact hb6 | with_reducible exact hb6.drew | with_reducible exact hb5 | with_reducible exact hb5.drew | with_reducible exact hb4 | with_reducible exact hb4.drew | with_reducible exact hb3 | with_reducible exact hb3.drew) | fail) (first
      | (go_at_call 57; with_reducible refine (CE.out _).mono ?_; rintro e w14 ⟨rfl, hs4⟩; have hb4 := below_next (w1 := w1) (by first | with_reducible exact hb6 | with_reducible exact hb6.drew | with_reducible exact hb5 | with_reducible exact hb5.drew | with_reducible exact hb4 | with_reducible exact hb4.drew | with_reducible exact hb3 | with_reducible exact hb3.drew) hs4)
      | (go_at_call 58; with_reducible refine (CX.out _).mono ?_; rintro e w15 ⟨rfl, hs5⟩; have hb5 := below_next (w1 := w1) (by first | with_reducible exact hb6 | with_reducible exact hb6.drew | with_reducible exact hb5 | with_reducible exact hb5.drew | with_reducible exact hb4 | with_reducible exact hb4.drew | with_reducible exact hb3 | with_reducible exact hb3.drew) hs5)
      | (go_at_call 56; with_reducible refine (C4.out _).mono ?_; rintro e w16 ⟨rfl, hs6⟩; have hb6 := below_next (w1 := w1) (by first | with_reducible exact hb6 | with_reducible exact hb6.drew | with_reducible exact hb5 | with_reducible exact hb5.drew | with_reducible exact hb4 | with_reducible exact hb4.drew | with_reducible exact hb3 | with_reducible exact hb3.drew) hs6)
      | fail)
    all_goals
      clear hs4 hs5 hs6 hb3 hb4 hb5 C1 C2 C3 C4 CE CX
      have HD0 := Lib.hid (show D6 = D6 ++ (⟨(elsB (gone.take 0)).toArray⟩ : ByteArray) from (by first | exact ByteArray.append_empty.symm | (apply ByteArray.ext; simp [elsB])))
      have HBz := Lib.hid hb6
      clear hb6
      clear eD2 eD3 eD4 eD5 eD6 qD2 qD3 qD4 qD5 qD6
      go_wp2_with fail
      go_loopw [3, 4] (fun s i wr => ∃ (k : Nat) (B : ByteArray), k ≤ n ∧ s = .string B ∧ i = .int .i64 k ∧ B = D6 ++ (⟨(elsB (gone.take k)).toArray⟩ : ByteArray) ∧ Below w1.heap.size w1 wr) (fun _ i _ => n - (RowKit.intOf i).toNat)
      case atStart => exact ⟨0, D6, Nat.zero_le _, rfl, rfl, HD0.out, HBz.out⟩
      case round =>
        clear HBz HD0
        obtain ⟨k, B, hk, rfl, rfl, hB, hb⟩ := hrel
        have HBB := Lib.hid hB
        have HBw := Lib.hid hb
        have c7 := (HSS.out _ hb).2.2.2.2
        have hsB : B.size ≤ 3100 := by
          have h1 := HLG.out k
          have h2 := HZ6.out
          rw [hB, ByteArray.size_append]
          have h3 : (⟨(elsB (gone.take k)).toArray⟩ : ByteArray).size ≤ 15 * n := h1
          omega
        clear hB
        by_cases hlt : k < n
        · have hlg : k < gone.length := by rw [HGL.out]; exact hlt
          obtain ⟨b1, o1, h1, hb1, hc1, hc2, hc3⟩ := (HG.out.below hb).cell k hlg
          have HT := Lib.hid (elsB_take hlg)
          have hok := HGN.out gone[k] (List.getElem_mem hlg)
          have CR := Lib.hid (fun wx => pEl_any gone[k] wx hok)
          have hlr := encL_len _ (fun n hn => (Nb.okB_of (El.okN_all hok n hn)).2)
          have hsr : (⟨(encL gone[k].nums).toArray⟩ : ByteArray).size ≤ 15 := hlr
          clear hok hlr
          generalize gone[k] = r at *
          obtain ⟨rs, rq, ri⟩ := r
          unfold StrB El.v at CR
          change RowKit.Hid (∀ wx, Calls _ _ #[.agg #[.int .i64 rs, .int .i64 rq, .int .i64 ri]] _ fun e w' => e = .returned (.string ⟨(encL (El.nums ⟨rs, rq, ri⟩)).toArray⟩) ∧ _) at CR
          simp only at hc1 hc2 hc3
          have HBN := Lib.hid (show B ++ (⟨(encL (El.nums ⟨rs, rq, ri⟩)).toArray⟩ : ByteArray) = D6 ++ (⟨(elsB (gone.take (k + 1))).toArray⟩ : ByteArray) from by
            rw [HBB.out, HT.out, ByteArray.append_assoc, ByteArray.mk_append_mk]; first | rfl | simp)
          generalize (⟨(encL (El.nums ⟨rs, rq, ri⟩)).toArray⟩ : ByteArray) = BR at *
          obtain ⟨B', eB⟩ : ∃ X, B ++ BR = X := ⟨_, rfl⟩
          rw [eB] at HBN
          have qB : ¬ (9223372036854775807 < B.size + BR.size) := by omega
          subst h1
          clear hsB hsr hb hlg HT
          go_wp2_with (first
            | (go_at_call 57; with_reducible refine (CR.out _).mono ?_; rintro e w2 ⟨rfl, hs2⟩; have HB2 := Lib.hid (below_next (w1 := w1) HBw.out hs2); clear hs2)
            | fail)
          go_roundw
          case rel => exact ⟨k + 1, B', by omega, rfl, by go_num, HBN.out, HB2.out⟩
          case measure => simp [RowKit.intOf]; omega
        · have HT := Lib.hid (List.take_of_length_le (l := gone) (i := k) (by rw [HGL.out]; omega))
          clear hsB hb
          go_wp2_with fail
          go_ret
          subst hbx
          exact ⟨(show Ending.returned (.string B) = .returned (Nb.S _) by rw [HBB.out, HRES.out k, HT.out]), HB.out.trans (HBw.out.mono HB.out.size)⟩
end Go.Proofs.YtnkinbobnhdpaaaDoor
