/- package pack: an op as bytes -/
import Derived.Test.YtnkinbobnhdpaaaDoorKNumb
import Derived.Test.YtnkinbobnhdpaaaDoorPCheck
import Derived.Deep.DeepCutAuto
import Derived.Deep.RegionHeld3
namespace Go.Proofs.YtnkinbobnhdpaaaDoor
open Go.RowKit Go.Lib Go.Shelf

theorem nameB_okB {s q : Int} (h : nameB s q = true) : Nb.okB s = true ∧ Nb.okB q = true := by
  have := nameB_of h
  exact ⟨Nb.okB_yes (by omega) (by omega), Nb.okB_yes (by omega) (by omega)⟩
theorem El.ok_okN {e : El} (h : e.ok = true) : e.okN = true := by
  unfold El.ok at h
  rw [Bool.or_eq_true] at h
  unfold El.okN
  rcases h with h | h
  · have h1 : e.s = 0 ∧ e.q = 0 ∧ e.i = 0 := of_decide_eq_true h
    rw [h1.1, h1.2.1, h1.2.2]; rfl
  · rw [Bool.and_eq_true] at h
    have h1 := nameB_okB h.1
    have h2 : 0 ≤ e.i ∧ e.i ≤ 11 := of_decide_eq_true h.2
    rw [h1.1, h1.2, Nb.okB_yes h2.1 (by omega)]; rfl
theorem gOk_ok (s q : Int) : ∀ (l : List El) (p : Option El), gOk s q p l = true → ∀ e ∈ l, e.okN = true
  | [], _, _ => fun e he => by cases he
  | x :: r, p, h => by
    rw [gOk] at h
    simp only [Bool.and_eq_true] at h
    intro e he
    rcases List.mem_cons.1 he with rfl | he
    · exact El.ok_okN h.2.1
    · exact gOk_ok s q r (some x) h.2.2.2.2 e he
structure OkN (o : OpD) : Prop where
  head : ∀ n ∈ [o.site, o.seq, o.kind], Nb.okB n = true
  kind : o.kind = 1 ∨ o.kind = 2
  tog : o.kind = 2 → ∀ n ∈ [o.of, o.num, o.gen], Nb.okB n = true
  aft : o.kind = 1 → o.after.okN = true
  size : o.text.size ≤ 48
  len : o.gone.length ≤ 200
  gone : ∀ e ∈ o.gone, e.okN = true
theorem okOp_nums {o : OpD} (h : okOp o = true) : OkN o := by
  unfold okOp at h
  rw [Bool.and_eq_true] at h
  obtain ⟨h1, h2⟩ := h
  have hn := nameB_okB h1
  by_cases k1 : o.kind = 1
  · rw [if_pos k1] at h2
    unfold okEdit okGone at h2
    simp only [Bool.and_eq_true, decide_eq_true_eq] at h2
    obtain ⟨_, _, h3, h4, h5, h6⟩ := h2
    refine ⟨fun n hn' => ?_, .inl k1, fun k2 => by omega, fun _ => ?_, okTx_size h3, h5, gOk_ok _ _ _ _ h6⟩
    · simp only [List.mem_cons, List.not_mem_nil, or_false] at hn'
      rcases hn' with rfl | rfl | rfl
      · exact hn.1
      · exact hn.2
      · rw [k1]; rfl
    · unfold okAfter at h4
      split at h4
      · exact El.ok_okN (by unfold El.ok; rw [h4]; rfl)
      · rw [Bool.and_eq_true] at h4
        exact El.ok_okN h4.1
  · rw [if_neg k1] at h2
    by_cases k2 : o.kind = 2
    · rw [if_pos k2] at h2
      unfold okToggle emptyB btw at h2
      simp only [Bool.and_eq_true, decide_eq_true_eq] at h2
      obtain ⟨_, h3, h4, _, h5, h6⟩ := h2
      have hn2 := nameB_okB h5
      refine ⟨fun n hn' => ?_, .inr k2, fun _ n hn' => ?_, fun k1' => by omega, by rw [h3]; decide, by omega, fun e he => ?_⟩
      · simp only [List.mem_cons, List.not_mem_nil, or_false] at hn'
        rcases hn' with rfl | rfl | rfl
        · exact hn.1
        · exact hn.2
        · rw [k2]; rfl
      · simp only [List.mem_cons, List.not_mem_nil, or_false] at hn'
        rcases hn' with rfl | rfl | rfl
        · exact hn2.1
        · exact hn2.2
        · exact Nb.okB_yes h6.1 h6.2
      · rw [List.eq_nil_of_length_eq_zero h4] at he; cases he
    · rw [if_neg k2] at h2; cases h2
theorem S_app (a b : List UInt8) : Value.string ((⟨a.toArray⟩ : ByteArray) ++ (⟨b.toArray⟩ : ByteArray)) = Nb.S (a ++ b) := Nb.S_join a ⟨b.toArray⟩
theorem opB_2 {o : OpD} (h : o.kind = 2) : opB o = encL [o.site, o.seq, o.kind] ++ encL [o.of, o.num, o.gen] := by unfold opB; rw [if_pos h]
theorem opB_1 {o : OpD} (h : o.kind = 1) : opB o = encL [o.site, o.seq, o.kind] ++ (((encL o.after.nums ++ txB o.text) ++ encL [(o.gone.length : Int)]) ++ elsB o.gone) := by unfold opB; rw [if_neg (by omega)]
theorem elems_new1 (w : World) (e : El) : ElemsAt (w.alloc (.cells #[.int .i64 e.s, .int .i64 e.q, .int .i64 e.i] 34)) (some ⟨w.heap.size, 0, none⟩) [e] :=
  ⟨fun j hj => by
    have hj0 : j = 0 := by simpa using hj
    subst hj0
    have h := BoxE.new w e
    exact ⟨w.heap.size, 0, rfl, h.lt, h.c0, h.c1, h.c2⟩⟩

theorem below_next {w1 wc w2 : World} (h : Below w1.heap.size w1 wc) (hs : Below wc.heap.size wc w2) : Below w1.heap.size w1 w2 := h.trans (hs.mono h.size)
theorem below_al (w : World) (o : Obj) : Below w.heap.size w (w.alloc o) := (Below.refl _ _).alloc (Nat.le_refl _) o
theorem below_alx {w1 wx : World} (h : Below w1.heap.size w1 wx) (o : Obj) : Below w1.heap.size w1 (wx.alloc o) := h.alloc h.size o
theorem nums_one (w : World) (n : Int) : NumsAt (w.alloc (.cells #[.int .i64 n] 3)) (some ⟨w.heap.size, 0, none⟩) [n] := nums_new w [n] 3 #[.int .i64 n] rfl
theorem elems_newR (w : World) (s q i : Int) : ElemsAt (w.alloc (.cells #[.int .i64 s, .int .i64 q, .int .i64 i] 34)) (some ⟨w.heap.size, 0, none⟩) [⟨s, q, i⟩] := elems_new1 w ⟨s, q, i⟩
theorem nums_two (w : World) (o : Obj) (n : Int) : NumsAt ((w.alloc o).alloc (.cells #[.int .i64 n] 3)) (some ⟨w.heap.size + 1, 0, none⟩) [n] := by
  have h := nums_one (w.alloc o) n
  rwa [World.size_alloc] at h
theorem elems_two (w : World) (o : Obj) (s q i : Int) : ElemsAt ((w.alloc o).alloc (.cells #[.int .i64 s, .int .i64 q, .int .i64 i] 34)) (some ⟨w.heap.size + 1, 0, none⟩) [⟨s, q, i⟩] := by
  have h := elems_newR (w.alloc o) s q i
  rwa [World.size_alloc] at h
theorem below_dr (w : World) : Below w.heap.size w w.drew := (Below.refl _ _).drew
set_option maxRecDepth 100000 in
set_option maxHeartbeats 4000000 in
theorem opBytes_any (o : OpD) (a : Option Addr) (cap : Nat) (w : World) (hi : OpIn w o a) (hk : okOp o = true) : Calls Tryd.prog 49 #[o.v a cap] w (StrB (opB o) w) := by
  have hok := okOp_nums hk
  have hb0 : Below w.heap.size w (w.alloc (o.obj a cap)) := (Below.refl _ _).alloc (Nat.le_refl _) _
  have HX := Lib.hid (BoxO.new w o a cap)
  have HG := Lib.hid (hi.gone.below hb0)
  have HB := Lib.hid hb0
  have HLH := Lib.hid (encL_len _ (fun n hn => (Nb.okB_of (hok.head n hn)).2))
  have HH := Lib.hid hok.head
  have hgl := hok.len
  have HGN := Lib.hid hok.gone
  have hsz := hok.size
  have HLG := Lib.hid (elsB_len _ hok.gone)
  rcases hok.kind with hk1 | hk1
  case inr =>
    have HT := Lib.hid (hok.tog hk1)
    have HLT := Lib.hid (encL_len _ (fun n hn => (Nb.okB_of (hok.tog hk1 n hn)).2))
    rw [opB_2 hk1]
    clear hi hk hok hb0 hgl hsz
    obtain ⟨site, seq, kind, ⟨es, eq, ei⟩, text, gone, of, num, gen⟩ := o
    unfold OpD.v OpD.obj at *
    simp only at hk1 HX HB HLH HH HT HLT ⊢
    subst hk1
    have HS := Lib.hid (S_app (encL [site, seq, 2]) (encL [of, num, gen]))
    have HN1 := Lib.hid (fun b wx hx => numbers_any (some ⟨b, 0, none⟩) 3 [site, seq, 2] wx hx HH.out (by simp))
    have HN2 := Lib.hid (fun b wx hx => numbers_any (some ⟨b, 0, none⟩) 3 [of, num, gen] wx hx HT.out (by simp))
    have l1 : (encL [site, seq, 2]).length ≤ 15 := HLH.out
    have l2 : (encL [of, num, gen]).length ≤ 15 := HLT.out
    generalize encL [site, seq, 2] = A1 at *
    generalize encL [of, num, gen] = A2 at *
    go_enter Tryd.func49, Tryd.ntmps49
    go_upto_region 1 with fail
    generalize w.alloc (.cells #[.int .i64 site, .int .i64 seq, .int .i64 2, .int .i64 es, .int .i64 eq, .int .i64 ei, .string text, .slice a gone.length cap, .int .i64 of, .int .i64 num, .int .i64 gen] 36) = W0 at *
    have c0 := HX.out.c0
    have c1 := HX.out.c1
    have c2 := HX.out.c2
    simp only at c0 c1 c2
    go_wp2_with (first
      | (go_at_call 79; refine (HN2.out _ _ (nums_new w1 [of, num, gen] 3 #[.int .i64 of, .int .i64 num, .int .i64 gen] rfl)).mono ?_; rintro e w2 ⟨rfl, hb⟩; have HB2 := Lib.hid (HB1.out.trans ((((Below.refl _ w1).alloc (Nat.le_refl _) _).trans (hb.mono (by simp))).mono HB1.out.size)); clear hb)
      | (go_at_call 79; refine (HN1.out _ _ (nums_new W0 [site, seq, 2] 3 #[.int .i64 site, .int .i64 seq, .int .i64 2] rfl)).mono ?_; rintro e w1 ⟨rfl, hb⟩; have hb' := ((Below.refl _ W0).alloc (Nat.le_refl _) (.cells #[.int .i64 site, .int .i64 seq, .int .i64 2] 3)).trans (hb.mono (by simp)); have HB1 := Lib.hid (HB.out.trans (hb'.mono HB.out.size)); have HX1 := Lib.hid (HX.out.step hb'); clear hb hb' c0 c1 c2; have g2 := HX1.out.c2; have g8 := HX1.out.c8; have g9 := HX1.out.c9; have ga := HX1.out.ca; simp only at g2 g8 g9 ga)
      | fail)
    go_ret
    exact ⟨by rw [← HS.out]; rfl, HB2.out⟩
  have HAF := Lib.hid (hok.aft hk1)
  have HLE := Lib.hid (encL_len _ (fun n hn => (Nb.okB_of (El.okN_all (hok.aft hk1) n hn)).2))
  rw [opB_1 hk1]
  clear hi hk hok hb0
  obtain ⟨site, seq, kind, ⟨es, eq, ei⟩, text, gone, of, num, gen⟩ := o
  unfold OpD.v OpD.obj at *
  simp only at hk1 HX HB HG HLH HH HAF HLE HGN HLG hgl hsz ⊢
  subst hk1
  obtain ⟨n, hn⟩ : ∃ n, gone.length = n := ⟨_, rfl⟩
  have HGL := Lib.hid hn
  rw [hn] at HX HB HG HLG hgl ⊢
  clear hn
  have HN1 := Lib.hid (fun b wx hx => numbers_any (some ⟨b, 0, none⟩) 3 [site, seq, 1] wx hx HH.out (by simp))
  have HN2 := Lib.hid (fun b wx hx => numbers_any (some ⟨b, 0, none⟩) 1 [(n : Int)] wx hx (by intro x hx; simp only [List.mem_singleton] at hx; subst hx; exact Nb.okB_yes (by omega) (by omega)) (by simp))
  have HE1 := Lib.hid (fun b wx hx => elemBytes_any (some ⟨b, 0, none⟩) 1 [⟨es, eq, ei⟩] wx hx (by intro x hx; simp only [List.mem_singleton] at hx; subst hx; exact HAF.out) (by simp))
  have HTX := Lib.hid (fun wx => Nb.Text_any text wx (by omega))
  have HEG := Lib.hid (fun wx hx => elemBytes_any a cap gone wx hx HGN.out (by rw [HGL.out]; omega))
  have ltx : (txB text).length ≤ 53 := by
    unfold txB
    rw [List.length_append]
    have h1 := uvarint_length 4 text.size (by simp; omega)
    have h2 : text.data.toList.length = text.size := by simp
    omega
  simp only [HGL.out] at HEG
  rw [show elsB [(⟨es, eq, ei⟩ : El)] = encL (El.nums ⟨es, eq, ei⟩) from elsB_one _] at HE1
  change RowKit.Hid (∀ wx, Calls _ _ _ _ fun e w' => e = .returned (Nb.S (txB text)) ∧ _) at HTX
  have l1 : (encL [site, seq, 1]).length ≤ 15 := HLH.out
  have l2 : (encL (El.nums ⟨es, eq, ei⟩)).length ≤ 15 := HLE.out
  have l3 : (encL [(n : Int)]).length ≤ 5 := encL_len _ (by intro x hx; simp only [List.mem_singleton] at hx; subst hx; omega)
  have l4 : (elsB gone).length ≤ 3000 := by have := HLG.out; omega
  change RowKit.Hid (∀ b wx, _ → Calls Tryd.prog 80 #[.slice (some ⟨b, 0, none⟩) 1 1] wx _) at HE1
  change RowKit.Hid (∀ b wx, _ → Calls Tryd.prog 79 #[.slice (some ⟨b, 0, none⟩) 1 1] wx _) at HN2
  unfold StrB at *
  generalize encL [site, seq, 1] = A1 at *
  generalize encL (El.nums ⟨es, eq, ei⟩) = A2 at *
  generalize txB text = A3 at *
  generalize encL [(n : Int)] = A4 at *
  generalize elsB gone = A5 at *
  obtain ⟨B1, h1⟩ : ∃ B : ByteArray, (⟨A1.toArray⟩ : ByteArray) = B := ⟨_, rfl⟩
  obtain ⟨B2, h2⟩ : ∃ B : ByteArray, (⟨A2.toArray⟩ : ByteArray) = B := ⟨_, rfl⟩
  obtain ⟨B3, h3⟩ : ∃ B : ByteArray, (⟨A3.toArray⟩ : ByteArray) = B := ⟨_, rfl⟩
  obtain ⟨B4, h4⟩ : ∃ B : ByteArray, (⟨A4.toArray⟩ : ByteArray) = B := ⟨_, rfl⟩
  obtain ⟨B5, h5⟩ : ∃ B : ByteArray, (⟨A5.toArray⟩ : ByteArray) = B := ⟨_, rfl⟩
  have z1 : B1.size ≤ 15 := h1 ▸ l1
  have z2 : B2.size ≤ 15 := h2 ▸ l2
  have z3 : B3.size ≤ 53 := h3 ▸ ltx
  have z4 : B4.size ≤ 5 := h4 ▸ l3
  have z5 : B5.size ≤ 3000 := h5 ▸ l4
  have HRES := Lib.hid (show Value.string ((((B1 ++ B2) ++ B3) ++ B4) ++ B5) = Nb.S (A1 ++ (A2 ++ A3 ++ A4 ++ A5)) from by rw [← h1, ← h2, ← h3, ← h4, ← h5, ByteArray.mk_append_mk, ByteArray.mk_append_mk, ByteArray.mk_append_mk, ByteArray.mk_append_mk]; simp only [List.append_assoc])
  simp only [Nb.S, h1, h2, h3, h4, h5] at HN1 HE1 HTX HN2 HEG
  obtain ⟨C2, e2⟩ : ∃ B, B1 ++ B2 = B := ⟨_, rfl⟩
  obtain ⟨C3, e3⟩ : ∃ B, C2 ++ B3 = B := ⟨_, rfl⟩
  obtain ⟨C4, e4⟩ : ∃ B, C3 ++ B4 = B := ⟨_, rfl⟩
  obtain ⟨C5, e5⟩ : ∃ B, C4 ++ B5 = B := ⟨_, rfl⟩
  have y2 : C2.size = B1.size + B2.size := by rw [← e2, ByteArray.size_append]
  have y3 : C3.size = C2.size + B3.size := by rw [← e3, ByteArray.size_append]
  have y4 : C4.size = C3.size + B4.size := by rw [← e4, ByteArray.size_append]
  rw [e2, e3, e4, e5] at HRES
  have q1 : ¬ (9223372036854775807 < B1.size + B2.size) := by omega
  have q2 : ¬ (9223372036854775807 < C2.size + B3.size) := by omega
  have q3 : ¬ (9223372036854775807 < C3.size + B4.size) := by omega
  have q4 : ¬ (9223372036854775807 < C4.size + B5.size) := by omega
  clear y2 y3 y4 z1 z2 z3 z4 z5
  clear l1 l2 ltx l3 l4 h1 h2 h3 h4 h5 hsz
  go_enter Tryd.func49, Tryd.ntmps49
  go_upto_region 1 with fail
  generalize w.alloc (.cells #[.int .i64 site, .int .i64 seq, .int .i64 1, .int .i64 es, .int .i64 eq, .int .i64 ei, .string text, .slice a n cap, .int .i64 of, .int .i64 num, .int .i64 gen] 36) = W0 at *
  have c0 := HX.out.c0
  have c1 := HX.out.c1
  have c2 := HX.out.c2
  simp only at c0 c1 c2
  go_upto_region 4 with (first
    | (go_at_call 79; refine (HN1.out _ _ (nums_new W0 [site, seq, 1] 3 #[.int .i64 site, .int .i64 seq, .int .i64 1] rfl)).mono ?_; rintro e w1 ⟨rfl, hb⟩; have hb' := ((Below.refl _ W0).alloc (Nat.le_refl _) (.cells #[.int .i64 site, .int .i64 seq, .int .i64 1] 3)).trans (hb.mono (by simp)); have HB1 := Lib.hid (HB.out.trans (hb'.mono HB.out.size)); have HX1 := Lib.hid (HX.out.step hb'); have HG1 := Lib.hid (HG.out.below hb'); clear hb hb' c0 c1 c2; have g2 := HX1.out.c2; simp only at g2)
    | fail)
  clear g2
  obtain ⟨bx, hbx⟩ : ∃ bx, w.heap.size = bx := ⟨_, rfl⟩
  rw [hbx] at HX1 ⊢
  have HSR := Lib.hid (fun wx (hb : Below w1.heap.size w1 wx) => (by
    have h := HX1.out.step hb
    have c3 := h.c3
    have c4 := h.c4
    have c5 := h.c5
    have c6 := h.c6
    have c7 := h.c7
    simp only [HGL.out] at c3 c4 c5 c6 c7
    exact ⟨c3, c4, c5, c6, c7⟩ : wx.cell? ⟨bx, 3, none⟩ = some (.int .i64 es) ∧ wx.cell? ⟨bx, 4, none⟩ = some (.int .i64 eq) ∧ wx.cell? ⟨bx, 5, none⟩ = some (.int .i64 ei) ∧ wx.cell? ⟨bx, 6, none⟩ = some (.string text) ∧ wx.cell? ⟨bx, 7, none⟩ = some (.slice a n cap)))
  have hbz := Below.refl w1.heap.size w1
  clear HX HX1 HB HG
  go_region_held3 (fun wx => wx.cell? ⟨bx, 3, none⟩ = some (.int .i64 es) ∧ wx.cell? ⟨bx, 4, none⟩ = some (.int .i64 eq) ∧ wx.cell? ⟨bx, 5, none⟩ = some (.int .i64 ei) ∧ wx.cell? ⟨bx, 6, none⟩ = some (.string text) ∧ wx.cell? ⟨bx, 7, none⟩ = some (.slice a n cap)) (first | exact HSR.out _ (by first | with_reducible exact hb4 | with_reducible exact below_alx hb4 _ | with_reducible exact hb4.drew | with_reducible exact (below_alx hb4 _).drew | with_reducible exact below_alx (below_alx hb4 _) _ | with_reducible exact (below_alx (below_alx hb4 _) _).drew | with_reducible exact hb3 | with_reducible exact below_alx hb3 _ | with_reducible exact hb3.drew | with_reducible exact (below_alx hb3 _).drew | with_reducible exact below_alx (below_alx hb3 _) _ | with_reducible exact (below_alx (below_alx hb3 _) _).drew | with_reducible exact hb2 | with_reducible exact below_alx hb2 _ | with_reducible exact hb2.drew | with_reducible exact (below_alx hb2 _).drew | with_reducible exact below_alx (below_alx hb2 _) _ | with_reducible exact (below_alx (below_alx hb2 _) _).drew | with_reducible exact hb1 | with_reducible exact below_alx hb1 _ | with_reducible exact hb1.drew | with_reducible exact (below_alx hb1 _).drew | with_reducible exact below_alx (below_alx hb1 _) _ | with_reducible exact (below_alx (below_alx hb1 _) _).drew | with_reducible exact hbz | with_reducible exact below_alx hbz _ | with_reducible exact hbz.drew | with_reducible exact (below_alx hbz _).drew | with_reducible exact below_alx (below_alx hbz _) _ | with_reducible exact (below_alx (below_alx hbz _) _).drew) | fail) (first
    | (go_at_call 80; with_reducible refine (HEG.out _ (HG1.out.below (by first | with_reducible exact hb4 | with_reducible exact below_alx hb4 _ | with_reducible exact hb4.drew | with_reducible exact (below_alx hb4 _).drew | with_reducible exact below_alx (below_alx hb4 _) _ | with_reducible exact (below_alx (below_alx hb4 _) _).drew | with_reducible exact hb3 | with_reducible exact below_alx hb3 _ | with_reducible exact hb3.drew | with_reducible exact (below_alx hb3 _).drew | with_reducible exact below_alx (below_alx hb3 _) _ | with_reducible exact (below_alx (below_alx hb3 _) _).drew | with_reducible exact hb2 | with_reducible exact below_alx hb2 _ | with_reducible exact hb2.drew | with_reducible exact (below_alx hb2 _).drew | with_reducible exact below_alx (below_alx hb2 _) _ | with_reducible exact (below_alx (below_alx hb2 _) _).drew | with_reducible exact hb1 | with_reducible exact below_alx hb1 _ | with_reducible exact hb1.drew | with_reducible exact (below_alx hb1 _).drew | with_reducible exact below_alx (below_alx hb1 _) _ | with_reducible exact (below_alx (below_alx hb1 _) _).drew | with_reducible exact hbz | with_reducible exact below_alx hbz _ | with_reducible exact hbz.drew | with_reducible exact (below_alx hbz _).drew | with_reducible exact below_alx (below_alx hbz _) _ | with_reducible exact (below_alx (below_alx hbz _) _).drew))).mono ?_; rintro e w5 ⟨rfl, hs4⟩; have hb4 := below_next (w1 := w1) (by first | with_reducible exact hb4 | with_reducible exact below_alx hb4 _ | with_reducible exact hb4.drew | with_reducible exact (below_alx hb4 _).drew | with_reducible exact below_alx (below_alx hb4 _) _ | with_reducible exact (below_alx (below_alx hb4 _) _).drew | with_reducible exact hb3 | with_reducible exact below_alx hb3 _ | with_reducible exact hb3.drew | with_reducible exact (below_alx hb3 _).drew | with_reducible exact below_alx (below_alx hb3 _) _ | with_reducible exact (below_alx (below_alx hb3 _) _).drew | with_reducible exact hb2 | with_reducible exact below_alx hb2 _ | with_reducible exact hb2.drew | with_reducible exact (below_alx hb2 _).drew | with_reducible exact below_alx (below_alx hb2 _) _ | with_reducible exact (below_alx (below_alx hb2 _) _).drew | with_reducible exact hb1 | with_reducible exact below_alx hb1 _ | with_reducible exact hb1.drew | with_reducible exact (below_alx hb1 _).drew | with_reducible exact below_alx (below_alx hb1 _) _ | with_reducible exact (below_alx (below_alx hb1 _) _).drew | with_reducible exact hbz | with_reducible exact below_alx hbz _ | with_reducible exact hbz.drew | with_reducible exact (below_alx hbz _).drew | with_reducible exact below_alx (below_alx hbz _) _ | with_reducible exact (below_alx (below_alx hbz _) _).drew) hs4)
    | (go_at_call 80; with_reducible refine (HE1.out _ _ (by first | with_reducible exact (elems_newR _ es eq ei) | with_reducible exact (elems_newR _ es eq ei).below (below_dr _) | with_reducible exact (elems_newR _ es eq ei).below (below_al _ _) | with_reducible exact ((elems_newR _ es eq ei).below (below_al _ _)).below (below_dr _) | with_reducible exact (elems_two _ _ es eq ei) | with_reducible exact (elems_two _ _ es eq ei).below (below_dr _) | with_reducible exact (elems_two _ _ es eq ei).below (below_al _ _) | with_reducible exact ((elems_two _ _ es eq ei).below (below_al _ _)).below (below_dr _))).mono ?_; rintro e w2 ⟨rfl, hs1⟩; have hb1 := below_next (w1 := w1) (by first | with_reducible exact hb4 | with_reducible exact below_alx hb4 _ | with_reducible exact hb4.drew | with_reducible exact (below_alx hb4 _).drew | with_reducible exact below_alx (below_alx hb4 _) _ | with_reducible exact (below_alx (below_alx hb4 _) _).drew | with_reducible exact hb3 | with_reducible exact below_alx hb3 _ | with_reducible exact hb3.drew | with_reducible exact (below_alx hb3 _).drew | with_reducible exact below_alx (below_alx hb3 _) _ | with_reducible exact (below_alx (below_alx hb3 _) _).drew | with_reducible exact hb2 | with_reducible exact below_alx hb2 _ | with_reducible exact hb2.drew | with_reducible exact (below_alx hb2 _).drew | with_reducible exact below_alx (below_alx hb2 _) _ | with_reducible exact (below_alx (below_alx hb2 _) _).drew | with_reducible exact hb1 | with_reducible exact below_alx hb1 _ | with_reducible exact hb1.drew | with_reducible exact (below_alx hb1 _).drew | with_reducible exact below_alx (below_alx hb1 _) _ | with_reducible exact (below_alx (below_alx hb1 _) _).drew | with_reducible exact hbz | with_reducible exact below_alx hbz _ | with_reducible exact hbz.drew | with_reducible exact (below_alx hbz _).drew | with_reducible exact below_alx (below_alx hbz _) _ | with_reducible exact (below_alx (below_alx hbz _) _).drew) hs1)
    | (go_at_call 81; with_reducible refine (HTX.out _).mono ?_; rintro e w3 ⟨rfl, hs2⟩; have hb2 := below_next (w1 := w1) (by first | with_reducible exact hb4 | with_reducible exact below_alx hb4 _ | with_reducible exact hb4.drew | with_reducible exact (below_alx hb4 _).drew | with_reducible exact below_alx (below_alx hb4 _) _ | with_reducible exact (below_alx (below_alx hb4 _) _).drew | with_reducible exact hb3 | with_reducible exact below_alx hb3 _ | with_reducible exact hb3.drew | with_reducible exact (below_alx hb3 _).drew | with_reducible exact below_alx (below_alx hb3 _) _ | with_reducible exact (below_alx (below_alx hb3 _) _).drew | with_reducible exact hb2 | with_reducible exact below_alx hb2 _ | with_reducible exact hb2.drew | with_reducible exact (below_alx hb2 _).drew | with_reducible exact below_alx (below_alx hb2 _) _ | with_reducible exact (below_alx (below_alx hb2 _) _).drew | with_reducible exact hb1 | with_reducible exact below_alx hb1 _ | with_reducible exact hb1.drew | with_reducible exact (below_alx hb1 _).drew | with_reducible exact below_alx (below_alx hb1 _) _ | with_reducible exact (below_alx (below_alx hb1 _) _).drew | with_reducible exact hbz | with_reducible exact below_alx hbz _ | with_reducible exact hbz.drew | with_reducible exact (below_alx hbz _).drew | with_reducible exact below_alx (below_alx hbz _) _ | with_reducible exact (below_alx (below_alx hbz _) _).drew) hs2)
    | (go_at_call 79; with_reducible refine (HN2.out _ _ (by first | with_reducible exact (nums_one _ (n : Int)) | with_reducible exact ((nums_one _ (n : Int))).below hs2 | with_reducible exact (((nums_one _ (n : Int))).below hs1).below hs2 | with_reducible exact (nums_one _ (n : Int)).below (below_dr _) | with_reducible exact ((nums_one _ (n : Int)).below (below_dr _)).below hs2 | with_reducible exact (((nums_one _ (n : Int)).below (below_dr _)).below hs1).below hs2 | with_reducible exact (nums_one _ (n : Int)).below (below_al _ _) | with_reducible exact ((nums_one _ (n : Int)).below (below_al _ _)).below hs2 | with_reducible exact (((nums_one _ (n : Int)).below (below_al _ _)).below hs1).below hs2 | with_reducible exact ((nums_one _ (n : Int)).below (below_al _ _)).below (below_dr _) | with_reducible exact (((nums_one _ (n : Int)).below (below_al _ _)).below (below_dr _)).below hs2 | with_reducible exact ((((nums_one _ (n : Int)).below (below_al _ _)).below (below_dr _)).below hs1).below hs2 | with_reducible exact (nums_two _ _ (n : Int)) | with_reducible exact ((nums_two _ _ (n : Int))).below hs2 | with_reducible exact (((nums_two _ _ (n : Int))).below hs1).below hs2 | with_reducible exact (nums_two _ _ (n : Int)).below (below_dr _) | with_reducible exact ((nums_two _ _ (n : Int)).below (below_dr _)).below hs2 | with_reducible exact (((nums_two _ _ (n : Int)).below (below_dr _)).below hs1).below hs2 | with_reducible exact (nums_two _ _ (n : Int)).below (below_al _ _) | with_reducible exact ((nums_two _ _ (n : Int)).below (below_al _ _)).below hs2 | with_reducible exact (((nums_two _ _ (n : Int)).below (below_al _ _)).below hs1).below hs2 | with_reducible exact ((nums_two _ _ (n : Int)).below (below_al _ _)).below (below_dr _) | with_reducible exact (((nums_two _ _ (n : Int)).below (below_al _ _)).below (below_dr _)).below hs2 | with_reducible exact ((((nums_two _ _ (n : Int)).below (below_al _ _)).below (below_dr _)).below hs1).below hs2)).mono ?_; rintro e w4 ⟨rfl, hs3⟩; have hb3 := below_next (w1 := w1) (by first | with_reducible exact hb4 | with_reducible exact below_alx hb4 _ | with_reducible exact hb4.drew | with_reducible exact (below_alx hb4 _).drew | with_reducible exact below_alx (below_alx hb4 _) _ | with_reducible exact (below_alx (below_alx hb4 _) _).drew | with_reducible exact hb3 | with_reducible exact below_alx hb3 _ | with_reducible exact hb3.drew | with_reducible exact (below_alx hb3 _).drew | with_reducible exact below_alx (below_alx hb3 _) _ | with_reducible exact (below_alx (below_alx hb3 _) _).drew | with_reducible exact hb2 | with_reducible exact below_alx hb2 _ | with_reducible exact hb2.drew | with_reducible exact (below_alx hb2 _).drew | with_reducible exact below_alx (below_alx hb2 _) _ | with_reducible exact (below_alx (below_alx hb2 _) _).drew | with_reducible exact hb1 | with_reducible exact below_alx hb1 _ | with_reducible exact hb1.drew | with_reducible exact (below_alx hb1 _).drew | with_reducible exact below_alx (below_alx hb1 _) _ | with_reducible exact (below_alx (below_alx hb1 _) _).drew | with_reducible exact hbz | with_reducible exact below_alx hbz _ | with_reducible exact hbz.drew | with_reducible exact (below_alx hbz _).drew | with_reducible exact below_alx (below_alx hbz _) _ | with_reducible exact (below_alx (below_alx hbz _) _).drew) hs3)
    | fail)
  all_goals
    go_wp2
    go_ret
    exact ⟨by rw [← HRES.out]; rfl, HB1.out.trans (hb4.mono HB1.out.size)⟩
end Go.Proofs.YtnkinbobnhdpaaaDoor
