/- package pack: the reader's elems, op -/
import Derived.Test.YtnkinbobnhdpaaaDoorKRead
import Derived.Test.YtnkinbobnhdpaaaDoorOCopy
import Derived.Deep.DeepCutAuto
import Derived.Deep.CutBlock
namespace Go.Proofs.YtnkinbobnhdpaaaDoor
open Go.RowKit Go.Lib

def RdEls (b : Nat) (L : List El) (st' : St) (w : World) (e : Ending) (w' : World) : Prop := ∃ a cap, e = .returned (.slice a L.length cap) ∧ w'.ownsRow w.heap.size 34 3 (.slice a L.length cap) L.length (ecs L) ∧ RdAt w' b st' ∧ Kb b w w'

set_option maxRecDepth 100000 in
set_option maxHeartbeats 2000000 in
theorem rdElems_any (b : Nat) (st : St) (w : World) (h : RdAt w b st) (hs : StLe TOP st) : Calls Tryd.prog 87 #[.pointer (some ⟨b, 0, none⟩)] w (RdEls b (rdEs (rdN 200 st).1.toNat (rdN 200 st).2).1 (rdEs (rdN 200 st).1.toNat (rdN 200 st).2).2 w) := by
  obtain ⟨i0, hi, hz0, hz1, hz2⟩ := info_parts Tryd.infoElem
  have hlt := Lib.hid h.lt
  have HC := Lib.hid (rdCnt_any b 200 st w h hs)
  have hr := rdN_range 200 (by decide) st
  have HS := Lib.hid (rdN_le (m := 200) hs)
  have HE := Lib.hid (fun (s : St) (wx : World) (hx : RdAt wx b s) (hl : StLe TOP s) => rdElem_any b s wx hx hl)
  clear h hs
  generalize rdN 200 st = r at *
  obtain ⟨n, st2⟩ := r
  obtain ⟨h0, h1⟩ := hr
  simp only at HC HS h0 h1 ⊢
  obtain ⟨m, rfl⟩ := Int.eq_ofNat_of_zero_le h0
  rw [Int.toNat_natCast]
  have HLN := Lib.hid (rdEs_len st2)
  clear h0
  go_enter Tryd.func87, Tryd.ntmps87
  go_wp2_with (first | (go_at_call 95; refine HC.out.mono ?_; rintro e w1 ⟨rfl, hx1, hk1⟩; have HX1 := Lib.hid hx1; have HK1 := Lib.hid hk1; clear hx1 hk1) | fail)
  go_loopw [3, 6] (fun v i wr => ∃ k : Nat, k ≤ m ∧ i = .int .i64 k ∧ wr.ownsRow w.heap.size 34 3 v k (ecs (rdEs k st2).1) ∧ RdAt wr b (rdEs k st2).2 ∧ Kb b w wr) (fun _ i _ => m - (RowKit.intOf i).toNat)
  case atStart => exact ⟨0, Nat.zero_le _, rfl, World.ownsRow_nil _ _ _ _, HX1.out, HK1.out⟩
  case round =>
    obtain ⟨k, hk, rfl, hown, hx, hkb⟩ := hrel
    have HO := Lib.hid hown
    have HX := Lib.hid hx
    have HKB := Lib.hid hkb
    clear hown hx hkb
    by_cases hlk : k < m
    · have hE := HE.out _ _ HX.out (rdEs_le HS.out k)
      have HT := Lib.hid (show rdEs (k + 1) st2 = ((rdEs k st2).1 ++ [(rdE (rdEs k st2).2).1], (rdE (rdEs k st2).2).2) from rfl)
      unfold RdEl El.v at hE
      generalize rdE (rdEs k st2).2 = x at *
      obtain ⟨⟨es, eq, ei⟩, st3⟩ := x
      simp only at hE
      have HEE := Lib.hid hE
      clear hE
      have c2 : k + 1 ≤ maxLen := by unfold maxLen; omega
      have c3 : (k + 1) * 24 ≤ 140737488355328 := by omega
      have HC2 := Lib.hid c2
      have HC3 := Lib.hid c3
      clear c2 c3
      go_wp2_with (first
        | (go_at_call 85; refine HEE.out.mono ?_; rintro e w2 ⟨rfl, hx2, hk2⟩; have HX2 := Lib.hid hx2; have HK2 := Lib.hid (HKB.out.trans hk2); have HO2 := Lib.hid (hk2.owns HO.out hlt.out); clear hx2 hk2)
        | (at_builtin; refine wpList_append_own _ rfl _ _ 23 rfl w.heap.size 34 i0 (.agg #[.int .i64 0, .int .i64 0, .int .i64 0]) 3 24 Tryd.underlying23 hi hz0 hz1 hz2 rfl (by decide) _ _ _ rfl (HO2.out.alloc _) ⟨w2.heap.size, 0, none⟩ 1 1 (El.cs ⟨es, eq, ei⟩) rfl rfl (cell_three_new _ ⟨es, eq, ei⟩ _) (cs_one ⟨es, eq, ei⟩) HC2.out HC3.out (by have := HK2.out.size; simp; omega) ?_; intro v3 w3 hown3 hgrow3 _; have HB3 := Lib.hid (((Below.refl w.heap.size w2).alloc HK2.out.size _).grown hgrow3 (by have := HK2.out.size; simp; omega) (own_ge HO2.out)); have HO3 := Lib.hid hown3; clear hown3 hgrow3)
        | fail)
      go_roundw
      case rel => exact ⟨k + 1, by omega, by go_num, by rw [HT.out, ecs_append]; have e1 : ecs [⟨es, eq, ei⟩] = El.cs ⟨es, eq, ei⟩ := (by simp [ecs]); rw [e1]; exact HO3.out, by rw [HT.out]; exact HX2.out.belowB HB3.out hlt.out, HK2.out.below HB3.out⟩
      case measure => simp [RowKit.intOf]; omega
    · have hkm : k = m := by omega
      have hlk2 : decide (k < m) = false := decide_eq_false hlk
      have h9 : wr.ownsRow w.heap.size 34 3 u3 m (ecs (rdEs m st2).1) := hkm ▸ HO.out
      have HX9 := Lib.hid (show RdAt wr b (rdEs m st2).2 from hkm ▸ HX.out)
      have HO9 := Lib.hid h9
      obtain ⟨a9, c9, hv9, _⟩ := elems_own (by rw [HLN.out m]; exact h9)
      rw [HLN.out m] at hv9
      subst hv9
      clear h9 hkm HX HO hlk2
      go_wp2
      go_ret
      exact ⟨a9, c9, by rw [HLN.out m]; rfl, by rw [HLN.out m]; exact HO9.out, HX9.out, HKB.out⟩

/-- an op that was read: what it takes away in new memory -/
def RdOpP (b : Nat) (o : OpD) (st' : St) (w : World) (e : Ending) (w' : World) : Prop := ∃ a cap, e = .returned (o.v a cap) ∧ w'.ownsRow w.heap.size 34 3 (.slice a o.gone.length cap) o.gone.length (ecs o.gone) ∧ RdAt w' b st' ∧ Kb b w w'

theorem rdOp_1 {st : St} {s q k : Int} {st1 st2 st3 : St} {e : El} {t : ByteArray} {n : Int} {st4 : St} (h3 : rd3 st = ((s, q, k), st1)) (hk : k = 1) (he : rdE st1 = (e, st2)) (ht : rdT st2 = (t, st3)) (hn : rdN 200 st3 = (n, st4)) : rdOp st = (⟨s, q, k, e, t, (rdEs n.toNat st4).1, 0, 0, 0⟩, (rdEs n.toNat st4).2) := by
  unfold rdOp
  simp only [h3]
  rw [if_pos hk]
  simp only [he, ht, hn]
theorem rdOp_2 {st : St} {s q k x y z : Int} {st1 st2 : St} (h3 : rd3 st = ((s, q, k), st1)) (hk : k = 2) (he : rd3 st1 = ((x, y, z), st2)) : rdOp st = (⟨s, q, k, ⟨0, 0, 0⟩, ⟨#[]⟩, [], x, y, z⟩, st2) := by
  unfold rdOp
  simp only [h3]
  rw [if_neg (by omega), if_pos hk]
  simp only [he]
theorem rdOp_0 {st : St} {s q k : Int} {st1 : St} (h3 : rd3 st = ((s, q, k), st1)) (h1 : ¬ k = 1) (h2 : ¬ k = 2) : rdOp st = (⟨s, q, k, ⟨0, 0, 0⟩, ⟨#[]⟩, [], 0, 0, 0⟩, st1) := by
  unfold rdOp
  simp only [h3]
  rw [if_neg h1, if_neg h2]

set_option maxRecDepth 100000 in
set_option maxHeartbeats 4000000 in
theorem rdOp_any (b : Nat) (st : St) (w : World) (h : RdAt w b st) (hs : StLe TOP st) : Calls Tryd.prog 61 #[.pointer (some ⟨b, 0, none⟩)] w (RdOpP b (rdOp st).1 (rdOp st).2 w) := by
  have hlt := h.lt
  have HN := Lib.hid (fun (s : St) (wx : World) (hx : RdAt wx b s) (hl : StLe TOP s) => rdNum_any b s wx hx hl)
  have HEL := Lib.hid (fun (s : St) (wx : World) (hx : RdAt wx b s) (hl : StLe TOP s) => rdElem_any b s wx hx hl)
  have HTX := Lib.hid (fun (s : St) (wx : World) (hx : RdAt wx b s) (hl : StLe TOP s) => rdTxt_any b s wx hx hl)
  have HES := Lib.hid (fun (s : St) (wx : World) (hx : RdAt wx b s) (hl : StLe TOP s) => rdElems_any b s wx hx hl)
  have HS1 := Lib.hid hs
  have HS2 := Lib.hid (rd_le hs)
  have HS3 := Lib.hid (rd_le (rd_le hs))
  have HS4 := Lib.hid (rd3_le hs)
  have HR0 := Lib.hid (@rdOp_0 st (rd st).1 (rd (rd st).2).1 (rd (rd (rd st).2).2).1 (rd (rd (rd st).2).2).2 rfl)
  have HR1 := Lib.hid (fun e st2 t st3 n st4 => @rdOp_1 st (rd st).1 (rd (rd st).2).1 (rd (rd (rd st).2).2).1 (rd (rd (rd st).2).2).2 st2 st3 e t n st4 rfl)
  have HR2 := Lib.hid (fun x y z st2 => @rdOp_2 st (rd st).1 (rd (rd st).2).1 (rd (rd (rd st).2).2).1 x y z (rd (rd (rd st).2).2).2 st2 rfl)
  unfold rd3 at HS4
  simp only at HS4
  generalize rdOp st = R at *
  have HNE := Lib.hid (show w.heap.size ≠ b by omega)
  have HLT := Lib.hid hlt
  obtain ⟨w0, hw0⟩ : ∃ w0, w.alloc (OpD.obj ⟨0, 0, 0, ⟨0, 0, 0⟩, ⟨#[]⟩, [], 0, 0, 0⟩ none 0) = w0 := ⟨_, rfl⟩
  have HX := Lib.hid (show RdAt w0 b st from hw0 ▸ h.alloc _)
  have HK := Lib.hid (show Kb b w w0 from hw0 ▸ (Kb.refl b w).alloc _)
  have HBX := Lib.hid (show Hp 36 w0 w.heap.size (opA ⟨0, 0, 0, ⟨0, 0, 0⟩, ⟨#[]⟩, [], 0, 0, 0⟩ none 0 0) from hw0 ▸ Hp.new w _ _)
  unfold OpD.obj at hw0
  simp only [List.length_nil] at hw0
  clear h hs hlt
  go_enter Tryd.func61, Tryd.ntmps61
  go_wp2_with fail
  clear hw0
  obtain ⟨s, hs_⟩ : ∃ s, (rd st).1 = s := ⟨_, rfl⟩
  obtain ⟨q, hq_⟩ : ∃ s, (rd (rd st).2).1 = s := ⟨_, rfl⟩
  obtain ⟨k, hk_⟩ : ∃ s, (rd (rd (rd st).2).2).1 = s := ⟨_, rfl⟩
  obtain ⟨st1, hst1⟩ : ∃ s, (rd (rd (rd st).2).2).2 = s := ⟨_, rfl⟩
  have HN1 := Lib.hid (fun wx hx => HN.out st wx hx HS1.out)
  have HN2 := Lib.hid (fun wx hx => HN.out (rd st).2 wx hx HS2.out)
  have HN3 := Lib.hid (fun wx hx => HN.out (rd (rd st).2).2 wx hx HS3.out)
  rw [hs_] at HN1 HR0 HR1 HR2
  rw [hq_] at HN2 HR0 HR1 HR2
  rw [hk_, hst1] at HN3
  rw [hk_, hst1] at HR0 HR1 HR2
  rw [hst1] at HS4
  generalize (rd st).2 = sta at *
  generalize (rd sta).2 = stb at *
  clear hs_ hq_ hk_ hst1
  go_upto_region 2 with (first
    | (go_at_call 84; refine (HN3.out _ HX3.out).mono ?_; rintro e w3 ⟨rfl, hx, hk⟩; have HX4 := Lib.hid hx; have HK4 := Lib.hid (HK3.out.trans hk); clear hx hk)
    | (go_at_call 84; refine (HN2.out _ HX2.out).mono ?_; rintro e w2 ⟨rfl, hx, hk⟩; have HX3 := Lib.hid hx; have HK3 := Lib.hid (HK2.out.trans hk); clear hx hk)
    | (go_at_call 84; refine (HN1.out _ HX.out).mono ?_; rintro e w1 ⟨rfl, hx, hk⟩; have HX2 := Lib.hid hx; have HK2 := Lib.hid hk; clear hx hk)
    | fail)
  have HBo := Lib.hid (show Hp 36 (w3.alloc (.cells #[.int .i64 s, .int .i64 q, .int .i64 k, .int .i64 0, .int .i64 0, .int .i64 0, .string ⟨#[]⟩, .slice none 0 0, .int .i64 0, .int .i64 0, .int .i64 0] 36)) w3.heap.size (opA ⟨s, q, k, ⟨0, 0, 0⟩, ⟨#[]⟩, [], 0, 0, 0⟩ none 0 0) from Hp.new w3 _ _)
  have HX5 := Lib.hid (HX4.out.alloc (.cells #[.int .i64 s, .int .i64 q, .int .i64 k, .int .i64 0, .int .i64 0, .int .i64 0, .string ⟨#[]⟩, .slice none 0 0, .int .i64 0, .int .i64 0, .int .i64 0] 36))
  have HK5 := Lib.hid (HK4.out.alloc (.cells #[.int .i64 s, .int .i64 q, .int .i64 k, .int .i64 0, .int .i64 0, .int .i64 0, .string ⟨#[]⟩, .slice none 0 0, .int .i64 0, .int .i64 0, .int .i64 0] 36))
  have HZ3 := Lib.hid (show w.heap.size < w3.heap.size from Nat.lt_of_lt_of_le HBX.out.lt HK4.out.size)
  have HNo := Lib.hid (show w3.heap.size ≠ b from by have h1 := HLT.out; have h2 := HZ3.out; omega)
  generalize w3.alloc (.cells #[.int .i64 s, .int .i64 q, .int .i64 k, .int .i64 0, .int .i64 0, .int .i64 0, .string ⟨#[]⟩, .slice none 0 0, .int .i64 0, .int .i64 0, .int .i64 0] 36) = W5 at *
  obtain ⟨bo, hbo⟩ : ∃ bo, w3.heap.size = bo := ⟨_, rfl⟩
  rw [hbo] at HBo HZ3 HNo ⊢
  clear hbo HX2 HX3 HX4 HK2 HK3 HK4 HN1 HN2 HN3

  by_cases hk1 : k = 1
  · subst hk1
    obtain ⟨e, st2, he⟩ : ∃ e s, rdE st1 = (e, s) := ⟨_, _, rfl⟩
    obtain ⟨t, st3, ht⟩ : ∃ e s, rdT st2 = (e, s) := ⟨_, _, rfl⟩
    obtain ⟨n, st4, hn⟩ : ∃ e s, rdN 200 st3 = (e, s) := ⟨_, _, rfl⟩
    have HR := Lib.hid (HR1.out _ _ _ _ _ _ rfl he ht hn)
    have hs2 : StLe TOP st2 := by have := rdE_le HS4.out; rw [he] at this; exact this
    have hs3 : StLe TOP st3 := by have := rdT_le hs2; rw [ht] at this; exact this
    have H1 := HEL.out st1 _ HX5.out HS4.out
    rw [he] at H1
    have H2 := fun wx hx => HTX.out st2 wx hx hs2
    rw [ht] at H2
    have H3 := fun wx hx => HES.out st3 wx hx hs3
    rw [hn] at H3
    generalize rdEs n.toNat st4 = g at *
    obtain ⟨g, st5⟩ := g
    obtain ⟨es, eq, ei⟩ := e
    unfold RdEl El.v at H1
    simp only at H1 H2 H3 HR
    have HC1 := Lib.hid H1
    have HC2 := Lib.hid H2
    have HC3 := Lib.hid H3
    clear H1 H2 H3 he ht hn hs2 hs3 HR0 HR1 HR2 HN HEL HTX HES HS1 HS2 HS3 HS4
    have o2 : W5.cell? ⟨bo, 2, none⟩ = some (.int .i64 1) := HBo.out.cell 2 rfl
    go_upto_region 7 with (first
      | (go_at_call 85; refine HC1.out.mono ?_; rintro e w6 ⟨rfl, hx, hk⟩; have HX6 := Lib.hid hx; have HK6 := Lib.hid hk; clear hx hk)
      | (go_at_call 86; refine (HC2.out _ HX6.out).mono ?_; rintro e w7 ⟨rfl, hx, hk⟩; have HX7 := Lib.hid hx; have HK7 := Lib.hid (HK6.out.trans hk); clear hx hk)
      | (go_at_call 87; refine (HC3.out _ HX7.out).mono ?_; rintro e w8 ⟨ag, cg, rfl, hown, hx, hk⟩; have HX8 := Lib.hid hx; have HK8 := Lib.hid (HK7.out.trans hk); have HK9 := Lib.hid (HK5.out.trans HK8.out); have HZ7 := Lib.hid (HK7.out.size); have HOW := Lib.hid hown; clear hx hk hown o2; have HB8 := Lib.hid (HBo.out.kb HK8.out HNo.out); have c3 : w8.cell? ⟨bo, 3, none⟩ = some (.int .i64 0) := HB8.out.cell 3 rfl; have c4 : w8.cell? ⟨bo, 4, none⟩ = some (.int .i64 0) := HB8.out.cell 4 rfl; have c5 : w8.cell? ⟨bo, 5, none⟩ = some (.int .i64 0) := HB8.out.cell 5 rfl; have c6 : w8.cell? ⟨bo, 6, none⟩ = some (.string ⟨#[]⟩) := HB8.out.cell 6 rfl; have c7 : w8.cell? ⟨bo, 7, none⟩ = some (.slice none 0 0) := HB8.out.cell 7 rfl; have f3 := HB8.out.fr 3; have f4 := HB8.out.fr 4; have f5 := HB8.out.fr 5; have f6 := HB8.out.fr 6; have f7 := HB8.out.fr 7)
      | fail)
    have HD := Lib.hid ((((((HBX.out.kb HK9.out HNE.out).far (Nat.ne_of_lt HZ3.out) (c := 3) (.int .i64 es)).far (Nat.ne_of_lt HZ3.out) (c := 4) (.int .i64 eq)).far (Nat.ne_of_lt HZ3.out) (c := 5) (.int .i64 ei)).far (Nat.ne_of_lt HZ3.out) (c := 6) (.string t)).far (Nat.ne_of_lt HZ3.out) (c := 7) (.slice ag g.length cg))
    have HA := Lib.hid (show Hp 36 (((((w8.setCell ⟨bo, 3, none⟩ (.int .i64 es)).setCell ⟨bo, 4, none⟩ (.int .i64 eq)).setCell ⟨bo, 5, none⟩ (.int .i64 ei)).setCell ⟨bo, 6, none⟩ (.string t)).setCell ⟨bo, 7, none⟩ (.slice ag g.length cg)) bo (opA ⟨s, q, 1, ⟨es, eq, ei⟩, t, g, 0, 0, 0⟩ ag g.length cg) from (((((HB8.out).set 3 (.int .i64 es)).set 4 (.int .i64 eq)).set 5 (.int .i64 ei)).set 6 (.string t)).set 7 (.slice ag g.length cg))
    have HXW := Lib.hid ((((((HX8.out).far HNo.out.symm (c := 3) (.int .i64 es)).far HNo.out.symm (c := 4) (.int .i64 eq)).far HNo.out.symm (c := 5) (.int .i64 ei)).far HNo.out.symm (c := 6) (.string t)).far HNo.out.symm (c := 7) (.slice ag g.length cg))
    have HKW := Lib.hid (((((((HK.out.trans HK9.out)).far (p := ⟨bo, 3, none⟩) (Nat.le_of_lt HZ3.out) (.int .i64 es)).far (p := ⟨bo, 4, none⟩) (Nat.le_of_lt HZ3.out) (.int .i64 eq)).far (p := ⟨bo, 5, none⟩) (Nat.le_of_lt HZ3.out) (.int .i64 ei)).far (p := ⟨bo, 6, none⟩) (Nat.le_of_lt HZ3.out) (.string t)).far (p := ⟨bo, 7, none⟩) (Nat.le_of_lt HZ3.out) (.slice ag g.length cg))
    have HOW9 := Lib.hid (show World.ownsRow (((((w8.setCell ⟨bo, 3, none⟩ (.int .i64 es)).setCell ⟨bo, 4, none⟩ (.int .i64 eq)).setCell ⟨bo, 5, none⟩ (.int .i64 ei)).setCell ⟨bo, 6, none⟩ (.string t)).setCell ⟨bo, 7, none⟩ (.slice ag g.length cg)) (bo + 1) 34 3 (.slice ag g.length cg) g.length (ecs g) from by
      iterate 5 refine ownsRow_setCell_below ?_ (Nat.lt_succ_self bo) _
      exact owns_base HOW.out (Nat.le_trans (Nat.succ_le_of_lt HBo.out.lt) HZ7.out))
    have hzb := HZ3.out
    try clear c3 c4 c5 c6 c7 f3 f4 f5 f6 f7
    try clear o2
    try clear y8 y9 ya f8 f9 fa
    generalize (((((w8.setCell ⟨bo, 3, none⟩ (.int .i64 es)).setCell ⟨bo, 4, none⟩ (.int .i64 eq)).setCell ⟨bo, 5, none⟩ (.int .i64 ei)).setCell ⟨bo, 6, none⟩ (.string t)).setCell ⟨bo, 7, none⟩ (.slice ag g.length cg)) = W9 at *
    have e0 : W9.cell? ⟨bo, 0, none⟩ = some (.int .i64 s) := HA.out.cell 0 rfl
    have e1 : W9.cell? ⟨bo, 1, none⟩ = some (.int .i64 q) := HA.out.cell 1 rfl
    have e2 : W9.cell? ⟨bo, 2, none⟩ = some (.int .i64 1) := HA.out.cell 2 rfl
    have e3 : W9.cell? ⟨bo, 3, none⟩ = some (.int .i64 es) := HA.out.cell 3 rfl
    have e4 : W9.cell? ⟨bo, 4, none⟩ = some (.int .i64 eq) := HA.out.cell 4 rfl
    have e5 : W9.cell? ⟨bo, 5, none⟩ = some (.int .i64 ei) := HA.out.cell 5 rfl
    have e6 : W9.cell? ⟨bo, 6, none⟩ = some (.string t) := HA.out.cell 6 rfl
    have e7 : W9.cell? ⟨bo, 7, none⟩ = some (.slice ag g.length cg) := HA.out.cell 7 rfl
    have e8 : W9.cell? ⟨bo, 8, none⟩ = some (.int .i64 0) := HA.out.cell 8 rfl
    have e9 : W9.cell? ⟨bo, 9, none⟩ = some (.int .i64 0) := HA.out.cell 9 rfl
    have ea : W9.cell? ⟨bo, 10, none⟩ = some (.int .i64 0) := HA.out.cell 10 rfl
    have d0 : W9.cell? ⟨w.heap.size, 0, none⟩ = some (.int .i64 0) := HD.out.cell 0 rfl
    have d1 : W9.cell? ⟨w.heap.size, 1, none⟩ = some (.int .i64 0) := HD.out.cell 1 rfl
    have d2 : W9.cell? ⟨w.heap.size, 2, none⟩ = some (.int .i64 0) := HD.out.cell 2 rfl
    have d3 : W9.cell? ⟨w.heap.size, 3, none⟩ = some (.int .i64 0) := HD.out.cell 3 rfl
    have d4 : W9.cell? ⟨w.heap.size, 4, none⟩ = some (.int .i64 0) := HD.out.cell 4 rfl
    have d5 : W9.cell? ⟨w.heap.size, 5, none⟩ = some (.int .i64 0) := HD.out.cell 5 rfl
    have d6 : W9.cell? ⟨w.heap.size, 6, none⟩ = some (.string ⟨#[]⟩) := HD.out.cell 6 rfl
    have d7 : W9.cell? ⟨w.heap.size, 7, none⟩ = some (.slice none 0 0) := HD.out.cell 7 rfl
    have d8 : W9.cell? ⟨w.heap.size, 8, none⟩ = some (.int .i64 0) := HD.out.cell 8 rfl
    have d9 : W9.cell? ⟨w.heap.size, 9, none⟩ = some (.int .i64 0) := HD.out.cell 9 rfl
    have da : W9.cell? ⟨w.heap.size, 10, none⟩ = some (.int .i64 0) := HD.out.cell 10 rfl
    have hfd := fun o => HD.out.fr o
    go_wp2_with fail
    refine bodyPost_ret (v := .agg #[.int .i64 s, .int .i64 q, .int .i64 1, .int .i64 es, .int .i64 eq, .int .i64 ei, .string t, .slice ag g.length cg, .int .i64 0, .int .i64 0, .int .i64 0]) (by simp [results, Tryd.results61, go_sem, d0, d1, d2, d3, d4, d5, d6, d7, d8, d9, da]) rfl ⟨ag, cg, by rw [HR.out]; rfl, ?_, ?_, ?_⟩
    · rw [HR.out]
      refine owns_base (b := bo + 1) ?_ (Nat.le_succ_of_le (Nat.le_of_lt hzb))
      iterate 11 refine ownsRow_setCell_below ?_ (Nat.lt_succ_of_lt hzb) _
      exact HOW9.out
    · rw [HR.out]
      iterate 11 refine RdAt.far ?_ HNE.out.symm _
      exact HXW.out
    · iterate 11 refine Kb.far ?_ (Nat.le_refl _) _
      exact HKW.out
  by_cases hk2 : k = 2
  · subst hk2
    obtain ⟨x, sa, hxa⟩ : ∃ e s, rd st1 = (e, s) := ⟨_, _, rfl⟩
    obtain ⟨y, sb, hyb⟩ : ∃ e s, rd sa = (e, s) := ⟨_, _, rfl⟩
    obtain ⟨z, st5, hzc⟩ : ∃ e s, rd sb = (e, s) := ⟨_, _, rfl⟩
    have h3 : rd3 st1 = ((x, y, z), st5) := by unfold rd3; simp only [hxa, hyb, hzc]
    have HR := Lib.hid (HR2.out _ _ _ _ rfl h3)
    have hs2 : StLe TOP sa := by have := rd_le HS4.out; rw [hxa] at this; exact this
    have hs3 : StLe TOP sb := by have := rd_le hs2; rw [hyb] at this; exact this
    have H1 := HN.out st1 _ HX5.out HS4.out
    rw [hxa] at H1
    have H2 := fun wx hx => HN.out sa wx hx hs2
    rw [hyb] at H2
    have H3 := fun wx hx => HN.out sb wx hx hs3
    rw [hzc] at H3
    simp only at H1 H2 H3 HR
    have HC1 := Lib.hid H1
    have HC2 := Lib.hid H2
    have HC3 := Lib.hid H3
    clear H1 H2 H3 hxa hyb hzc h3 hs2 hs3 HR0 HR1 HR2 HN HEL HTX HES HS1 HS2 HS3 HS4
    have o2 : W5.cell? ⟨bo, 2, none⟩ = some (.int .i64 2) := HBo.out.cell 2 rfl
    go_upto_region 7 with (first
      | (go_at_call 84; refine (HC3.out _ HX7.out).mono ?_; rintro e w8 ⟨rfl, hx, hk⟩; have HX8 := Lib.hid hx; have HK8 := Lib.hid (HK7.out.trans hk); clear hx hk; have HK9 := Lib.hid (HK5.out.trans HK8.out); have HB8 := Lib.hid (HBo.out.kb HK8.out HNo.out); have y8 : w8.cell? ⟨bo, 8, none⟩ = some (.int .i64 0) := HB8.out.cell 8 rfl; have y9 : w8.cell? ⟨bo, 9, none⟩ = some (.int .i64 0) := HB8.out.cell 9 rfl; have ya : w8.cell? ⟨bo, 10, none⟩ = some (.int .i64 0) := HB8.out.cell 10 rfl; have f8 := HB8.out.fr 8; have f9 := HB8.out.fr 9; have fa := HB8.out.fr 10)
      | (go_at_call 84; refine (HC2.out _ HX6.out).mono ?_; rintro e w7 ⟨rfl, hx, hk⟩; have HX7 := Lib.hid hx; have HK7 := Lib.hid (HK6.out.trans hk); clear hx hk)
      | (go_at_call 84; refine HC1.out.mono ?_; rintro e w6 ⟨rfl, hx, hk⟩; have HX6 := Lib.hid hx; have HK6 := Lib.hid (hk); clear hx hk)
      | fail)
    have HD := Lib.hid ((((HBX.out.kb HK9.out HNE.out).far (Nat.ne_of_lt HZ3.out) (c := 8) (.int .i64 x)).far (Nat.ne_of_lt HZ3.out) (c := 9) (.int .i64 y)).far (Nat.ne_of_lt HZ3.out) (c := 10) (.int .i64 z))
    have HA := Lib.hid (show Hp 36 (((w8.setCell ⟨bo, 8, none⟩ (.int .i64 x)).setCell ⟨bo, 9, none⟩ (.int .i64 y)).setCell ⟨bo, 10, none⟩ (.int .i64 z)) bo (opA ⟨s, q, 2, ⟨0, 0, 0⟩, ⟨#[]⟩, [], x, y, z⟩ none 0 0) from (((HB8.out).set 8 (.int .i64 x)).set 9 (.int .i64 y)).set 10 (.int .i64 z))
    have HXW := Lib.hid ((((HX8.out).far HNo.out.symm (c := 8) (.int .i64 x)).far HNo.out.symm (c := 9) (.int .i64 y)).far HNo.out.symm (c := 10) (.int .i64 z))
    have HKW := Lib.hid (((((HK.out.trans HK9.out)).far (p := ⟨bo, 8, none⟩) (Nat.le_of_lt HZ3.out) (.int .i64 x)).far (p := ⟨bo, 9, none⟩) (Nat.le_of_lt HZ3.out) (.int .i64 y)).far (p := ⟨bo, 10, none⟩) (Nat.le_of_lt HZ3.out) (.int .i64 z))
    have hzb := HZ3.out
    try clear c3 c4 c5 c6 c7 f3 f4 f5 f6 f7
    try clear o2
    try clear y8 y9 ya f8 f9 fa
    generalize (((w8.setCell ⟨bo, 8, none⟩ (.int .i64 x)).setCell ⟨bo, 9, none⟩ (.int .i64 y)).setCell ⟨bo, 10, none⟩ (.int .i64 z)) = W9 at *
    have e0 : W9.cell? ⟨bo, 0, none⟩ = some (.int .i64 s) := HA.out.cell 0 rfl
    have e1 : W9.cell? ⟨bo, 1, none⟩ = some (.int .i64 q) := HA.out.cell 1 rfl
    have e2 : W9.cell? ⟨bo, 2, none⟩ = some (.int .i64 2) := HA.out.cell 2 rfl
    have e3 : W9.cell? ⟨bo, 3, none⟩ = some (.int .i64 0) := HA.out.cell 3 rfl
    have e4 : W9.cell? ⟨bo, 4, none⟩ = some (.int .i64 0) := HA.out.cell 4 rfl
    have e5 : W9.cell? ⟨bo, 5, none⟩ = some (.int .i64 0) := HA.out.cell 5 rfl
    have e6 : W9.cell? ⟨bo, 6, none⟩ = some (.string ⟨#[]⟩) := HA.out.cell 6 rfl
    have e7 : W9.cell? ⟨bo, 7, none⟩ = some (.slice none 0 0) := HA.out.cell 7 rfl
    have e8 : W9.cell? ⟨bo, 8, none⟩ = some (.int .i64 x) := HA.out.cell 8 rfl
    have e9 : W9.cell? ⟨bo, 9, none⟩ = some (.int .i64 y) := HA.out.cell 9 rfl
    have ea : W9.cell? ⟨bo, 10, none⟩ = some (.int .i64 z) := HA.out.cell 10 rfl
    have d0 : W9.cell? ⟨w.heap.size, 0, none⟩ = some (.int .i64 0) := HD.out.cell 0 rfl
    have d1 : W9.cell? ⟨w.heap.size, 1, none⟩ = some (.int .i64 0) := HD.out.cell 1 rfl
    have d2 : W9.cell? ⟨w.heap.size, 2, none⟩ = some (.int .i64 0) := HD.out.cell 2 rfl
    have d3 : W9.cell? ⟨w.heap.size, 3, none⟩ = some (.int .i64 0) := HD.out.cell 3 rfl
    have d4 : W9.cell? ⟨w.heap.size, 4, none⟩ = some (.int .i64 0) := HD.out.cell 4 rfl
    have d5 : W9.cell? ⟨w.heap.size, 5, none⟩ = some (.int .i64 0) := HD.out.cell 5 rfl
    have d6 : W9.cell? ⟨w.heap.size, 6, none⟩ = some (.string ⟨#[]⟩) := HD.out.cell 6 rfl
    have d7 : W9.cell? ⟨w.heap.size, 7, none⟩ = some (.slice none 0 0) := HD.out.cell 7 rfl
    have d8 : W9.cell? ⟨w.heap.size, 8, none⟩ = some (.int .i64 0) := HD.out.cell 8 rfl
    have d9 : W9.cell? ⟨w.heap.size, 9, none⟩ = some (.int .i64 0) := HD.out.cell 9 rfl
    have da : W9.cell? ⟨w.heap.size, 10, none⟩ = some (.int .i64 0) := HD.out.cell 10 rfl
    have hfd := fun o => HD.out.fr o
    go_wp2_with fail
    refine bodyPost_ret (v := .agg #[.int .i64 s, .int .i64 q, .int .i64 2, .int .i64 0, .int .i64 0, .int .i64 0, .string ⟨#[]⟩, .slice none 0 0, .int .i64 x, .int .i64 y, .int .i64 z]) (by simp [results, Tryd.results61, go_sem, d0, d1, d2, d3, d4, d5, d6, d7, d8, d9, da]) rfl ⟨none, 0, by rw [HR.out]; rfl, ?_, ?_, ?_⟩
    · rw [HR.out]
      refine owns_base (b := bo + 1) ?_ (Nat.le_succ_of_le (Nat.le_of_lt hzb))
      iterate 11 refine ownsRow_setCell_below ?_ (Nat.lt_succ_of_lt hzb) _
      exact World.ownsRow_nil _ _ _ _
    · rw [HR.out]
      iterate 11 refine RdAt.far ?_ HNE.out.symm _
      exact HXW.out
    · iterate 11 refine Kb.far ?_ (Nat.le_refl _) _
      exact HKW.out
  · have HR := Lib.hid (HR0.out hk1 hk2)
    have hb1 : (k == 1) = false := by simp; exact hk1
    have hb2 : (k == 2) = false := by simp; exact hk2
    clear HR0 HR1 HR2 HN HEL HTX HES HS1 HS2 HS3 HS4
    have o2 : W5.cell? ⟨bo, 2, none⟩ = some (.int .i64 k) := HBo.out.cell 2 rfl
    go_upto_region 7 with fail
    have HD := Lib.hid (HBX.out.kb HK5.out HNE.out)
    have HA := Lib.hid (show Hp 36 W5 bo (opA ⟨s, q, k, ⟨0, 0, 0⟩, ⟨#[]⟩, [], 0, 0, 0⟩ none 0 0) from HBo.out)
    have HXW := Lib.hid (HX5.out)
    have HKW := Lib.hid ((HK.out.trans HK5.out))
    have hzb := HZ3.out
    try clear c3 c4 c5 c6 c7 f3 f4 f5 f6 f7
    try clear o2
    try clear y8 y9 ya f8 f9 fa
    generalize W5 = W9 at *
    have e0 : W9.cell? ⟨bo, 0, none⟩ = some (.int .i64 s) := HA.out.cell 0 rfl
    have e1 : W9.cell? ⟨bo, 1, none⟩ = some (.int .i64 q) := HA.out.cell 1 rfl
    have e2 : W9.cell? ⟨bo, 2, none⟩ = some (.int .i64 k) := HA.out.cell 2 rfl
    have e3 : W9.cell? ⟨bo, 3, none⟩ = some (.int .i64 0) := HA.out.cell 3 rfl
    have e4 : W9.cell? ⟨bo, 4, none⟩ = some (.int .i64 0) := HA.out.cell 4 rfl
    have e5 : W9.cell? ⟨bo, 5, none⟩ = some (.int .i64 0) := HA.out.cell 5 rfl
    have e6 : W9.cell? ⟨bo, 6, none⟩ = some (.string ⟨#[]⟩) := HA.out.cell 6 rfl
    have e7 : W9.cell? ⟨bo, 7, none⟩ = some (.slice none 0 0) := HA.out.cell 7 rfl
    have e8 : W9.cell? ⟨bo, 8, none⟩ = some (.int .i64 0) := HA.out.cell 8 rfl
    have e9 : W9.cell? ⟨bo, 9, none⟩ = some (.int .i64 0) := HA.out.cell 9 rfl
    have ea : W9.cell? ⟨bo, 10, none⟩ = some (.int .i64 0) := HA.out.cell 10 rfl
    have d0 : W9.cell? ⟨w.heap.size, 0, none⟩ = some (.int .i64 0) := HD.out.cell 0 rfl
    have d1 : W9.cell? ⟨w.heap.size, 1, none⟩ = some (.int .i64 0) := HD.out.cell 1 rfl
    have d2 : W9.cell? ⟨w.heap.size, 2, none⟩ = some (.int .i64 0) := HD.out.cell 2 rfl
    have d3 : W9.cell? ⟨w.heap.size, 3, none⟩ = some (.int .i64 0) := HD.out.cell 3 rfl
    have d4 : W9.cell? ⟨w.heap.size, 4, none⟩ = some (.int .i64 0) := HD.out.cell 4 rfl
    have d5 : W9.cell? ⟨w.heap.size, 5, none⟩ = some (.int .i64 0) := HD.out.cell 5 rfl
    have d6 : W9.cell? ⟨w.heap.size, 6, none⟩ = some (.string ⟨#[]⟩) := HD.out.cell 6 rfl
    have d7 : W9.cell? ⟨w.heap.size, 7, none⟩ = some (.slice none 0 0) := HD.out.cell 7 rfl
    have d8 : W9.cell? ⟨w.heap.size, 8, none⟩ = some (.int .i64 0) := HD.out.cell 8 rfl
    have d9 : W9.cell? ⟨w.heap.size, 9, none⟩ = some (.int .i64 0) := HD.out.cell 9 rfl
    have da : W9.cell? ⟨w.heap.size, 10, none⟩ = some (.int .i64 0) := HD.out.cell 10 rfl
    have hfd := fun o => HD.out.fr o
    go_wp2_with fail
    refine bodyPost_ret (v := .agg #[.int .i64 s, .int .i64 q, .int .i64 k, .int .i64 0, .int .i64 0, .int .i64 0, .string ⟨#[]⟩, .slice none 0 0, .int .i64 0, .int .i64 0, .int .i64 0]) (by simp [results, Tryd.results61, go_sem, d0, d1, d2, d3, d4, d5, d6, d7, d8, d9, da]) rfl ⟨none, 0, by rw [HR.out]; rfl, ?_, ?_, ?_⟩
    · rw [HR.out]
      refine owns_base (b := bo + 1) ?_ (Nat.le_succ_of_le (Nat.le_of_lt hzb))
      iterate 11 refine ownsRow_setCell_below ?_ (Nat.lt_succ_of_lt hzb) _
      exact World.ownsRow_nil _ _ _ _
    · rw [HR.out]
      iterate 11 refine RdAt.far ?_ HNE.out.symm _
      exact HXW.out
    · iterate 11 refine Kb.far ?_ (Nat.le_refl _) _
      exact HKW.out
end Go.Proofs.YtnkinbobnhdpaaaDoor
