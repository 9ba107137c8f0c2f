/- package pack: the reader's msg -/
import Derived.Test.YtnkinbobnhdpaaaDoorKByt
import Derived.Deep.RegionLaw
import Derived.Deep.AppendLies
namespace Go.Proofs.YtnkinbobnhdpaaaDoor
open Go.RowKit Go.Lib Go.Shelf Go.Sort

theorem OwnO.kb {base bx : Nat} {w w' : World} {v : Value} {L : List OpR} (h : OwnO base w v L) (hk : Kb bx w w') (hb : bx < base) : OwnO base w' v L :=
  ⟨hk.owns h.own hb, fun r hr => ⟨hk.elems (h.at_ r hr).gone (fun ad ha => by have := h.ge r hr ad ha; omega), (h.at_ r hr).len, (h.at_ r hr).size, (h.at_ r hr).none⟩, fun r hr ad ha => ⟨(h.apart r hr ad ha).1, Nat.lt_of_lt_of_le (h.apart r hr ad ha).2 hk.size⟩, h.ge⟩
theorem OwnO.setB {base k c : Nat} {w : World} {v u : Value} {L : List OpR} (h : OwnO base w v L) (hb : k < base) : OwnO base (w.setCell ⟨k, c, none⟩ u) v L := h.kb ((Kb.refl k w).set c u) hb
theorem OwnO.weak {base base' : Nat} {w : World} {v : Value} {L : List OpR} (h : OwnO base w v L) (hb : base' ≤ base) : OwnO base' w v L :=
  ⟨owns_base h.own hb, h.at_, h.apart, fun r hr ad ha => Nat.le_trans hb (h.ge r hr ad ha)⟩
theorem OwnO.drew {base : Nat} {w : World} {v : Value} {L : List OpR} (h : OwnO base w v L) : OwnO base w.drew v L := h.below (below_dr w)
theorem Kb.drew {bx : Nat} {w w' : World} (h : Kb bx w w') : Kb bx w w'.drew := h.next (below_dr _)
theorem RdAt.drew {w : World} {b : Nat} {st : St} (h : RdAt w b st) : RdAt w.drew b st := h.below (below_dr _)
theorem Hp.drew {t : TypeId} {w : World} {b : Nat} {cs : Array Value} (h : Hp t w b cs) : Hp t w.drew b cs := h.step (below_dr _)
theorem OwnO.pushR {base wb k cv g8 c8 c2 : Nat} {w2 w8 : World} {av a2 : Option Addr} {L : List OpR} {o : OpD} {X : Obj} (h : OwnO base w2 (.slice av k cv) L) (hL : L.length = k) (hw : w2.ownsRow wb 34 3 (.slice a2 o.gone.length c2) o.gone.length (ecs o.gone)) (hwb : base ≤ wb) (hvb : ∀ q, (Value.slice av k cv).ownBlock = some q → q < wb) (hs : o.text.size ≤ BIG) (hl : o.gone.length ≤ BIG)
    (hown8 : w8.ownsRow base 36 11 (.slice (some ⟨g8, 0, none⟩) (k + 1) c8) (k + 1) (ocs L ++ OpR.cs ⟨o, a2, c2⟩)) (hg : (w2.alloc X).grownBy w8 (Value.slice av k cv).ownBlock) (hat : (Value.slice av k cv).ownBlock = some g8 ∨ g8 = (w2.alloc X).heap.size) : OwnO base w8 (.slice (some ⟨g8, 0, none⟩) (k + 1) c8) (L ++ [⟨o, a2, c2⟩]) := by
  obtain ⟨a6, c6, hv6, hel6, _, _, hn6⟩ := elems_own hw
  simp only [Value.slice.injEq] at hv6
  obtain ⟨rfl, _, rfl⟩ := hv6
  refine h.push (r := ⟨o, a2, c2⟩) ⟨hel6, hl, hs, hn6⟩ (fun ad ha => ?_) (by rw [hL]; exact hown8) hg (hat.elim (fun h => .inl h.symm) (fun h => .inr (by rw [← h]; rfl)))
  simp only at ha
  subst ha
  have h9 := hw.lt ad.block rfl
  refine ⟨fun e => ?_, h9.2, by omega⟩
  have := hvb _ e.symm
  omega
/-- a message that was read: its ops in new memory -/
def RdMsP (b : Nat) (m : MsD) (st' : St) (w : World) (e : Ending) (w' : World) : Prop := ∃ v L, e = .returned (.agg #[.int .i64 m.kind, .int .i64 m.site, .int .i64 m.nonce, .int .i64 m.known, .int .i64 m.seq, .int .i64 m.err, v]) ∧ OwnO w.heap.size w' v L ∧ OpR.os L = m.ops ∧ RdAt w' b st' ∧ Kb b w w'
theorem rdMs_is {st : St} {a b c d e f : Int} {st1 st2 : St} {n : Int} (h : rd6 st = ((a, b, c, d, e, f), st1)) (hn : rdN 4 st1 = (n, st2)) : rdMs st = (⟨a, b, c, d, e, f, (rdOps n.toNat st2).1⟩, (rdOps n.toNat st2).2) := by
  unfold rdMs
  simp only [h, hn]
theorem rdOps_step (k : Nat) (st : St) : rdOps (k + 1) st = ((rdOps k st).1 ++ [(rdOp (rdOps k st).2).1], (rdOp (rdOps k st).2).2) := rfl

set_option maxRecDepth 100000 in
set_option maxHeartbeats 8000000 in
theorem rdMsg_any (b : Nat) (st : St) (w : World) (h : RdAt w b st) (hs : StLe TOP st) : Calls Tryd.prog 68 #[.pointer (some ⟨b, 0, none⟩)] w (RdMsP b (rdMs st).1 (rdMs st).2 w) := by
  obtain ⟨i0, ip0, iz0, iz1, iz2⟩ := info_parts Tryd.infoOp
  have hlt := h.lt
  obtain ⟨x1, s1, e1⟩ : ∃ x s, rd st = (x, s) := ⟨_, _, rfl⟩
  obtain ⟨x2, s2, e2⟩ : ∃ x s, rd s1 = (x, s) := ⟨_, _, rfl⟩
  obtain ⟨x3, s3, e3⟩ : ∃ x s, rd s2 = (x, s) := ⟨_, _, rfl⟩
  obtain ⟨x4, s4, e4⟩ : ∃ x s, rd s3 = (x, s) := ⟨_, _, rfl⟩
  obtain ⟨x5, s5, e5⟩ : ∃ x s, rd s4 = (x, s) := ⟨_, _, rfl⟩
  obtain ⟨x6, s6, e6⟩ : ∃ x s, rd s5 = (x, s) := ⟨_, _, rfl⟩
  obtain ⟨n, s7, e7⟩ : ∃ x s, rdN 4 s6 = (x, s) := ⟨_, _, rfl⟩
  have h6 : rd6 st = ((x1, x2, x3, x4, x5, x6), s6) := by unfold rd6 rd3; simp only [e1, e2, e3, e4, e5, e6]
  have HR := Lib.hid (rdMs_is h6 e7)
  have l1 : StLe TOP s1 := by have := rd_le hs; rw [e1] at this; exact this
  have l2 : StLe TOP s2 := by have := rd_le l1; rw [e2] at this; exact this
  have l3 : StLe TOP s3 := by have := rd_le l2; rw [e3] at this; exact this
  have l4 : StLe TOP s4 := by have := rd_le l3; rw [e4] at this; exact this
  have l5 : StLe TOP s5 := by have := rd_le l4; rw [e5] at this; exact this
  have l6 : StLe TOP s6 := by have := rd_le l5; rw [e6] at this; exact this
  have l7 : StLe TOP s7 := by have := rdN_le (m := 4) l6; rw [e7] at this; exact this
  have hn := rdN_range 4 (by decide) s6
  rw [e7] at hn
  obtain ⟨hn0, hn4⟩ := hn
  simp only at hn0 hn4
  obtain ⟨m, rfl⟩ := Int.eq_ofNat_of_zero_le hn0
  rw [Int.toNat_natCast] at HR
  have C1 := Lib.hid (fun wx hx => (by have := rdNum_any b st wx hx hs; rw [e1] at this; exact this : Calls Tryd.prog 84 #[.pointer (some ⟨b, 0, none⟩)] wx (RdInt b x1 s1 wx)))
  have C2 := Lib.hid (fun wx hx => (by have := rdNum_any b s1 wx hx l1; rw [e2] at this; exact this : Calls Tryd.prog 84 #[.pointer (some ⟨b, 0, none⟩)] wx (RdInt b x2 s2 wx)))
  have C3 := Lib.hid (fun wx hx => (by have := rdNum_any b s2 wx hx l2; rw [e3] at this; exact this : Calls Tryd.prog 84 #[.pointer (some ⟨b, 0, none⟩)] wx (RdInt b x3 s3 wx)))
  have C4 := Lib.hid (fun wx hx => (by have := rdNum_any b s3 wx hx l3; rw [e4] at this; exact this : Calls Tryd.prog 84 #[.pointer (some ⟨b, 0, none⟩)] wx (RdInt b x4 s4 wx)))
  have C5 := Lib.hid (fun wx hx => (by have := rdNum_any b s4 wx hx l4; rw [e5] at this; exact this : Calls Tryd.prog 84 #[.pointer (some ⟨b, 0, none⟩)] wx (RdInt b x5 s5 wx)))
  have C6 := Lib.hid (fun wx hx => (by have := rdNum_any b s5 wx hx l5; rw [e6] at this; exact this : Calls Tryd.prog 84 #[.pointer (some ⟨b, 0, none⟩)] wx (RdInt b x6 s6 wx)))
  have C7 := Lib.hid (fun wx hx => (by have := rdCnt_any b 4 s6 wx hx l6; rw [e7] at this; exact this : Calls Tryd.prog 95 #[.pointer (some ⟨b, 0, none⟩), .int .i64 4] wx (RdInt b m s7 wx)))
  have HS7 := Lib.hid l7
  have COP := Lib.hid (fun k wx hx => rdOp_any b (rdOps k s7).2 wx hx (rdOps_le HS7.out k))
  have HSZ := Lib.hid (fun k => (show (rdOp (rdOps k s7).2).1.text.size ≤ BIG ∧ (rdOp (rdOps k s7).2).1.gone.length ≤ BIG from by
    have h1 := rdEs_text (rdOps k s7).2 TOP (rdOps_le HS7.out k)
    have h2 := rdOp_gone (rdOps k s7).2
    unfold TOP at h1
    unfold BIG
    omega))
  have HLN := Lib.hid (rdOps_len s7)
  rw [HR.out]
  simp only
  have HNE := Lib.hid (show w.heap.size ≠ b by omega)
  have HLT := Lib.hid hlt
  have HX := Lib.hid (h.alloc (.cells #[.int .i64 0, .int .i64 0, .int .i64 0, .int .i64 0, .int .i64 0, .int .i64 0, .slice none 0 0] 53))
  have HK := Lib.hid ((Kb.refl b w).alloc (.cells #[.int .i64 0, .int .i64 0, .int .i64 0, .int .i64 0, .int .i64 0, .int .i64 0, .slice none 0 0] 53))
  have HBX := Lib.hid (Hp.new w #[.int .i64 0, .int .i64 0, .int .i64 0, .int .i64 0, .int .i64 0, .int .i64 0, .slice none 0 0] 53)
  clear h hs hlt e1 e2 e3 e4 e5 e6 e7 h6 l1 l2 l3 l4 l5 l6 l7 hn0
  go_enter Tryd.func68, Tryd.ntmps68
  go_upto_region 1 with fail
  generalize w.alloc (.cells #[.int .i64 0, .int .i64 0, .int .i64 0, .int .i64 0, .int .i64 0, .int .i64 0, .slice none 0 0] 53) = w0 at *
  go_upto_region 2 with (first
    | (go_at_call 84; refine (C6.out _ HX6.out).mono ?_; rintro e w6 ⟨rfl, hx, hk⟩; have HX7 := Lib.hid hx; have HK7 := Lib.hid (HK6.out.trans hk); clear hx hk)
    | (go_at_call 84; refine (C5.out _ HX5.out).mono ?_; rintro e w5 ⟨rfl, hx, hk⟩; have HX6 := Lib.hid hx; have HK6 := Lib.hid (HK5.out.trans hk); clear hx hk)
    | (go_at_call 84; refine (C4.out _ HX4.out).mono ?_; rintro e w4 ⟨rfl, hx, hk⟩; have HX5 := Lib.hid hx; have HK5 := Lib.hid (HK4.out.trans hk); clear hx hk)
    | (go_at_call 84; refine (C3.out _ HX3.out).mono ?_; rintro e w3 ⟨rfl, hx, hk⟩; have HX4 := Lib.hid hx; have HK4 := Lib.hid (HK3.out.trans hk); clear hx hk)
    | (go_at_call 84; refine (C2.out _ HX2.out).mono ?_; rintro e w2 ⟨rfl, hx, hk⟩; have HX3 := Lib.hid hx; have HK3 := Lib.hid (HK2.out.trans hk); clear hx hk)
    | (go_at_call 84; refine (C1.out _ HX.out).mono ?_; rintro e w1 ⟨rfl, hx, hk⟩; have HX2 := Lib.hid hx; have HK2 := Lib.hid hk; clear hx hk)
    | fail)
  have HBo := Lib.hid (Hp.new w6 #[.int .i64 x1, .int .i64 x2, .int .i64 x3, .int .i64 x4, .int .i64 x5, .int .i64 x6, .slice none 0 0] 53)
  have HX8 := Lib.hid (HX7.out.alloc (.cells #[.int .i64 x1, .int .i64 x2, .int .i64 x3, .int .i64 x4, .int .i64 x5, .int .i64 x6, .slice none 0 0] 53))
  have HK8 := Lib.hid (HK7.out.alloc (.cells #[.int .i64 x1, .int .i64 x2, .int .i64 x3, .int .i64 x4, .int .i64 x5, .int .i64 x6, .slice none 0 0] 53))
  have HZ6 := Lib.hid (show w.heap.size < w6.heap.size from Nat.lt_of_lt_of_le HBX.out.lt HK7.out.size)
  have HNo := Lib.hid (show w6.heap.size ≠ b from by have h1 := HLT.out; have h2 := HZ6.out; omega)
  generalize w6.alloc (.cells #[.int .i64 x1, .int .i64 x2, .int .i64 x3, .int .i64 x4, .int .i64 x5, .int .i64 x6, .slice none 0 0] 53) = W8 at *
  obtain ⟨bo, hbo⟩ : ∃ bo, w6.heap.size = bo := ⟨_, rfl⟩
  rw [hbo] at HBo HZ6 HNo ⊢
  clear hbo HX2 HX3 HX4 HX5 HX6 HX7 HK2 HK3 HK4 HK5 HK6 HK7 C1 C2 C3 C4 C5 C6
  go_wp2_with (first
    | (go_at_call 95; refine (C7.out _ HX8.out).mono ?_; rintro e w9 ⟨rfl, hx, hk⟩; have HX9 := Lib.hid hx; have HK9 := Lib.hid (HK.out.trans (HK8.out.trans hk)); have HB9 := Lib.hid (HBo.out.kb hk HNo.out); have HR9 := Lib.hid (HBX.out.kb (HK8.out.trans hk) HNE.out); clear hx hk)
    | fail)
  clear HX HX8 HK HK8 HBo HBX C7
  go_loopw [19] (fun i wr => ∃ (k : Nat) (v : Value) (L : List OpR), k ≤ m ∧ i = .int .i64 k ∧ L.length = k ∧ OpR.os L = (rdOps k s7).1 ∧ OwnO (bo + 1) wr v L ∧ RdAt wr b (rdOps k s7).2 ∧ Hp 53 wr bo #[.int .i64 x1, .int .i64 x2, .int .i64 x3, .int .i64 x4, .int .i64 x5, .int .i64 x6, v] ∧ Hp 53 wr w.heap.size #[.int .i64 0, .int .i64 0, .int .i64 0, .int .i64 0, .int .i64 0, .int .i64 0, .slice none 0 0] ∧ Kb b w wr) (fun i _ => m - (RowKit.intOf i).toNat)
  case atStart => exact ⟨0, _, [], Nat.zero_le _, rfl, rfl, rfl, OwnO.nil _ _, HX9.out, HB9.out, HR9.out, HK9.out⟩
  case round =>
    clear HX9 HB9 HR9 HK9
    obtain ⟨k, v, L, hk, rfl, hL, hos, ho, hx, hb, hr, hkb⟩ := hrel
    have HL := Lib.hid hL
    have HOS := Lib.hid hos
    have HX := Lib.hid hx
    have HBo := Lib.hid hb
    have HRr := Lib.hid hr
    have HKw := Lib.hid hkb
    have hb4 : L.length ≤ BIG := by rw [hL]; unfold BIG; omega
    obtain ⟨av, cv, rfl, _, hkc⟩ := ho.ops hb4
    have HO := Lib.hid ho
    have HKC := Lib.hid hkc
    rw [hL] at HBo HO
    clear hL hos ho hx hb hr hkb hb4 hkc
    by_cases hlk : k < m
    · have hc := COP.out k wr.drew HX.out.drew
      have hsz := HSZ.out k
      have HST := Lib.hid (rdOps_step k s7)
      unfold RdOpP at hc
      generalize rdOp (rdOps k s7).2 = x at *
      obtain ⟨o, st9⟩ := x
      simp only at hc hsz
      have HSO := Lib.hid hsz
      have HM1 : RowKit.Hid (k + 1 ≤ maxLen) := Lib.hid (by simp only [maxLen]; omega)
      have HM2 : RowKit.Hid ((k + 1) * 112 ≤ 140737488355328) := Lib.hid (by omega)
      have hbz := HO.out.own.lt
      have HOB := Lib.hid hbz
      have HWB := Lib.hid (show bo + 1 ≤ wr.heap.size from HBo.out.lt)
      obtain ⟨site, seq, kind, ⟨es, eq, ei⟩, text, gone, of, num, gen⟩ := o
      unfold OpD.v at hc
      simp only at hc HSO
      obtain ⟨gn, hgn⟩ : ∃ g, gone.length = g := ⟨_, rfl⟩
      have HGN := Lib.hid hgn
      rw [hgn] at hc
      have HC := Lib.hid hc
      clear hc hsz hgn hbz
      have cwd : wr.drew.cell? ⟨bo, 6, none⟩ = some (.slice av k cv) := HBo.out.cell 6 rfl
      have hlk2 : (k : Int) < (m : Int) := by omega
      go_upto_region 4 with fail
      go_region_law (first
        | (go_simp; go_at_call 61; refine HC.out.mono ?_; rintro e w2 ⟨a2, c2, rfl, hown2, hx2, hk2⟩; have HX2 := Lib.hid hx2; have HB2 := Lib.hid (HBo.out.drew.kb hk2 HNo.out); have HR2 := Lib.hid (HRr.out.drew.kb hk2 HNE.out); have HO2 := Lib.hid (HO.out.drew.kb hk2 (by have h1 := HLT.out; have h2 := HZ6.out; omega)); have HK2 := Lib.hid (HKw.out.drew.trans hk2); have HOW := Lib.hid hown2; have HS2 := Lib.hid hk2.size; have c22 : w2.cell? ⟨bo, 6, none⟩ = some (.slice av k cv) := HB2.out.cell 6 rfl; have hbl := HB2.out.lt; clear hown2 hx2 hk2)
        | (refine step_append_lies _ (by rfl) _ _ _ (by rfl) (bo + 1) 36 i0 (.agg #[.int .i64 0, .int .i64 0, .int .i64 0, .int .i64 0, .int .i64 0, .int .i64 0, .string ⟨#[]⟩, .slice none 0 0, .int .i64 0, .int .i64 0, .int .i64 0]) 11 112 Tryd.underlying22 ip0 iz0 iz1 iz2 (by rfl) (by decide) (.slice av k cv) k _ (by rfl) (show World.ownsRow _ _ _ _ _ k _ from by have h9 := HO2.out.own.alloc (.cells (opA ⟨site, seq, kind, ⟨es, eq, ei⟩, text, gone, of, num, gen⟩ a2 gn c2) 36); rw [HL.out] at h9; exact h9) ⟨w2.heap.size, 0, none⟩ 1 1 (OpR.cs ⟨⟨site, seq, kind, ⟨es, eq, ei⟩, text, gone, of, num, gen⟩, a2, c2⟩) (by rfl) (by rfl) (by have h9 := cell_op_newR w2 ⟨⟨site, seq, kind, ⟨es, eq, ei⟩, text, gone, of, num, gen⟩, a2, c2⟩ 36; simp only [HGN.out] at h9; exact h9) (cs_oneR _) (by omega) HM1.out HM2.out (by have h1 := HS2.out; have h2 := HWB.out; simp at h1; simp; omega) _ rfl ?_; intro g8 c8 w8 hown8 hgrow8 hat8 hlt8; have HD8 := Lib.hid (((Below.refl (bo + 1) w2).alloc (by have h1 := HS2.out; have h2 := HWB.out; simp at h1; omega) _).grown hgrow8 (by have h1 := HS2.out; have h2 := HWB.out; simp at h1; simp; omega) (own_ge HO2.out.own)); have HO8 := Lib.hid (HO2.out.pushR (o := ⟨site, seq, kind, ⟨es, eq, ei⟩, text, gone, of, num, gen⟩) HL.out (by have h9 := HOW.out; rw [← HGN.out] at h9; exact h9) (by exact HWB.out) (fun q hq => (HOB.out q hq).2) HSO.out.1 HSO.out.2 (by exact hown8) hgrow8 hat8); have HB8 := Lib.hid (HB2.out.below HD8.out (Nat.lt_succ_self _)); have f6 := HB8.out.fr 6; have c86 : w8.cell? ⟨bo, 6, none⟩ = some (.slice av k cv) := HB8.out.cell 6 rfl; have HX8 := Lib.hid (HX2.out.belowB HD8.out (by have h1 := HLT.out; have h2 := HZ6.out; omega)); have HR8 := Lib.hid (HR2.out.below HD8.out (by have h2 := HZ6.out; omega)); have HK8 := Lib.hid (HK2.out.below (HD8.out.mono (by have h2 := HZ6.out; omega))); clear hown8 hgrow8 hat8 hlt8)
        | fail)
      all_goals
        go_wp2_with fail
        go_roundw
        case rel => exact ⟨k + 1, _, L ++ [⟨⟨site, seq, kind, ⟨es, eq, ei⟩, text, gone, of, num, gen⟩, a2, c2⟩], by omega, by go_num, by rw [List.length_append, HL.out]; rfl, by rw [HST.out, ← HOS.out]; simp [OpR.os], HO8.out.setB (Nat.lt_succ_self _), by rw [HST.out]; exact HX8.out.far HNo.out.symm _, HB8.out.set 6 _, HR8.out.far (Nat.ne_of_lt HZ6.out) _, HK8.out.far (p := ⟨bo, 6, none⟩) (Nat.le_of_lt HZ6.out) _⟩
        case measure => simp [RowKit.intOf]; omega
    · have hkm : k = m := by omega
      have HLm := Lib.hid (show (rdOps k s7) = rdOps m s7 from by rw [hkm])
      clear hkm
      have e0 : wr.cell? ⟨bo, 0, none⟩ = some (.int .i64 x1) := HBo.out.cell 0 rfl
      have e1 : wr.cell? ⟨bo, 1, none⟩ = some (.int .i64 x2) := HBo.out.cell 1 rfl
      have e2 : wr.cell? ⟨bo, 2, none⟩ = some (.int .i64 x3) := HBo.out.cell 2 rfl
      have e3 : wr.cell? ⟨bo, 3, none⟩ = some (.int .i64 x4) := HBo.out.cell 3 rfl
      have e4 : wr.cell? ⟨bo, 4, none⟩ = some (.int .i64 x5) := HBo.out.cell 4 rfl
      have e5 : wr.cell? ⟨bo, 5, none⟩ = some (.int .i64 x6) := HBo.out.cell 5 rfl
      have e6 : wr.cell? ⟨bo, 6, none⟩ = some (.slice av k cv) := HBo.out.cell 6 rfl
      have d0 : wr.cell? ⟨w.heap.size, 0, none⟩ = some (.int .i64 0) := HRr.out.cell 0 rfl
      have d1 : wr.cell? ⟨w.heap.size, 1, none⟩ = some (.int .i64 0) := HRr.out.cell 1 rfl
      have d2 : wr.cell? ⟨w.heap.size, 2, none⟩ = some (.int .i64 0) := HRr.out.cell 2 rfl
      have d3 : wr.cell? ⟨w.heap.size, 3, none⟩ = some (.int .i64 0) := HRr.out.cell 3 rfl
      have d4 : wr.cell? ⟨w.heap.size, 4, none⟩ = some (.int .i64 0) := HRr.out.cell 4 rfl
      have d5 : wr.cell? ⟨w.heap.size, 5, none⟩ = some (.int .i64 0) := HRr.out.cell 5 rfl
      have d6 : wr.cell? ⟨w.heap.size, 6, none⟩ = some (.slice none 0 0) := HRr.out.cell 6 rfl
      have hfd := fun o => HRr.out.fr o
      go_wp2_with fail
      refine bodyPost_ret (v := .agg #[.int .i64 x1, .int .i64 x2, .int .i64 x3, .int .i64 x4, .int .i64 x5, .int .i64 x6, .slice av k cv]) (by simp [results, Tryd.results68, go_sem, d0, d1, d2, d3, d4, d5, d6]) rfl ⟨_, L, rfl, ?_, ?_, ?_, ?_⟩
      · refine OwnO.weak (base := bo + 1) ?_ (Nat.le_succ_of_le (Nat.le_of_lt HZ6.out))
        iterate 7 refine OwnO.setB ?_ (Nat.lt_succ_of_lt HZ6.out)
        exact HO.out
      · rw [HOS.out, HLm.out]
      · rw [← HLm.out]
        iterate 7 refine RdAt.far ?_ HNE.out.symm _
        exact HX.out
      · iterate 7 refine Kb.far ?_ (by exact Nat.le_refl _) _
        exact HKw.out
end Go.Proofs.YtnkinbobnhdpaaaDoor
