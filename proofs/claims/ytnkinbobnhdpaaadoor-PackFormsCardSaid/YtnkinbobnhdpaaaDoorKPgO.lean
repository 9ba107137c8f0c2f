/- the page's taker: op -/
import Derived.Test.YtnkinbobnhdpaaaDoorKPgR
import Derived.Test.YtnkinbobnhdpaaaDoorKRdM
import Derived.Test.YtnkinbobnhdpaaaDoorORop
namespace Go.Proofs.YtnkinbobnhdpaaaDoor
open Go.RowKit Go.Lib Go.Sort

/-- the op that the page takes, and what is left: it is that of the bytes, if there is one -/
def PgOk (st : St) (o : OpD) (st' : St) : Prop := st' = (tkOp st).map (·.2) ∧ ∀ o' r, tkOp st = some (o', r) → o = o'
def pgEnd (o : OpD) (st : St) : St := if okOp o = true then st else none
theorem pg_same {st : St} {o : OpD} {st5 : St} (h : rdOp st = (o, st5)) : PgOk st o (pgEnd o st5) := by
  unfold PgOk pgEnd tkOp
  rw [h]
  cases st5 with
  | none => constructor
            · cases okOp o <;> rfl
            · intro o' r hx; cases hx
  | some l =>
    simp only
    cases hk : okOp o
    · exact ⟨rfl, fun o' r hx => by cases hx⟩
    · exact ⟨rfl, fun o' r hx => by simp only [if_true, Option.some.injEq, Prod.mk.injEq] at hx; exact hx.1⟩
theorem pg_none {st : St} {o : OpD} (h : tkOp st = none) : PgOk st o none := by
  unfold PgOk
  rw [h]
  exact ⟨rfl, fun o' r hx => by cases hx⟩
theorem okOp_gone {o : OpD} (h : 200 < o.gone.length) : okOp o = false := by
  cases hk : okOp o
  · rfl
  · have := (okOp_nums hk).len; omega
theorem okOp_kind {o : OpD} (h1 : ¬ o.kind = 1) (h2 : ¬ o.kind = 2) : okOp o = false := by
  cases hk : okOp o
  · rfl
  · rcases (okOp_nums hk).kind with h | h
    · exact absurd h h1
    · exact absurd h h2
theorem pg_edit {st : St} {s q kd : Int} {st1 st2 st3 st4 : St} {e : El} {t : ByteArray} {n : Int} (h3 : rd3 st = ((s, q, kd), st1)) (hk : ¬ kd = 2) (he : rdE st1 = (e, st2)) (ht : rdT st2 = (t, st3)) (hn : rd st3 = (n, st4)) (k : Nat) (hk2 : k = n.toNat ∨ ((rdEs k st4).2 = none ∧ k ≤ n.toNat)) :
    PgOk st ⟨s, q, kd, e, t, (rdEs k st4).1, 0, 0, 0⟩ (pgEnd ⟨s, q, kd, e, t, (rdEs k st4).1, 0, 0, 0⟩ (rdEs k st4).2) := by
  by_cases k1 : kd = 1
  · by_cases h200 : 200 < n
    · have hN : rdN 200 st3 = (0, none) := by unfold rdN; rw [hn]; simp only; rw [if_pos h200]
      have hR := rdOp_1 h3 k1 he ht hN
      have hT : tkOp st = none := by unfold tkOp; rw [hR]; rfl
      have hend : pgEnd ⟨s, q, kd, e, t, (rdEs k st4).1, 0, 0, 0⟩ (rdEs k st4).2 = none := by
        unfold pgEnd
        rcases hk2 with rfl | ⟨h5, _⟩
        · rw [if_neg]
          rw [okOp_gone (by show 200 < (rdEs n.toNat st4).1.length; rw [rdEs_len]; omega)]
          simp
        · rw [h5]; split <;> rfl
      rw [hend]
      exact pg_none hT
    · have hN : rdN 200 st3 = (n, st4) := by unfold rdN; rw [hn]; simp only; rw [if_neg h200]
      have hR := rdOp_1 h3 k1 he ht hN
      rcases hk2 with rfl | ⟨h5, h6⟩
      · exact pg_same hR
      · have h7 := rdEs_bad h5 n.toNat h6
        rw [h7] at hR
        have hT : tkOp st = none := by unfold tkOp; rw [hR]
        have hend : pgEnd ⟨s, q, kd, e, t, (rdEs k st4).1, 0, 0, 0⟩ (rdEs k st4).2 = none := by unfold pgEnd; rw [h5]; split <;> rfl
        rw [hend]
        exact pg_none hT
  · have hT : tkOp st = none := by
      cases hx : tkOp st with
      | none => rfl
      | some p =>
        obtain ⟨o', r⟩ := p
        obtain ⟨h5, h6⟩ := tkOp_some.1 hx
        rw [rdOp_0 h3 k1 hk] at h5
        simp only [Prod.mk.injEq] at h5
        rw [← h5.1, okOp_kind k1 hk] at h6
        cases h6
    have hend : pgEnd ⟨s, q, kd, e, t, (rdEs k st4).1, 0, 0, 0⟩ (rdEs k st4).2 = none := by
      unfold pgEnd
      rw [okOp_kind (o := ⟨s, q, kd, e, t, (rdEs k st4).1, 0, 0, 0⟩) k1 hk, if_neg (by simp)]
    rw [hend]
    exact pg_none hT
def QOpP (b : Nat) (st : St) (w : World) (e : Ending) (w' : World) : Prop := ∃ o a cap st', e = .returned (o.v a cap) ∧ PgOk st o st' ∧ w'.ownsRow w.heap.size 34 3 (.slice a o.gone.length cap) o.gone.length (ecs o.gone) ∧ TkAt w' b st' ∧ Kb b w w'
theorem qOpP_mk {b : Nat} {st st' : St} {w w' : World} (o : OpD) (a : Option Addr) (cap n : Nat) (hn : o.gone.length = n) (h : PgOk st o st') (ho : w'.ownsRow w.heap.size 34 3 (.slice a n cap) n (ecs o.gone)) (ht : TkAt w' b st') (hk : Kb b w w') : QOpP b st w (.returned (.agg #[.int .i64 o.site, .int .i64 o.seq, .int .i64 o.kind, .int .i64 o.after.s, .int .i64 o.after.q, .int .i64 o.after.i, .string o.text, .slice a n cap, .int .i64 o.of, .int .i64 o.num, .int .i64 o.gen])) w' := by
  subst hn
  exact ⟨o, a, cap, st', rfl, h, ho, ht, hk⟩

/-- from the op's test on: a frame of letters, whatever stands in the other slots -/
def tailPost (b : Nat) (st : St) := QOpP b st

set_option maxRecDepth 100000 in
set_option maxHeartbeats 8000000 in
theorem tkOpPg_any (b : Nat) (st : St) (w : World) (hT : ∀ w' : World, Kb b w w' → Tabs w') (h : TkAt w b st) (hs : StLe TOPP st) : Calls Tryd.prog 62 #[.pointer (some ⟨b, 0, none⟩)] w (QOpP b st w) := by
  obtain ⟨i0, hi, hz0, hz1, hz2⟩ := info_parts Tryd.infoElem
  have hlt := h.lt
  obtain ⟨s, sa, e1⟩ : ∃ x s, rd st = (x, s) := ⟨_, _, rfl⟩
  obtain ⟨q, sb, e2⟩ : ∃ x s, rd sa = (x, s) := ⟨_, _, rfl⟩
  obtain ⟨k, st1, e3⟩ : ∃ x s, rd sb = (x, s) := ⟨_, _, rfl⟩
  have h3 : rd3 st = ((s, q, k), st1) := by unfold rd3; simp only [e1, e2, e3]
  have l1 : StLe TOPP sa := by have := rd_le hs; rw [e1] at this; exact this
  have l2 : StLe TOPP sb := by have := rd_le l1; rw [e2] at this; exact this
  have l3 : StLe TOPP st1 := by have := rd_le l2; rw [e3] at this; exact this
  have HN := Lib.hid (fun (s : St) (wx : World) (hx : TkAt wx b s) (hl : StLe TOPP s) => tkNum_any b s wx hx hl)
  have C1 := Lib.hid (fun wx hx => (by have := tkNum_any b st wx hx hs; rw [e1] at this; exact this : Calls Tryd.prog 69 #[.pointer (some ⟨b, 0, none⟩)] wx (TkInt b s sa wx)))
  have C2 := Lib.hid (fun wx hx => (by have := tkNum_any b sa wx hx l1; rw [e2] at this; exact this : Calls Tryd.prog 69 #[.pointer (some ⟨b, 0, none⟩)] wx (TkInt b q sb wx)))
  have C3 := Lib.hid (fun wx hx => (by have := tkNum_any b sb wx hx l2; rw [e3] at this; exact this : Calls Tryd.prog 69 #[.pointer (some ⟨b, 0, none⟩)] wx (TkInt b k st1 wx)))
  have HL3 := Lib.hid l3
  have H3 := Lib.hid h3
  have HTB := Lib.hid hT
  have HLT := Lib.hid hlt
  have HNE := Lib.hid (show w.heap.size ≠ b by omega)
  have HX := Lib.hid (h.alloc (.cells #[.int .i64 0, .int .i64 0, .int .i64 0, .int .i64 0, .int .i64 0, .int .i64 0, .string ⟨#[]⟩, .slice none 0 0, .int .i64 0, .int .i64 0, .int .i64 0] 36))
  have HK := Lib.hid ((Kb.refl b w).alloc (.cells #[.int .i64 0, .int .i64 0, .int .i64 0, .int .i64 0, .int .i64 0, .int .i64 0, .string ⟨#[]⟩, .slice none 0 0, .int .i64 0, .int .i64 0, .int .i64 0] 36))
  have HBX := Lib.hid (Hp.new w #[.int .i64 0, .int .i64 0, .int .i64 0, .int .i64 0, .int .i64 0, .int .i64 0, .string ⟨#[]⟩, .slice none 0 0, .int .i64 0, .int .i64 0, .int .i64 0] 36)
  clear h hs hlt e1 e2 e3 h3 l1 l2 l3 hT
  go_enter Tryd.func62, Tryd.ntmps62
  go_upto_region 1 with fail
  generalize w.alloc (.cells #[.int .i64 0, .int .i64 0, .int .i64 0, .int .i64 0, .int .i64 0, .int .i64 0, .string ⟨#[]⟩, .slice none 0 0, .int .i64 0, .int .i64 0, .int .i64 0] 36) = w0 at *
  go_upto_region 2 with (first
    | (go_at_call 69; refine (C3.out _ HX3.out).mono ?_; rintro e w3 ⟨rfl, hx, hk⟩; have HX4 := Lib.hid hx; have HK4 := Lib.hid (HK3.out.trans hk); clear hx hk)
    | (go_at_call 69; refine (C2.out _ HX2.out).mono ?_; rintro e w2 ⟨rfl, hx, hk⟩; have HX3 := Lib.hid hx; have HK3 := Lib.hid (HK2.out.trans hk); clear hx hk)
    | (go_at_call 69; refine (C1.out _ HX.out).mono ?_; rintro e w1 ⟨rfl, hx, hk⟩; have HX2 := Lib.hid hx; have HK2 := Lib.hid hk; clear hx hk)
    | fail)
  have HBo := Lib.hid (Hp.new w3 #[.int .i64 s, .int .i64 q, .int .i64 k, .int .i64 0, .int .i64 0, .int .i64 0, .string ⟨#[]⟩, .slice none 0 0, .int .i64 0, .int .i64 0, .int .i64 0] 36)
  have HX5 := Lib.hid (HX4.out.alloc (.cells #[.int .i64 s, .int .i64 q, .int .i64 k, .int .i64 0, .int .i64 0, .int .i64 0, .string ⟨#[]⟩, .slice none 0 0, .int .i64 0, .int .i64 0, .int .i64 0] 36))
  have HK5 := Lib.hid (HK4.out.alloc (.cells #[.int .i64 s, .int .i64 q, .int .i64 k, .int .i64 0, .int .i64 0, .int .i64 0, .string ⟨#[]⟩, .slice none 0 0, .int .i64 0, .int .i64 0, .int .i64 0] 36))
  have HZ3 := Lib.hid (show w.heap.size < w3.heap.size from Nat.lt_of_lt_of_le HBX.out.lt HK4.out.size)
  have HNo := Lib.hid (show w3.heap.size ≠ b from by have h1 := HLT.out; have h2 := HZ3.out; omega)
  generalize w3.alloc (.cells #[.int .i64 s, .int .i64 q, .int .i64 k, .int .i64 0, .int .i64 0, .int .i64 0, .string ⟨#[]⟩, .slice none 0 0, .int .i64 0, .int .i64 0, .int .i64 0] 36) = W5 at *
  obtain ⟨bo, hbo⟩ : ∃ bo, w3.heap.size = bo := ⟨_, rfl⟩
  rw [hbo] at HBo HZ3 HNo ⊢
  have HKF := Lib.hid (HK.out.trans HK5.out)
  have HBX5 := Lib.hid (HBX.out.kb HK5.out HNE.out)
  clear hbo HX2 HX3 HX4 HK2 HK3 HK4 C1 C2 C3 HX HK HBX HK5
  have o2 : W5.cell? ⟨bo, 2, none⟩ = some (.int .i64 k) := HBo.out.cell 2 rfl
  by_cases hk2 : k = 2
  · subst hk2
    obtain ⟨x, sc, hxa⟩ : ∃ e s, rd st1 = (e, s) := ⟨_, _, rfl⟩
    obtain ⟨y, sd, hyb⟩ : ∃ e s, rd sc = (e, s) := ⟨_, _, rfl⟩
    obtain ⟨z, st5, hzc⟩ : ∃ e s, rd sd = (e, s) := ⟨_, _, rfl⟩
    have h3b : rd3 st1 = ((x, y, z), st5) := by unfold rd3; simp only [hxa, hyb, hzc]
    have HPG := Lib.hid (pg_same (rdOp_2 H3.out rfl h3b))
    have hs2 : StLe TOPP sc := by have := rd_le HL3.out; rw [hxa] at this; exact this
    have hs3 : StLe TOPP sd := by have := rd_le hs2; rw [hyb] at this; exact this
    have H1 := HN.out st1 _ HX5.out HL3.out
    rw [hxa] at H1
    have H2 := fun wx hx => HN.out sc wx hx hs2
    rw [hyb] at H2
    have H3' := fun wx hx => HN.out sd wx hx hs3
    rw [hzc] at H3'
    have HC1 := Lib.hid H1
    have HC2 := Lib.hid H2
    have HC3 := Lib.hid H3'
    clear H1 H2 H3' hxa hyb hzc h3b hs2 hs3 HN H3 HL3
    go_upto_region 11 with (first
      | (go_at_call 69; refine (HC3.out _ HX7.out).mono ?_; rintro e w8 ⟨rfl, hx, hk⟩; have HX8 := Lib.hid hx; have HK8 := Lib.hid (HK7.out.trans hk); have HB8 := Lib.hid (HBo.out.kb HK8.out HNo.out); have y8 : w8.cell? ⟨bo, 8, none⟩ = some (.int .i64 0) := HB8.out.cell 8 rfl; have y9 : w8.cell? ⟨bo, 9, none⟩ = some (.int .i64 0) := HB8.out.cell 9 rfl; have ya : w8.cell? ⟨bo, 10, none⟩ = some (.int .i64 0) := HB8.out.cell 10 rfl; have f8 := HB8.out.fr 8; have f9 := HB8.out.fr 9; have fa := HB8.out.fr 10; clear hx hk)
      | (go_at_call 69; refine (HC2.out _ HX6.out).mono ?_; rintro e w7 ⟨rfl, hx, hk⟩; have HX7 := Lib.hid hx; have HK7 := Lib.hid (HK6.out.trans hk); clear hx hk)
      | (go_at_call 69; refine HC1.out.mono ?_; rintro e w6 ⟨rfl, hx, hk⟩; have HX6 := Lib.hid hx; have HK6 := Lib.hid hk; clear hx hk)
      | fail)
    have HB9 := Lib.hid (show Hp 36 (((w8.setCell ⟨bo, 8, none⟩ (.int .i64 x)).setCell ⟨bo, 9, none⟩ (.int .i64 y)).setCell ⟨bo, 10, none⟩ (.int .i64 z)) bo #[.int .i64 s, .int .i64 q, .int .i64 2, .int .i64 0, .int .i64 0, .int .i64 0, .string ⟨#[]⟩, .slice none 0 0, .int .i64 x, .int .i64 y, .int .i64 z] from ((HB8.out.set 8 (.int .i64 x)).set 9 (.int .i64 y)).set 10 (.int .i64 z))
    have HD9 := Lib.hid ((((HBX5.out.kb HK8.out HNE.out).far (Nat.ne_of_lt HZ3.out) (c := 8) (.int .i64 x)).far (Nat.ne_of_lt HZ3.out) (c := 9) (.int .i64 y)).far (Nat.ne_of_lt HZ3.out) (c := 10) (.int .i64 z))
    have HX9 := Lib.hid (((HX8.out.far HNo.out.symm (c := 8) (.int .i64 x)).far HNo.out.symm (c := 9) (.int .i64 y)).far HNo.out.symm (c := 10) (.int .i64 z))
    have HK9 := Lib.hid ((((HKF.out.trans HK8.out).far (p := ⟨bo, 8, none⟩) (Nat.le_of_lt HZ3.out) (.int .i64 x)).far (p := ⟨bo, 9, none⟩) (Nat.le_of_lt HZ3.out) (.int .i64 y)).far (p := ⟨bo, 10, none⟩) (Nat.le_of_lt HZ3.out) (.int .i64 z))
    clear y8 y9 ya f8 f9 fa o2
    generalize ((w8.setCell ⟨bo, 8, none⟩ (.int .i64 x)).setCell ⟨bo, 9, none⟩ (.int .i64 y)).setCell ⟨bo, 10, none⟩ (.int .i64 z) = W9 at *
    have HO9 := Lib.hid (World.ownsRow_nil W9 (bo + 1) 34 3)
    have HTB9 := Lib.hid (HTB.out _ HK9.out)
    have HSZ9 := Lib.hid (show (⟨#[]⟩ : ByteArray).size ≤ 60000 from Nat.zero_le _)
    have HEL9 := Lib.hid (ElemsAt.nil (w := W9) none)
    have HGN9 := Lib.hid (show ([] : List El).length = 0 from rfl)
    have e0 : W9.cell? ⟨bo, 0, none⟩ = some (.int .i64 s) := HB9.out.cell 0 rfl
    have e1 : W9.cell? ⟨bo, 1, none⟩ = some (.int .i64 q) := HB9.out.cell 1 rfl
    have e2 : W9.cell? ⟨bo, 2, none⟩ = some (.int .i64 2) := HB9.out.cell 2 rfl
    have e3 : W9.cell? ⟨bo, 3, none⟩ = some (.int .i64 0) := HB9.out.cell 3 rfl
    have e4 : W9.cell? ⟨bo, 4, none⟩ = some (.int .i64 0) := HB9.out.cell 4 rfl
    have e5 : W9.cell? ⟨bo, 5, none⟩ = some (.int .i64 0) := HB9.out.cell 5 rfl
    have e6 : W9.cell? ⟨bo, 6, none⟩ = some (.string ⟨#[]⟩) := HB9.out.cell 6 rfl
    have e7 : W9.cell? ⟨bo, 7, none⟩ = some (.slice none 0 0) := HB9.out.cell 7 rfl
    have e8 : W9.cell? ⟨bo, 8, none⟩ = some (.int .i64 x) := HB9.out.cell 8 rfl
    have e9 : W9.cell? ⟨bo, 9, none⟩ = some (.int .i64 y) := HB9.out.cell 9 rfl
    have ea : W9.cell? ⟨bo, 10, none⟩ = some (.int .i64 z) := HB9.out.cell 10 rfl
    have d0 : W9.cell? ⟨w.heap.size, 0, none⟩ = some (.int .i64 0) := HD9.out.cell 0 rfl
    have d1 : W9.cell? ⟨w.heap.size, 1, none⟩ = some (.int .i64 0) := HD9.out.cell 1 rfl
    have d2 : W9.cell? ⟨w.heap.size, 2, none⟩ = some (.int .i64 0) := HD9.out.cell 2 rfl
    have d3 : W9.cell? ⟨w.heap.size, 3, none⟩ = some (.int .i64 0) := HD9.out.cell 3 rfl
    have d4 : W9.cell? ⟨w.heap.size, 4, none⟩ = some (.int .i64 0) := HD9.out.cell 4 rfl
    have d5 : W9.cell? ⟨w.heap.size, 5, none⟩ = some (.int .i64 0) := HD9.out.cell 5 rfl
    have d6 : W9.cell? ⟨w.heap.size, 6, none⟩ = some (.string ⟨#[]⟩) := HD9.out.cell 6 rfl
    have d7 : W9.cell? ⟨w.heap.size, 7, none⟩ = some (.slice none 0 0) := HD9.out.cell 7 rfl
    have d8 : W9.cell? ⟨w.heap.size, 8, none⟩ = some (.int .i64 0) := HD9.out.cell 8 rfl
    have d9 : W9.cell? ⟨w.heap.size, 9, none⟩ = some (.int .i64 0) := HD9.out.cell 9 rfl
    have da : W9.cell? ⟨w.heap.size, 10, none⟩ = some (.int .i64 0) := HD9.out.cell 10 rfl
    have hfd := fun o => HD9.out.fr o
    have HRO := Lib.hid (rOp_any ⟨s, q, 2, ⟨0, 0, 0⟩, ⟨#[]⟩, [], x, y, z⟩ none 0 W9 HTB9.out HSZ9.out HEL9.out)
    unfold OpD.v at HRO
    simp only [HGN9.out] at HRO
    unfold pgEnd at HPG
    cases hok : okOp ⟨s, q, 2, ⟨0, 0, 0⟩, ⟨#[]⟩, [], x, y, z⟩
    · simp only [hok] at HRO
      have HPG2 := Lib.hid (show PgOk st ⟨s, q, 2, ⟨0, 0, 0⟩, ⟨#[]⟩, [], x, y, z⟩ none from by have h9 := HPG.out; rw [hok] at h9; exact h9)
      clear hok
      go_wp2_with (first
        | (go_at_call 17; refine HRO.out.mono ?_; rintro e wa ⟨rfl, hb⟩; have HBa := Lib.hid (HB9.out.step hb); have HDa := Lib.hid (HD9.out.step hb); have HXa := Lib.hid (HX9.out.below hb); have HKa := Lib.hid (HK9.out.next hb); have HOa := Lib.hid (owns_belE HO9.out hb); clear hb e0 d0 e1 d1 e2 d2 e3 d3 e4 d4 e5 d5 e6 d6 e7 d7 e8 d8 e9 d9 ea da hfd; have e0 : wa.cell? ⟨bo, 0, none⟩ = some (.int .i64 s) := HBa.out.cell 0 rfl; have e1 : wa.cell? ⟨bo, 1, none⟩ = some (.int .i64 q) := HBa.out.cell 1 rfl; have e2 : wa.cell? ⟨bo, 2, none⟩ = some (.int .i64 2) := HBa.out.cell 2 rfl; have e3 : wa.cell? ⟨bo, 3, none⟩ = some (.int .i64 0) := HBa.out.cell 3 rfl; have e4 : wa.cell? ⟨bo, 4, none⟩ = some (.int .i64 0) := HBa.out.cell 4 rfl; have e5 : wa.cell? ⟨bo, 5, none⟩ = some (.int .i64 0) := HBa.out.cell 5 rfl; have e6 : wa.cell? ⟨bo, 6, none⟩ = some (.string ⟨#[]⟩) := HBa.out.cell 6 rfl; have e7 : wa.cell? ⟨bo, 7, none⟩ = some (.slice none 0 0) := HBa.out.cell 7 rfl; have e8 : wa.cell? ⟨bo, 8, none⟩ = some (.int .i64 x) := HBa.out.cell 8 rfl; have e9 : wa.cell? ⟨bo, 9, none⟩ = some (.int .i64 y) := HBa.out.cell 9 rfl; have ea : wa.cell? ⟨bo, 10, none⟩ = some (.int .i64 z) := HBa.out.cell 10 rfl; have d0 : wa.cell? ⟨w.heap.size, 0, none⟩ = some (.int .i64 0) := HDa.out.cell 0 rfl; have d1 : wa.cell? ⟨w.heap.size, 1, none⟩ = some (.int .i64 0) := HDa.out.cell 1 rfl; have d2 : wa.cell? ⟨w.heap.size, 2, none⟩ = some (.int .i64 0) := HDa.out.cell 2 rfl; have d3 : wa.cell? ⟨w.heap.size, 3, none⟩ = some (.int .i64 0) := HDa.out.cell 3 rfl; have d4 : wa.cell? ⟨w.heap.size, 4, none⟩ = some (.int .i64 0) := HDa.out.cell 4 rfl; have d5 : wa.cell? ⟨w.heap.size, 5, none⟩ = some (.int .i64 0) := HDa.out.cell 5 rfl; have d6 : wa.cell? ⟨w.heap.size, 6, none⟩ = some (.string ⟨#[]⟩) := HDa.out.cell 6 rfl; have d7 : wa.cell? ⟨w.heap.size, 7, none⟩ = some (.slice none 0 0) := HDa.out.cell 7 rfl; have d8 : wa.cell? ⟨w.heap.size, 8, none⟩ = some (.int .i64 0) := HDa.out.cell 8 rfl; have d9 : wa.cell? ⟨w.heap.size, 9, none⟩ = some (.int .i64 0) := HDa.out.cell 9 rfl; have da : wa.cell? ⟨w.heap.size, 10, none⟩ = some (.int .i64 0) := HDa.out.cell 10 rfl; have hfd := fun o => HDa.out.fr o; have t1 := HXa.out.c1; have ft := HXa.out.fr 1; have hbb := HLT.out; have hzz := HZ3.out)
        | fail)
      refine bodyPost_ret (v := .agg #[.int .i64 s, .int .i64 q, .int .i64 2, .int .i64 0, .int .i64 0, .int .i64 0, .string ⟨#[]⟩, .slice none 0 0, .int .i64 x, .int .i64 y, .int .i64 z]) (by simp [results, Tryd.results62, go_sem, d0, d1, d2, d3, d4, d5, d6, d7, d8, d9, da]) rfl (qOpP_mk ⟨s, q, 2, ⟨0, 0, 0⟩, ⟨#[]⟩, [], x, y, z⟩ none 0 0 HGN9.out HPG2.out ?_ ?_ ?_)
      · refine owns_base (b := bo + 1) ?_ (Nat.le_succ_of_le (Nat.le_of_lt HZ3.out))
        iterate 11 refine ownsRow_setCell_below ?_ (Nat.lt_succ_of_lt HZ3.out) _
        refine ownsRow_setCell_below ?_ (by have h1 := HLT.out; have h2 := HZ3.out; show b < _; omega) _
        exact HOa.out
      · iterate 11 refine TkAt.far ?_ HNE.out.symm _
        exact HXa.out.spoil
      · iterate 11 refine Kb.far ?_ (by exact Nat.le_refl _) _
        exact HKa.out.set _ _
    · simp only [hok] at HRO
      have HPG2 := Lib.hid (show PgOk st ⟨s, q, 2, ⟨0, 0, 0⟩, ⟨#[]⟩, [], x, y, z⟩ st5 from by have h9 := HPG.out; rw [hok] at h9; exact h9)
      clear hok
      go_wp2_with (first
        | (go_at_call 17; refine HRO.out.mono ?_; rintro e wa ⟨rfl, hb⟩; have HBa := Lib.hid (HB9.out.step hb); have HDa := Lib.hid (HD9.out.step hb); have HXa := Lib.hid (HX9.out.below hb); have HKa := Lib.hid (HK9.out.next hb); have HOa := Lib.hid (owns_belE HO9.out hb); clear hb e0 d0 e1 d1 e2 d2 e3 d3 e4 d4 e5 d5 e6 d6 e7 d7 e8 d8 e9 d9 ea da hfd; have e0 : wa.cell? ⟨bo, 0, none⟩ = some (.int .i64 s) := HBa.out.cell 0 rfl; have e1 : wa.cell? ⟨bo, 1, none⟩ = some (.int .i64 q) := HBa.out.cell 1 rfl; have e2 : wa.cell? ⟨bo, 2, none⟩ = some (.int .i64 2) := HBa.out.cell 2 rfl; have e3 : wa.cell? ⟨bo, 3, none⟩ = some (.int .i64 0) := HBa.out.cell 3 rfl; have e4 : wa.cell? ⟨bo, 4, none⟩ = some (.int .i64 0) := HBa.out.cell 4 rfl; have e5 : wa.cell? ⟨bo, 5, none⟩ = some (.int .i64 0) := HBa.out.cell 5 rfl; have e6 : wa.cell? ⟨bo, 6, none⟩ = some (.string ⟨#[]⟩) := HBa.out.cell 6 rfl; have e7 : wa.cell? ⟨bo, 7, none⟩ = some (.slice none 0 0) := HBa.out.cell 7 rfl; have e8 : wa.cell? ⟨bo, 8, none⟩ = some (.int .i64 x) := HBa.out.cell 8 rfl; have e9 : wa.cell? ⟨bo, 9, none⟩ = some (.int .i64 y) := HBa.out.cell 9 rfl; have ea : wa.cell? ⟨bo, 10, none⟩ = some (.int .i64 z) := HBa.out.cell 10 rfl; have d0 : wa.cell? ⟨w.heap.size, 0, none⟩ = some (.int .i64 0) := HDa.out.cell 0 rfl; have d1 : wa.cell? ⟨w.heap.size, 1, none⟩ = some (.int .i64 0) := HDa.out.cell 1 rfl; have d2 : wa.cell? ⟨w.heap.size, 2, none⟩ = some (.int .i64 0) := HDa.out.cell 2 rfl; have d3 : wa.cell? ⟨w.heap.size, 3, none⟩ = some (.int .i64 0) := HDa.out.cell 3 rfl; have d4 : wa.cell? ⟨w.heap.size, 4, none⟩ = some (.int .i64 0) := HDa.out.cell 4 rfl; have d5 : wa.cell? ⟨w.heap.size, 5, none⟩ = some (.int .i64 0) := HDa.out.cell 5 rfl; have d6 : wa.cell? ⟨w.heap.size, 6, none⟩ = some (.string ⟨#[]⟩) := HDa.out.cell 6 rfl; have d7 : wa.cell? ⟨w.heap.size, 7, none⟩ = some (.slice none 0 0) := HDa.out.cell 7 rfl; have d8 : wa.cell? ⟨w.heap.size, 8, none⟩ = some (.int .i64 0) := HDa.out.cell 8 rfl; have d9 : wa.cell? ⟨w.heap.size, 9, none⟩ = some (.int .i64 0) := HDa.out.cell 9 rfl; have da : wa.cell? ⟨w.heap.size, 10, none⟩ = some (.int .i64 0) := HDa.out.cell 10 rfl; have hfd := fun o => HDa.out.fr o; have t1 := HXa.out.c1; have ft := HXa.out.fr 1; have hbb := HLT.out; have hzz := HZ3.out)
        | fail)
      refine bodyPost_ret (v := .agg #[.int .i64 s, .int .i64 q, .int .i64 2, .int .i64 0, .int .i64 0, .int .i64 0, .string ⟨#[]⟩, .slice none 0 0, .int .i64 x, .int .i64 y, .int .i64 z]) (by simp [results, Tryd.results62, go_sem, d0, d1, d2, d3, d4, d5, d6, d7, d8, d9, da]) rfl (qOpP_mk ⟨s, q, 2, ⟨0, 0, 0⟩, ⟨#[]⟩, [], x, y, z⟩ none 0 0 HGN9.out HPG2.out ?_ ?_ ?_)
      · refine owns_base (b := bo + 1) ?_ (Nat.le_succ_of_le (Nat.le_of_lt HZ3.out))
        iterate 11 refine ownsRow_setCell_below ?_ (Nat.lt_succ_of_lt HZ3.out) _
        exact HOa.out
      · iterate 11 refine TkAt.far ?_ HNE.out.symm _
        exact HXa.out
      · iterate 11 refine Kb.far ?_ (by exact Nat.le_refl _) _
        exact HKa.out
  · have hb2 : (k == 2) = false := by simp; exact hk2
    obtain ⟨e, st2, he⟩ : ∃ e s, rdE st1 = (e, s) := ⟨_, _, rfl⟩
    obtain ⟨t, st3, ht⟩ : ∃ e s, rdT st2 = (e, s) := ⟨_, _, rfl⟩
    obtain ⟨n, st4, hn⟩ : ∃ e s, rd st3 = (e, s) := ⟨_, _, rfl⟩
    have HPE := Lib.hid (fun j hj => pg_edit H3.out hk2 he ht hn j hj)
    have hs2 : StLe TOPP st2 := by have := rdE_le HL3.out; rw [he] at this; exact this
    have hs3 : StLe TOPP st3 := by have := rdT_le hs2; rw [ht] at this; exact this
    have hs4 : StLe TOPP st4 := by have := rd_le hs3; rw [hn] at this; exact this
    have hts : t.size ≤ TOPP := by have := rdT_size hs2; rw [ht] at this; exact this
    have hnr := rd_range st3
    rw [hn] at hnr
    obtain ⟨hn0, hn1⟩ := hnr
    simp only at hn0 hn1
    obtain ⟨m, rfl⟩ := Int.eq_ofNat_of_zero_le hn0
    rw [Int.toNat_natCast] at HPE
    have H1 := tkElem_any b st1 _ HX5.out HL3.out
    rw [he] at H1
    have H2 := fun wx hx => tkTxt_any b st2 wx hx hs2
    rw [ht] at H2
    have H3' := fun wx hx => HN.out st3 wx hx hs3
    rw [hn] at H3'
    obtain ⟨es, eq, ei⟩ := e
    unfold TkEl El.v at H1
    simp only at H1 H2 H3'
    have HC1 := Lib.hid H1
    have HC2 := Lib.hid H2
    have HC3 := Lib.hid H3'
    have HS4 := Lib.hid hs4
    have HTS := Lib.hid hts
    clear H1 H2 H3' he ht hn hs2 hs3 hs4 hts HN H3 HL3 hn0 hk2
    go_upto_region 5 with (first
      | (go_at_call 88; refine HC1.out.mono ?_; rintro e w6 ⟨rfl, hx, hk⟩; have HX6 := Lib.hid hx; have HK6 := Lib.hid hk; have HB6 := Lib.hid (HBo.out.kb hk HNo.out); have y3 : w6.cell? ⟨bo, 3, none⟩ = some (.int .i64 0) := HB6.out.cell 3 rfl; have y4 : w6.cell? ⟨bo, 4, none⟩ = some (.int .i64 0) := HB6.out.cell 4 rfl; have y5 : w6.cell? ⟨bo, 5, none⟩ = some (.int .i64 0) := HB6.out.cell 5 rfl; have f3 := HB6.out.fr 3; have f4 := HB6.out.fr 4; have f5 := HB6.out.fr 5; clear hx hk)
      | fail)
    have HB7 := Lib.hid (show Hp 36 (((w6.setCell ⟨bo, 3, none⟩ (.int .i64 es)).setCell ⟨bo, 4, none⟩ (.int .i64 eq)).setCell ⟨bo, 5, none⟩ (.int .i64 ei)) bo #[.int .i64 s, .int .i64 q, .int .i64 k, .int .i64 es, .int .i64 eq, .int .i64 ei, .string ⟨#[]⟩, .slice none 0 0, .int .i64 0, .int .i64 0, .int .i64 0] from ((HB6.out.set 3 (.int .i64 es)).set 4 (.int .i64 eq)).set 5 (.int .i64 ei))
    have HX7 := Lib.hid (((HX6.out.far HNo.out.symm (c := 3) (.int .i64 es)).far HNo.out.symm (c := 4) (.int .i64 eq)).far HNo.out.symm (c := 5) (.int .i64 ei))
    have HK7 := Lib.hid ((((HKF.out.trans HK6.out).far (p := ⟨bo, 3, none⟩) (Nat.le_of_lt HZ3.out) (.int .i64 es)).far (p := ⟨bo, 4, none⟩) (Nat.le_of_lt HZ3.out) (.int .i64 eq)).far (p := ⟨bo, 5, none⟩) (Nat.le_of_lt HZ3.out) (.int .i64 ei))
    have HD7 := Lib.hid ((((HBX5.out.kb HK6.out HNE.out).far (Nat.ne_of_lt HZ3.out) (c := 3) (.int .i64 es)).far (Nat.ne_of_lt HZ3.out) (c := 4) (.int .i64 eq)).far (Nat.ne_of_lt HZ3.out) (c := 5) (.int .i64 ei))
    clear y3 y4 y5 f3 f4 f5 o2
    generalize ((w6.setCell ⟨bo, 3, none⟩ (.int .i64 es)).setCell ⟨bo, 4, none⟩ (.int .i64 eq)).setCell ⟨bo, 5, none⟩ (.int .i64 ei) = W7 at *
    go_upto_region 6 with (first
      | (go_at_call 89; refine (HC2.out _ HX7.out).mono ?_; rintro e w8 ⟨rfl, hx, hk⟩; have HX8 := Lib.hid hx; have HK8 := Lib.hid hk; have HB8 := Lib.hid (HB7.out.kb hk HNo.out); have y6 : w8.cell? ⟨bo, 6, none⟩ = some (.string ⟨#[]⟩) := HB8.out.cell 6 rfl; have f6 := HB8.out.fr 6; clear hx hk)
      | fail)
    have HB9 := Lib.hid (show Hp 36 (w8.setCell ⟨bo, 6, none⟩ (.string t)) bo #[.int .i64 s, .int .i64 q, .int .i64 k, .int .i64 es, .int .i64 eq, .int .i64 ei, .string t, .slice none 0 0, .int .i64 0, .int .i64 0, .int .i64 0] from HB8.out.set 6 (.string t))
    have HX9 := Lib.hid (HX8.out.far HNo.out.symm (c := 6) (.string t))
    have HK9 := Lib.hid ((HK7.out.trans HK8.out).far (p := ⟨bo, 6, none⟩) (Nat.le_of_lt HZ3.out) (.string t))
    have HD9 := Lib.hid ((HD7.out.kb HK8.out HNE.out).far (Nat.ne_of_lt HZ3.out) (c := 6) (.string t))
    clear y6 f6 HB6 HX6 HK6 HB7 HX7 HK7 HD7 HB8 HX8 HK8 HBo HX5 HBX5 HKF
    generalize w8.setCell ⟨bo, 6, none⟩ (.string t) = W9 at *
    go_wp2_with (first
      | (go_at_call 69; refine (HC3.out _ HX9.out).mono ?_; rintro e wb ⟨rfl, hx, hk⟩; have HXb := Lib.hid hx; have HKb := Lib.hid (HK9.out.trans hk); have HBb := Lib.hid (HB9.out.kb hk HNo.out); have HDb := Lib.hid (HD9.out.kb hk HNE.out); clear hx hk)
      | fail)
    clear HX9 HK9 HB9 HD9 HC1 HC2 HC3
    go_loopw [5] (fun i wr => ∃ (j : Nat) (v : Value), j ≤ m ∧ i = .int .i64 j ∧ Hp 36 wr bo #[.int .i64 s, .int .i64 q, .int .i64 k, .int .i64 es, .int .i64 eq, .int .i64 ei, .string t, v, .int .i64 0, .int .i64 0, .int .i64 0] ∧ wr.ownsRow (bo + 1) 34 3 v j (ecs (rdEs j st4).1) ∧ TkAt wr b (rdEs j st4).2 ∧ Hp 36 wr w.heap.size #[.int .i64 0, .int .i64 0, .int .i64 0, .int .i64 0, .int .i64 0, .int .i64 0, .string ⟨#[]⟩, .slice none 0 0, .int .i64 0, .int .i64 0, .int .i64 0] ∧ Kb b w wr) (fun i _ => m - (RowKit.intOf i).toNat)
    case atStart => exact ⟨0, _, Nat.zero_le _, rfl, HBb.out, World.ownsRow_nil _ _ _ _, HXb.out, HDb.out, HKb.out⟩
    case round =>
      clear HXb HKb HBb HDb
      obtain ⟨j, v, hj, rfl, hb, ho, hx, hd, hkb⟩ := hrel
      have HLN := Lib.hid (rdEs_len st4 j)
      obtain ⟨av, cv, hv, hel, hcap, _⟩ := elems_own (by rw [HLN.out]; exact ho)
      rw [HLN.out] at hv hcap
      subst hv
      have HBo := Lib.hid hb
      have HO := Lib.hid ho
      have HX := Lib.hid hx
      have HD := Lib.hid hd
      have HKw := Lib.hid hkb
      have HEL := Lib.hid hel
      have t1 := hx.c1
      clear hb ho hx hd hkb hel
      have hjm2 : (j : Int) ≤ 268435456 := by omega
      by_cases hlj : j < m ∧ (rdEs j st4).2.isNone = false
      · obtain ⟨hl1, hl2⟩ := hlj
        rw [hl2] at t1
        have hl3 : (j : Int) < (m : Int) := by omega
        have hc := tkElem_any b (rdEs j st4).2 wr.drew HX.out.drew (rdEs_le HS4.out j)
        have HST := Lib.hid (show rdEs (j + 1) st4 = ((rdEs j st4).1 ++ [(rdE (rdEs j st4).2).1], (rdE (rdEs j st4).2).2) from rfl)
        unfold TkEl El.v at hc
        generalize rdE (rdEs j st4).2 = x at *
        obtain ⟨⟨xs, xq, xi⟩, st9⟩ := x
        simp only at hc
        have HC := Lib.hid hc
        have HM1 : RowKit.Hid (j + 1 ≤ maxLen) := Lib.hid (by simp only [maxLen]; omega)
        have HM2 : RowKit.Hid ((j + 1) * 24 ≤ 140737488355328) := Lib.hid (by omega)
        have HWB := Lib.hid (show bo + 1 ≤ wr.heap.size from HBo.out.lt)
        have cwd : wr.drew.cell? ⟨bo, 7, none⟩ = some (.slice av j cv) := HBo.out.cell 7 rfl
        clear hc hl2
        go_upto_region 10 with fail
        clear t1
        go_region_law (first
          | (go_simp; go_at_call 88; refine HC.out.mono ?_; rintro e w2 ⟨rfl, hx2, hk2⟩; have HX2 := Lib.hid hx2; have HB2 := Lib.hid (HBo.out.drew.kb hk2 HNo.out); have HR2 := Lib.hid (HD.out.drew.kb hk2 HNE.out); have HO2 := Lib.hid (hk2.owns (owns_belE HO.out (below_dr wr)) (by have h1 := HLT.out; have h2 := HZ3.out; omega)); have HK2 := Lib.hid (HKw.out.drew.trans hk2); have HS2 := Lib.hid hk2.size; have c22 : w2.cell? ⟨bo, 7, none⟩ = some (.slice av j cv) := HB2.out.cell 7 rfl; have hbl := HB2.out.lt; clear hx2 hk2)
          | (refine step_append_lies _ (by rfl) _ _ _ (by rfl) (bo + 1) 34 i0 (.agg #[.int .i64 0, .int .i64 0, .int .i64 0]) 3 24 Tryd.underlying23 hi hz0 hz1 hz2 (by rfl) (by decide) (.slice av j cv) j _ (by rfl) (HO2.out.alloc _) ⟨w2.heap.size, 0, none⟩ 1 1 (El.cs ⟨xs, xq, xi⟩) (by rfl) (by rfl) (cell_three_new w2 ⟨xs, xq, xi⟩ _) (cs_one ⟨xs, xq, xi⟩) (by omega) HM1.out HM2.out (by have h1 := HS2.out; have h2 := HWB.out; simp at h1; simp; omega) _ rfl ?_; intro g8 c8 w8 hown8 hgrow8 hat8 hlt8; have HD8 := Lib.hid (((Below.refl (bo + 1) w2).alloc (by have h1 := HS2.out; have h2 := HWB.out; simp at h1; omega) _).grown hgrow8 (by have h1 := HS2.out; have h2 := HWB.out; simp at h1; simp; omega) (own_ge HO2.out)); have HO8 := Lib.hid hown8; have HB8 := Lib.hid (HB2.out.below HD8.out (Nat.lt_succ_self _)); have f7 := HB8.out.fr 7; have c87 : w8.cell? ⟨bo, 7, none⟩ = some (.slice av j cv) := HB8.out.cell 7 rfl; have HX8 := Lib.hid (HX2.out.belowB HD8.out (by have h1 := HLT.out; have h2 := HZ3.out; omega)); have HR8 := Lib.hid (HR2.out.below HD8.out (by have h2 := HZ3.out; omega)); have HK8 := Lib.hid (HK2.out.below (HD8.out.mono (by have h2 := HZ3.out; omega))); clear hown8 hgrow8 hat8 hlt8)
          | fail)
        all_goals
          go_wp2_with fail
          go_roundw
          case rel => exact ⟨j + 1, _, by omega, by go_num, HB8.out.set 7 _, by rw [HST.out, ecs_append]; have e1 : ecs [⟨xs, xq, xi⟩] = El.cs ⟨xs, xq, xi⟩ := (by simp [ecs]); rw [e1]; exact ownsRow_setCell_below HO8.out (Nat.lt_succ_self _) _, by rw [HST.out]; exact HX8.out.far HNo.out.symm _, HR8.out.far (Nat.ne_of_lt HZ3.out) _, HK8.out.far (p := ⟨bo, 7, none⟩) (Nat.le_of_lt HZ3.out) _⟩
          case measure => simp [RowKit.intOf]; omega
      · have hx : (¬ j < m ∧ decide (j < m) = false ∧ j = m) ∨ (j < m ∧ decide (j < m) = true ∧ (rdEs j st4).2.isNone = true) := by
          by_cases h1 : j < m
          · refine .inr ⟨h1, decide_eq_true h1, ?_⟩
            cases hz : (rdEs j st4).2.isNone
            · exact absurd ⟨h1, hz⟩ hlj
            · rfl
          · exact .inl ⟨h1, decide_eq_false h1, by omega⟩
        have HPG := Lib.hid (HPE.out j (by
          rcases hx with ⟨_, _, h⟩ | ⟨h, _, h2⟩
          · exact .inl h
          · refine .inr ⟨?_, by omega⟩
            cases hz : (rdEs j st4).2 with
            | none => rfl
            | some l => rw [hz] at h2; cases h2))
        have HGN9 := Lib.hid (show (rdEs j st4).1.length = j from rdEs_len st4 j)
        clear hlj HPE HS4
        generalize (rdEs j st4).1 = gg at *
        generalize (rdEs j st4).2 = st5 at *
        rcases hx with ⟨hx, hx2, hx4⟩ | ⟨hx, hx2, hx3⟩
        rotate_left
        · rw [hx3] at t1
          clear hx3
          go_upto_region 11 with fail
          clear t1 hx hx2
          have HB9 := HBo
          have HD9 := HD
          have HX9 := HX
          have HK9 := HKw
          have HO9 := HO
          have HTB9 := Lib.hid (HTB.out wr HKw.out)
          have HSZ9 := Lib.hid (show t.size ≤ 60000 from Nat.le_trans HTS.out (by unfold TOPP; decide))
          have HEL9 := HEL
          generalize wr = W9 at *
          have e0 : W9.cell? ⟨bo, 0, none⟩ = some (.int .i64 s) := HB9.out.cell 0 rfl
          have e1 : W9.cell? ⟨bo, 1, none⟩ = some (.int .i64 q) := HB9.out.cell 1 rfl
          have e2 : W9.cell? ⟨bo, 2, none⟩ = some (.int .i64 k) := HB9.out.cell 2 rfl
          have e3 : W9.cell? ⟨bo, 3, none⟩ = some (.int .i64 es) := HB9.out.cell 3 rfl
          have e4 : W9.cell? ⟨bo, 4, none⟩ = some (.int .i64 eq) := HB9.out.cell 4 rfl
          have e5 : W9.cell? ⟨bo, 5, none⟩ = some (.int .i64 ei) := HB9.out.cell 5 rfl
          have e6 : W9.cell? ⟨bo, 6, none⟩ = some (.string t) := HB9.out.cell 6 rfl
          have e7 : W9.cell? ⟨bo, 7, none⟩ = some (.slice av j cv) := HB9.out.cell 7 rfl
          have e8 : W9.cell? ⟨bo, 8, none⟩ = some (.int .i64 0) := HB9.out.cell 8 rfl
          have e9 : W9.cell? ⟨bo, 9, none⟩ = some (.int .i64 0) := HB9.out.cell 9 rfl
          have ea : W9.cell? ⟨bo, 10, none⟩ = some (.int .i64 0) := HB9.out.cell 10 rfl
          have d0 : W9.cell? ⟨w.heap.size, 0, none⟩ = some (.int .i64 0) := HD9.out.cell 0 rfl
          have d1 : W9.cell? ⟨w.heap.size, 1, none⟩ = some (.int .i64 0) := HD9.out.cell 1 rfl
          have d2 : W9.cell? ⟨w.heap.size, 2, none⟩ = some (.int .i64 0) := HD9.out.cell 2 rfl
          have d3 : W9.cell? ⟨w.heap.size, 3, none⟩ = some (.int .i64 0) := HD9.out.cell 3 rfl
          have d4 : W9.cell? ⟨w.heap.size, 4, none⟩ = some (.int .i64 0) := HD9.out.cell 4 rfl
          have d5 : W9.cell? ⟨w.heap.size, 5, none⟩ = some (.int .i64 0) := HD9.out.cell 5 rfl
          have d6 : W9.cell? ⟨w.heap.size, 6, none⟩ = some (.string ⟨#[]⟩) := HD9.out.cell 6 rfl
          have d7 : W9.cell? ⟨w.heap.size, 7, none⟩ = some (.slice none 0 0) := HD9.out.cell 7 rfl
          have d8 : W9.cell? ⟨w.heap.size, 8, none⟩ = some (.int .i64 0) := HD9.out.cell 8 rfl
          have d9 : W9.cell? ⟨w.heap.size, 9, none⟩ = some (.int .i64 0) := HD9.out.cell 9 rfl
          have da : W9.cell? ⟨w.heap.size, 10, none⟩ = some (.int .i64 0) := HD9.out.cell 10 rfl
          have hfd := fun o => HD9.out.fr o
          have HRO := Lib.hid (rOp_any ⟨s, q, k, ⟨es, eq, ei⟩, t, gg, 0, 0, 0⟩ av cv W9 HTB9.out HSZ9.out HEL9.out)
          unfold OpD.v at HRO
          simp only [HGN9.out] at HRO
          unfold pgEnd at HPG
          cases hok : okOp ⟨s, q, k, ⟨es, eq, ei⟩, t, gg, 0, 0, 0⟩
          · simp only [hok] at HRO
            have HPG2 := Lib.hid (show PgOk st ⟨s, q, k, ⟨es, eq, ei⟩, t, gg, 0, 0, 0⟩ none from by have h9 := HPG.out; rw [hok] at h9; exact h9)
            clear hok
            go_wp2_with (first
              | (go_at_call 17; refine HRO.out.mono ?_; rintro e wa ⟨rfl, hb⟩; have HBa := Lib.hid (HB9.out.step hb); have HDa := Lib.hid (HD9.out.step hb); have HXa := Lib.hid (HX9.out.below hb); have HKa := Lib.hid (HK9.out.next hb); have HOa := Lib.hid (owns_belE HO9.out hb); clear hb e0 d0 e1 d1 e2 d2 e3 d3 e4 d4 e5 d5 e6 d6 e7 d7 e8 d8 e9 d9 ea da hfd; have e0 : wa.cell? ⟨bo, 0, none⟩ = some (.int .i64 s) := HBa.out.cell 0 rfl; have e1 : wa.cell? ⟨bo, 1, none⟩ = some (.int .i64 q) := HBa.out.cell 1 rfl; have e2 : wa.cell? ⟨bo, 2, none⟩ = some (.int .i64 k) := HBa.out.cell 2 rfl; have e3 : wa.cell? ⟨bo, 3, none⟩ = some (.int .i64 es) := HBa.out.cell 3 rfl; have e4 : wa.cell? ⟨bo, 4, none⟩ = some (.int .i64 eq) := HBa.out.cell 4 rfl; have e5 : wa.cell? ⟨bo, 5, none⟩ = some (.int .i64 ei) := HBa.out.cell 5 rfl; have e6 : wa.cell? ⟨bo, 6, none⟩ = some (.string t) := HBa.out.cell 6 rfl; have e7 : wa.cell? ⟨bo, 7, none⟩ = some (.slice av j cv) := HBa.out.cell 7 rfl; have e8 : wa.cell? ⟨bo, 8, none⟩ = some (.int .i64 0) := HBa.out.cell 8 rfl; have e9 : wa.cell? ⟨bo, 9, none⟩ = some (.int .i64 0) := HBa.out.cell 9 rfl; have ea : wa.cell? ⟨bo, 10, none⟩ = some (.int .i64 0) := HBa.out.cell 10 rfl; have d0 : wa.cell? ⟨w.heap.size, 0, none⟩ = some (.int .i64 0) := HDa.out.cell 0 rfl; have d1 : wa.cell? ⟨w.heap.size, 1, none⟩ = some (.int .i64 0) := HDa.out.cell 1 rfl; have d2 : wa.cell? ⟨w.heap.size, 2, none⟩ = some (.int .i64 0) := HDa.out.cell 2 rfl; have d3 : wa.cell? ⟨w.heap.size, 3, none⟩ = some (.int .i64 0) := HDa.out.cell 3 rfl; have d4 : wa.cell? ⟨w.heap.size, 4, none⟩ = some (.int .i64 0) := HDa.out.cell 4 rfl; have d5 : wa.cell? ⟨w.heap.size, 5, none⟩ = some (.int .i64 0) := HDa.out.cell 5 rfl; have d6 : wa.cell? ⟨w.heap.size, 6, none⟩ = some (.string ⟨#[]⟩) := HDa.out.cell 6 rfl; have d7 : wa.cell? ⟨w.heap.size, 7, none⟩ = some (.slice none 0 0) := HDa.out.cell 7 rfl; have d8 : wa.cell? ⟨w.heap.size, 8, none⟩ = some (.int .i64 0) := HDa.out.cell 8 rfl; have d9 : wa.cell? ⟨w.heap.size, 9, none⟩ = some (.int .i64 0) := HDa.out.cell 9 rfl; have da : wa.cell? ⟨w.heap.size, 10, none⟩ = some (.int .i64 0) := HDa.out.cell 10 rfl; have hfd := fun o => HDa.out.fr o; have t1 := HXa.out.c1; have ft := HXa.out.fr 1; have hbb := HLT.out; have hzz := HZ3.out)
              | fail)
            refine bodyPost_ret (v := .agg #[.int .i64 s, .int .i64 q, .int .i64 k, .int .i64 es, .int .i64 eq, .int .i64 ei, .string t, .slice av j cv, .int .i64 0, .int .i64 0, .int .i64 0]) (by simp [results, Tryd.results62, go_sem, d0, d1, d2, d3, d4, d5, d6, d7, d8, d9, da]) rfl (qOpP_mk ⟨s, q, k, ⟨es, eq, ei⟩, t, gg, 0, 0, 0⟩ av cv j HGN9.out HPG2.out ?_ ?_ ?_)
            · refine owns_base (b := bo + 1) ?_ (Nat.le_succ_of_le (Nat.le_of_lt HZ3.out))
              iterate 11 refine ownsRow_setCell_below ?_ (Nat.lt_succ_of_lt HZ3.out) _
              refine ownsRow_setCell_below ?_ (by have h1 := HLT.out; have h2 := HZ3.out; show b < _; omega) _
              exact HOa.out
            · iterate 11 refine TkAt.far ?_ HNE.out.symm _
              exact HXa.out.spoil
            · iterate 11 refine Kb.far ?_ (by exact Nat.le_refl _) _
              exact HKa.out.set _ _
          · simp only [hok] at HRO
            have HPG2 := Lib.hid (show PgOk st ⟨s, q, k, ⟨es, eq, ei⟩, t, gg, 0, 0, 0⟩ st5 from by have h9 := HPG.out; rw [hok] at h9; exact h9)
            clear hok
            go_wp2_with (first
              | (go_at_call 17; refine HRO.out.mono ?_; rintro e wa ⟨rfl, hb⟩; have HBa := Lib.hid (HB9.out.step hb); have HDa := Lib.hid (HD9.out.step hb); have HXa := Lib.hid (HX9.out.below hb); have HKa := Lib.hid (HK9.out.next hb); have HOa := Lib.hid (owns_belE HO9.out hb); clear hb e0 d0 e1 d1 e2 d2 e3 d3 e4 d4 e5 d5 e6 d6 e7 d7 e8 d8 e9 d9 ea da hfd; have e0 : wa.cell? ⟨bo, 0, none⟩ = some (.int .i64 s) := HBa.out.cell 0 rfl; have e1 : wa.cell? ⟨bo, 1, none⟩ = some (.int .i64 q) := HBa.out.cell 1 rfl; have e2 : wa.cell? ⟨bo, 2, none⟩ = some (.int .i64 k) := HBa.out.cell 2 rfl; have e3 : wa.cell? ⟨bo, 3, none⟩ = some (.int .i64 es) := HBa.out.cell 3 rfl; have e4 : wa.cell? ⟨bo, 4, none⟩ = some (.int .i64 eq) := HBa.out.cell 4 rfl; have e5 : wa.cell? ⟨bo, 5, none⟩ = some (.int .i64 ei) := HBa.out.cell 5 rfl; have e6 : wa.cell? ⟨bo, 6, none⟩ = some (.string t) := HBa.out.cell 6 rfl; have e7 : wa.cell? ⟨bo, 7, none⟩ = some (.slice av j cv) := HBa.out.cell 7 rfl; have e8 : wa.cell? ⟨bo, 8, none⟩ = some (.int .i64 0) := HBa.out.cell 8 rfl; have e9 : wa.cell? ⟨bo, 9, none⟩ = some (.int .i64 0) := HBa.out.cell 9 rfl; have ea : wa.cell? ⟨bo, 10, none⟩ = some (.int .i64 0) := HBa.out.cell 10 rfl; have d0 : wa.cell? ⟨w.heap.size, 0, none⟩ = some (.int .i64 0) := HDa.out.cell 0 rfl; have d1 : wa.cell? ⟨w.heap.size, 1, none⟩ = some (.int .i64 0) := HDa.out.cell 1 rfl; have d2 : wa.cell? ⟨w.heap.size, 2, none⟩ = some (.int .i64 0) := HDa.out.cell 2 rfl; have d3 : wa.cell? ⟨w.heap.size, 3, none⟩ = some (.int .i64 0) := HDa.out.cell 3 rfl; have d4 : wa.cell? ⟨w.heap.size, 4, none⟩ = some (.int .i64 0) := HDa.out.cell 4 rfl; have d5 : wa.cell? ⟨w.heap.size, 5, none⟩ = some (.int .i64 0) := HDa.out.cell 5 rfl; have d6 : wa.cell? ⟨w.heap.size, 6, none⟩ = some (.string ⟨#[]⟩) := HDa.out.cell 6 rfl; have d7 : wa.cell? ⟨w.heap.size, 7, none⟩ = some (.slice none 0 0) := HDa.out.cell 7 rfl; have d8 : wa.cell? ⟨w.heap.size, 8, none⟩ = some (.int .i64 0) := HDa.out.cell 8 rfl; have d9 : wa.cell? ⟨w.heap.size, 9, none⟩ = some (.int .i64 0) := HDa.out.cell 9 rfl; have da : wa.cell? ⟨w.heap.size, 10, none⟩ = some (.int .i64 0) := HDa.out.cell 10 rfl; have hfd := fun o => HDa.out.fr o; have t1 := HXa.out.c1; have ft := HXa.out.fr 1; have hbb := HLT.out; have hzz := HZ3.out)
              | fail)
            refine bodyPost_ret (v := .agg #[.int .i64 s, .int .i64 q, .int .i64 k, .int .i64 es, .int .i64 eq, .int .i64 ei, .string t, .slice av j cv, .int .i64 0, .int .i64 0, .int .i64 0]) (by simp [results, Tryd.results62, go_sem, d0, d1, d2, d3, d4, d5, d6, d7, d8, d9, da]) rfl (qOpP_mk ⟨s, q, k, ⟨es, eq, ei⟩, t, gg, 0, 0, 0⟩ av cv j HGN9.out HPG2.out ?_ ?_ ?_)
            · refine owns_base (b := bo + 1) ?_ (Nat.le_succ_of_le (Nat.le_of_lt HZ3.out))
              iterate 11 refine ownsRow_setCell_below ?_ (Nat.lt_succ_of_lt HZ3.out) _
              exact HOa.out
            · iterate 11 refine TkAt.far ?_ HNE.out.symm _
              exact HXa.out
            · iterate 11 refine Kb.far ?_ (by exact Nat.le_refl _) _
              exact HKa.out
        · clear hx4
          go_upto_region 11 with fail
          clear t1 hx hx2
          have HB9 := HBo
          have HD9 := HD
          have HX9 := HX
          have HK9 := HKw
          have HO9 := HO
          have HTB9 := Lib.hid (HTB.out wr HKw.out)
          have HSZ9 := Lib.hid (show t.size ≤ 60000 from Nat.le_trans HTS.out (by unfold TOPP; decide))
          have HEL9 := HEL
          generalize wr = W9 at *
          have e0 : W9.cell? ⟨bo, 0, none⟩ = some (.int .i64 s) := HB9.out.cell 0 rfl
          have e1 : W9.cell? ⟨bo, 1, none⟩ = some (.int .i64 q) := HB9.out.cell 1 rfl
          have e2 : W9.cell? ⟨bo, 2, none⟩ = some (.int .i64 k) := HB9.out.cell 2 rfl
          have e3 : W9.cell? ⟨bo, 3, none⟩ = some (.int .i64 es) := HB9.out.cell 3 rfl
          have e4 : W9.cell? ⟨bo, 4, none⟩ = some (.int .i64 eq) := HB9.out.cell 4 rfl
          have e5 : W9.cell? ⟨bo, 5, none⟩ = some (.int .i64 ei) := HB9.out.cell 5 rfl
          have e6 : W9.cell? ⟨bo, 6, none⟩ = some (.string t) := HB9.out.cell 6 rfl
          have e7 : W9.cell? ⟨bo, 7, none⟩ = some (.slice av j cv) := HB9.out.cell 7 rfl
          have e8 : W9.cell? ⟨bo, 8, none⟩ = some (.int .i64 0) := HB9.out.cell 8 rfl
          have e9 : W9.cell? ⟨bo, 9, none⟩ = some (.int .i64 0) := HB9.out.cell 9 rfl
          have ea : W9.cell? ⟨bo, 10, none⟩ = some (.int .i64 0) := HB9.out.cell 10 rfl
          have d0 : W9.cell? ⟨w.heap.size, 0, none⟩ = some (.int .i64 0) := HD9.out.cell 0 rfl
          have d1 : W9.cell? ⟨w.heap.size, 1, none⟩ = some (.int .i64 0) := HD9.out.cell 1 rfl
          have d2 : W9.cell? ⟨w.heap.size, 2, none⟩ = some (.int .i64 0) := HD9.out.cell 2 rfl
          have d3 : W9.cell? ⟨w.heap.size, 3, none⟩ = some (.int .i64 0) := HD9.out.cell 3 rfl
          have d4 : W9.cell? ⟨w.heap.size, 4, none⟩ = some (.int .i64 0) := HD9.out.cell 4 rfl
          have d5 : W9.cell? ⟨w.heap.size, 5, none⟩ = some (.int .i64 0) := HD9.out.cell 5 rfl
          have d6 : W9.cell? ⟨w.heap.size, 6, none⟩ = some (.string ⟨#[]⟩) := HD9.out.cell 6 rfl
          have d7 : W9.cell? ⟨w.heap.size, 7, none⟩ = some (.slice none 0 0) := HD9.out.cell 7 rfl
          have d8 : W9.cell? ⟨w.heap.size, 8, none⟩ = some (.int .i64 0) := HD9.out.cell 8 rfl
          have d9 : W9.cell? ⟨w.heap.size, 9, none⟩ = some (.int .i64 0) := HD9.out.cell 9 rfl
          have da : W9.cell? ⟨w.heap.size, 10, none⟩ = some (.int .i64 0) := HD9.out.cell 10 rfl
          have hfd := fun o => HD9.out.fr o
          have HRO := Lib.hid (rOp_any ⟨s, q, k, ⟨es, eq, ei⟩, t, gg, 0, 0, 0⟩ av cv W9 HTB9.out HSZ9.out HEL9.out)
          unfold OpD.v at HRO
          simp only [HGN9.out] at HRO
          unfold pgEnd at HPG
          cases hok : okOp ⟨s, q, k, ⟨es, eq, ei⟩, t, gg, 0, 0, 0⟩
          · simp only [hok] at HRO
            have HPG2 := Lib.hid (show PgOk st ⟨s, q, k, ⟨es, eq, ei⟩, t, gg, 0, 0, 0⟩ none from by have h9 := HPG.out; rw [hok] at h9; exact h9)
            clear hok
            go_wp2_with (first
              | (go_at_call 17; refine HRO.out.mono ?_; rintro e wa ⟨rfl, hb⟩; have HBa := Lib.hid (HB9.out.step hb); have HDa := Lib.hid (HD9.out.step hb); have HXa := Lib.hid (HX9.out.below hb); have HKa := Lib.hid (HK9.out.next hb); have HOa := Lib.hid (owns_belE HO9.out hb); clear hb e0 d0 e1 d1 e2 d2 e3 d3 e4 d4 e5 d5 e6 d6 e7 d7 e8 d8 e9 d9 ea da hfd; have e0 : wa.cell? ⟨bo, 0, none⟩ = some (.int .i64 s) := HBa.out.cell 0 rfl; have e1 : wa.cell? ⟨bo, 1, none⟩ = some (.int .i64 q) := HBa.out.cell 1 rfl; have e2 : wa.cell? ⟨bo, 2, none⟩ = some (.int .i64 k) := HBa.out.cell 2 rfl; have e3 : wa.cell? ⟨bo, 3, none⟩ = some (.int .i64 es) := HBa.out.cell 3 rfl; have e4 : wa.cell? ⟨bo, 4, none⟩ = some (.int .i64 eq) := HBa.out.cell 4 rfl; have e5 : wa.cell? ⟨bo, 5, none⟩ = some (.int .i64 ei) := HBa.out.cell 5 rfl; have e6 : wa.cell? ⟨bo, 6, none⟩ = some (.string t) := HBa.out.cell 6 rfl; have e7 : wa.cell? ⟨bo, 7, none⟩ = some (.slice av j cv) := HBa.out.cell 7 rfl; have e8 : wa.cell? ⟨bo, 8, none⟩ = some (.int .i64 0) := HBa.out.cell 8 rfl; have e9 : wa.cell? ⟨bo, 9, none⟩ = some (.int .i64 0) := HBa.out.cell 9 rfl; have ea : wa.cell? ⟨bo, 10, none⟩ = some (.int .i64 0) := HBa.out.cell 10 rfl; have d0 : wa.cell? ⟨w.heap.size, 0, none⟩ = some (.int .i64 0) := HDa.out.cell 0 rfl; have d1 : wa.cell? ⟨w.heap.size, 1, none⟩ = some (.int .i64 0) := HDa.out.cell 1 rfl; have d2 : wa.cell? ⟨w.heap.size, 2, none⟩ = some (.int .i64 0) := HDa.out.cell 2 rfl; have d3 : wa.cell? ⟨w.heap.size, 3, none⟩ = some (.int .i64 0) := HDa.out.cell 3 rfl; have d4 : wa.cell? ⟨w.heap.size, 4, none⟩ = some (.int .i64 0) := HDa.out.cell 4 rfl; have d5 : wa.cell? ⟨w.heap.size, 5, none⟩ = some (.int .i64 0) := HDa.out.cell 5 rfl; have d6 : wa.cell? ⟨w.heap.size, 6, none⟩ = some (.string ⟨#[]⟩) := HDa.out.cell 6 rfl; have d7 : wa.cell? ⟨w.heap.size, 7, none⟩ = some (.slice none 0 0) := HDa.out.cell 7 rfl; have d8 : wa.cell? ⟨w.heap.size, 8, none⟩ = some (.int .i64 0) := HDa.out.cell 8 rfl; have d9 : wa.cell? ⟨w.heap.size, 9, none⟩ = some (.int .i64 0) := HDa.out.cell 9 rfl; have da : wa.cell? ⟨w.heap.size, 10, none⟩ = some (.int .i64 0) := HDa.out.cell 10 rfl; have hfd := fun o => HDa.out.fr o; have t1 := HXa.out.c1; have ft := HXa.out.fr 1; have hbb := HLT.out; have hzz := HZ3.out)
              | fail)
            refine bodyPost_ret (v := .agg #[.int .i64 s, .int .i64 q, .int .i64 k, .int .i64 es, .int .i64 eq, .int .i64 ei, .string t, .slice av j cv, .int .i64 0, .int .i64 0, .int .i64 0]) (by simp [results, Tryd.results62, go_sem, d0, d1, d2, d3, d4, d5, d6, d7, d8, d9, da]) rfl (qOpP_mk ⟨s, q, k, ⟨es, eq, ei⟩, t, gg, 0, 0, 0⟩ av cv j HGN9.out HPG2.out ?_ ?_ ?_)
            · refine owns_base (b := bo + 1) ?_ (Nat.le_succ_of_le (Nat.le_of_lt HZ3.out))
              iterate 11 refine ownsRow_setCell_below ?_ (Nat.lt_succ_of_lt HZ3.out) _
              refine ownsRow_setCell_below ?_ (by have h1 := HLT.out; have h2 := HZ3.out; show b < _; omega) _
              exact HOa.out
            · iterate 11 refine TkAt.far ?_ HNE.out.symm _
              exact HXa.out.spoil
            · iterate 11 refine Kb.far ?_ (by exact Nat.le_refl _) _
              exact HKa.out.set _ _
          · simp only [hok] at HRO
            have HPG2 := Lib.hid (show PgOk st ⟨s, q, k, ⟨es, eq, ei⟩, t, gg, 0, 0, 0⟩ st5 from by have h9 := HPG.out; rw [hok] at h9; exact h9)
            clear hok
            go_wp2_with (first
              | (go_at_call 17; refine HRO.out.mono ?_; rintro e wa ⟨rfl, hb⟩; have HBa := Lib.hid (HB9.out.step hb); have HDa := Lib.hid (HD9.out.step hb); have HXa := Lib.hid (HX9.out.below hb); have HKa := Lib.hid (HK9.out.next hb); have HOa := Lib.hid (owns_belE HO9.out hb); clear hb e0 d0 e1 d1 e2 d2 e3 d3 e4 d4 e5 d5 e6 d6 e7 d7 e8 d8 e9 d9 ea da hfd; have e0 : wa.cell? ⟨bo, 0, none⟩ = some (.int .i64 s) := HBa.out.cell 0 rfl; have e1 : wa.cell? ⟨bo, 1, none⟩ = some (.int .i64 q) := HBa.out.cell 1 rfl; have e2 : wa.cell? ⟨bo, 2, none⟩ = some (.int .i64 k) := HBa.out.cell 2 rfl; have e3 : wa.cell? ⟨bo, 3, none⟩ = some (.int .i64 es) := HBa.out.cell 3 rfl; have e4 : wa.cell? ⟨bo, 4, none⟩ = some (.int .i64 eq) := HBa.out.cell 4 rfl; have e5 : wa.cell? ⟨bo, 5, none⟩ = some (.int .i64 ei) := HBa.out.cell 5 rfl; have e6 : wa.cell? ⟨bo, 6, none⟩ = some (.string t) := HBa.out.cell 6 rfl; have e7 : wa.cell? ⟨bo, 7, none⟩ = some (.slice av j cv) := HBa.out.cell 7 rfl; have e8 : wa.cell? ⟨bo, 8, none⟩ = some (.int .i64 0) := HBa.out.cell 8 rfl; have e9 : wa.cell? ⟨bo, 9, none⟩ = some (.int .i64 0) := HBa.out.cell 9 rfl; have ea : wa.cell? ⟨bo, 10, none⟩ = some (.int .i64 0) := HBa.out.cell 10 rfl; have d0 : wa.cell? ⟨w.heap.size, 0, none⟩ = some (.int .i64 0) := HDa.out.cell 0 rfl; have d1 : wa.cell? ⟨w.heap.size, 1, none⟩ = some (.int .i64 0) := HDa.out.cell 1 rfl; have d2 : wa.cell? ⟨w.heap.size, 2, none⟩ = some (.int .i64 0) := HDa.out.cell 2 rfl; have d3 : wa.cell? ⟨w.heap.size, 3, none⟩ = some (.int .i64 0) := HDa.out.cell 3 rfl; have d4 : wa.cell? ⟨w.heap.size, 4, none⟩ = some (.int .i64 0) := HDa.out.cell 4 rfl; have d5 : wa.cell? ⟨w.heap.size, 5, none⟩ = some (.int .i64 0) := HDa.out.cell 5 rfl; have d6 : wa.cell? ⟨w.heap.size, 6, none⟩ = some (.string ⟨#[]⟩) := HDa.out.cell 6 rfl; have d7 : wa.cell? ⟨w.heap.size, 7, none⟩ = some (.slice none 0 0) := HDa.out.cell 7 rfl; have d8 : wa.cell? ⟨w.heap.size, 8, none⟩ = some (.int .i64 0) := HDa.out.cell 8 rfl; have d9 : wa.cell? ⟨w.heap.size, 9, none⟩ = some (.int .i64 0) := HDa.out.cell 9 rfl; have da : wa.cell? ⟨w.heap.size, 10, none⟩ = some (.int .i64 0) := HDa.out.cell 10 rfl; have hfd := fun o => HDa.out.fr o; have t1 := HXa.out.c1; have ft := HXa.out.fr 1; have hbb := HLT.out; have hzz := HZ3.out)
              | fail)
            refine bodyPost_ret (v := .agg #[.int .i64 s, .int .i64 q, .int .i64 k, .int .i64 es, .int .i64 eq, .int .i64 ei, .string t, .slice av j cv, .int .i64 0, .int .i64 0, .int .i64 0]) (by simp [results, Tryd.results62, go_sem, d0, d1, d2, d3, d4, d5, d6, d7, d8, d9, da]) rfl (qOpP_mk ⟨s, q, k, ⟨es, eq, ei⟩, t, gg, 0, 0, 0⟩ av cv j HGN9.out HPG2.out ?_ ?_ ?_)
            · refine owns_base (b := bo + 1) ?_ (Nat.le_succ_of_le (Nat.le_of_lt HZ3.out))
              iterate 11 refine ownsRow_setCell_below ?_ (Nat.lt_succ_of_lt HZ3.out) _
              exact HOa.out
            · iterate 11 refine TkAt.far ?_ HNE.out.symm _
              exact HXa.out
            · iterate 11 refine Kb.far ?_ (by exact Nat.le_refl _) _
              exact HKa.out
end Go.Proofs.YtnkinbobnhdpaaaDoor
