/- package pack: Take -/
import Derived.Test.YtnkinbobnhdpaaaDoorKRdM
namespace Go.Proofs.YtnkinbobnhdpaaaDoor
open Go.RowKit Go.Lib Go.Shelf Go.Sort

def zMsV : Value := .agg #[.int .i64 0, .int .i64 0, .int .i64 0, .int .i64 0, .int .i64 0, .int .i64 0, .slice none 0 0]
def msW (m : MsD) (v : Value) : Value := .agg #[.int .i64 m.kind, .int .i64 m.site, .int .i64 m.nonce, .int .i64 m.known, .int .i64 m.seq, .int .i64 m.err, v]
/-- what Take tells -/
def TmPost (yes no : Value) (r : Option MsD) (w : World) (e : Ending) (w' : World) : Prop :=
  (∃ m v L, r = some m ∧ e = .returned (.tuple #[msW m v, yes]) ∧ OwnO w.heap.size w' v L ∧ OpR.os L = m.ops ∧ Below w.heap.size w w') ∨
  (r = none ∧ e = .returned (.tuple #[zMsV, no]) ∧ Below w.heap.size w w')
theorem tmPost_no {yes no : Value} {r : Option MsD} {w w' : World} (h : r = none) (hb : Below w.heap.size w w') : TmPost yes no r w (.returned (.tuple #[zMsV, no])) w' := .inr ⟨h, rfl, hb⟩
theorem tmPost_yes {yes no : Value} {r : Option MsD} {w w' : World} (m : MsD) (v : Value) (L : List OpR) (h : r = some m) (ho : OwnO w.heap.size w' v L) (hos : OpR.os L = m.ops) (hb : Below w.heap.size w w') : TmPost yes no r w (.returned (.tuple #[msW m v, yes])) w' := .inl ⟨m, v, L, h, rfl, ho, hos, hb⟩
theorem rdMs_len (st : St) : (rdMs st).1.ops.length ≤ 4 := by
  unfold rdMs
  simp only [rdOps_len]
  have := rdN_range 4 (by decide) (rd6 st).2
  omega

set_option maxRecDepth 100000 in
set_option maxHeartbeats 8000000 in
theorem Take_any (l : List UInt8) (w : World) (hs : l.length ≤ TOP) : Calls Tryd.prog 32 #[Nb.S l] w (TmPost (.int .i64 0) (.int .i64 7) (tkMs l) w) := by
  have hst : StLe TOP (some l) := fun x hx => by cases hx; exact hs
  have hlen := rdMs_len (some l)
  have HMS := Lib.hid (fun b wx hx => rdMsg_any b (some l) wx hx hst)
  have HTK := Lib.hid (show tkMs l = match rdMs (some l) with | (m, some []) => if okMs m = true then some m else none | _ => none from rfl)
  generalize tkMs l = TK at *
  generalize rdMs (some l) = R at *
  obtain ⟨m, st⟩ := R
  simp only at hlen HMS
  have HLE := Lib.hid hlen
  clear hs hst hlen
  have HCK := Lib.hid (fun a cap L wx hx => pkCheck_any m a cap L wx hx)
  obtain ⟨kind, site, nonce, known, seq, err, ops⟩ := m
  unfold RdMsP at HMS
  unfold MsD.v at HCK
  simp only at HLE HMS HCK
  obtain ⟨W2, hW2⟩ : ∃ W2, (w.alloc (.cells #[.int .i64 0, .int .i64 0, .int .i64 0, .int .i64 0, .int .i64 0, .int .i64 0, .slice none 0 0] 53)).alloc (.cells #[Nb.S l, .bool false] 99) = W2 := ⟨_, rfl⟩
  have HX2 := Lib.hid (show RdAt W2 (w.heap.size + 1) (some l) from by
    have h := RdAt.new (w.alloc (.cells #[.int .i64 0, .int .i64 0, .int .i64 0, .int .i64 0, .int .i64 0, .int .i64 0, .slice none 0 0] 53)) l
    rw [World.size_alloc, hW2] at h
    exact h)
  have HR2 := Lib.hid (show Hp 53 W2 w.heap.size #[.int .i64 0, .int .i64 0, .int .i64 0, .int .i64 0, .int .i64 0, .int .i64 0, .slice none 0 0] from hW2 ▸ (Hp.new w _ _).step (below_al _ _))
  have HB2 := Lib.hid (show Below w.heap.size w W2 from hW2 ▸ (below_al w _).trans ((below_al _ _).mono (by simp)))
  have HNE := Lib.hid (show w.heap.size ≠ w.heap.size + 1 from by omega)
  have HW2 := Lib.hid hW2
  clear hW2
  go_enter Tryd.func32, Tryd.ntmps32
  go_upto_region 2 with fail
  rw [HW2.out]
  clear HW2
  go_upto_region 3 with (first
    | (go_at_call 68; refine (HMS.out _ _ HX2.out).mono ?_; rintro e w3 ⟨v3, L, rfl, ho, hos, hx, hk⟩; have HX3 := Lib.hid hx; have HR3 := Lib.hid (HR2.out.kb hk HNE.out); have HB3 := Lib.hid (hk.to HB2.out (Nat.le_succ _) HB2.out.size); have HO3 := Lib.hid ho; have HOS := Lib.hid hos; have HZ2 := Lib.hid HX2.out.lt; have hl4 : L.length ≤ 4 := (by rw [← os_len L, hos]; exact HLE.out); have HL4 := Lib.hid hl4; obtain ⟨av, cv, hv3, hops3, _⟩ := ho.ops (Nat.le_trans hl4 (by unfold BIG; decide)); subst hv3; have HOP3 := Lib.hid hops3; clear ho hos hx hk hl4 hops3)
    | fail)
  obtain ⟨n, hn⟩ : ∃ n, L.length = n := ⟨_, rfl⟩
  have HLN := Lib.hid hn
  rw [hn] at HO3 HL4 ⊢
  clear hn
  have HM4 := Lib.hid (Hp.new w3 #[.int .i64 kind, .int .i64 site, .int .i64 nonce, .int .i64 known, .int .i64 seq, .int .i64 err, .slice av n cv] 53)
  have HS4 := Lib.hid (below_al w3 (.cells #[.int .i64 kind, .int .i64 site, .int .i64 nonce, .int .i64 known, .int .i64 seq, .int .i64 err, .slice av n cv] 53))
  generalize w3.alloc (.cells #[.int .i64 kind, .int .i64 site, .int .i64 nonce, .int .i64 known, .int .i64 seq, .int .i64 err, .slice av n cv] 53) = W4 at *
  have HX4 := Lib.hid (HX3.out.below HS4.out)
  have HR4 := Lib.hid (HR3.out.step HS4.out)
  have HB4 := Lib.hid (HB3.out.trans (HS4.out.mono HB3.out.size))
  have HO4 := Lib.hid ((HO3.out.below HS4.out).weak (base' := w.heap.size + 1) (Nat.le_of_lt HZ2.out))
  have HOP4 := Lib.hid (HOP3.out.below HS4.out)
  obtain ⟨bm, hbm⟩ : ∃ b, w3.heap.size = b := ⟨_, rfl⟩
  rw [hbm] at HM4 ⊢
  clear HMS HX2 HR2 HB2 HX3 HR3 HB3 HO3 HZ2 HOP3 HS4 hbm
  have HON := Lib.hid (show ops.length = n from by rw [← HLN.out, ← os_len L, HOS.out])
  -- tail
  have HIN := Lib.hid (show MsIn W4 ⟨kind, site, nonce, known, seq, err, ops⟩ av L from ⟨HOP4.out, HOS.out⟩)
  simp only [HON.out] at HCK
  have d0 : W4.cell? ⟨w.heap.size, 0, none⟩ = some (.int .i64 0) := HR4.out.cell 0 rfl
  have d1 : W4.cell? ⟨w.heap.size, 1, none⟩ = some (.int .i64 0) := HR4.out.cell 1 rfl
  have d2 : W4.cell? ⟨w.heap.size, 2, none⟩ = some (.int .i64 0) := HR4.out.cell 2 rfl
  have d3 : W4.cell? ⟨w.heap.size, 3, none⟩ = some (.int .i64 0) := HR4.out.cell 3 rfl
  have d4 : W4.cell? ⟨w.heap.size, 4, none⟩ = some (.int .i64 0) := HR4.out.cell 4 rfl
  have d5 : W4.cell? ⟨w.heap.size, 5, none⟩ = some (.int .i64 0) := HR4.out.cell 5 rfl
  have d6 : W4.cell? ⟨w.heap.size, 6, none⟩ = some (.slice none 0 0) := HR4.out.cell 6 rfl
  have hfd := fun o => HR4.out.fr o
  match st with
  | none =>
    have HTN := Lib.hid (show TK = none from HTK.out)
    have r1 : W4.cell? ⟨w.heap.size + 1, 1, none⟩ = some (.bool true) := HX4.out.c1
    clear HCK HTK
    go_wp2_with fail
    refine bodyPost_ret (v := .tuple #[zMsV, .int .i64 7]) (by simp [results, Tryd.results32, go_sem, zMsV, d0, d1, d2, d3, d4, d5, d6]) rfl (tmPost_no HTN.out ?_)
    iterate 7 refine Below.setCell ?_ (by exact Nat.le_refl _) _
    exact HB4.out
  | some (x :: rr) =>
    have HTN := Lib.hid (show TK = none from HTK.out)
    have r1 : W4.cell? ⟨w.heap.size + 1, 1, none⟩ = some (.bool false) := HX4.out.c1
    have r0 : W4.cell? ⟨w.heap.size + 1, 0, none⟩ = some (.string ⟨(x :: rr).toArray⟩) := HX4.out.c0
    obtain ⟨tb, htb⟩ : ∃ tb : ByteArray, (⟨(x :: rr).toArray⟩ : ByteArray) = tb := ⟨_, rfl⟩
    rw [htb] at r0
    have htn : ¬ tb = ⟨#[]⟩ := fun h => by rw [← htb] at h; have h2 := congrArg (fun b => b.data.size) h; simp at h2
    rcases text_cases tb with h9 | ⟨_, ht2, ht3⟩
    · exact absurd h9 htn
    clear HCK HTK htn htb
    go_wp2_with fail
    refine bodyPost_ret (v := .tuple #[zMsV, .int .i64 7]) (by simp [results, Tryd.results32, go_sem, zMsV, d0, d1, d2, d3, d4, d5, d6]) rfl (tmPost_no HTN.out ?_)
    iterate 7 refine Below.setCell ?_ (by exact Nat.le_refl _) _
    exact HB4.out
  | some [] =>
    have r1 : W4.cell? ⟨w.heap.size + 1, 1, none⟩ = some (.bool false) := HX4.out.c1
    have r0 : W4.cell? ⟨w.heap.size + 1, 0, none⟩ = some (.string ⟨#[]⟩) := HX4.out.c0
    have m0 : W4.cell? ⟨bm, 0, none⟩ = some (.int .i64 kind) := HM4.out.cell 0 rfl
    have m1 : W4.cell? ⟨bm, 1, none⟩ = some (.int .i64 site) := HM4.out.cell 1 rfl
    have m2 : W4.cell? ⟨bm, 2, none⟩ = some (.int .i64 nonce) := HM4.out.cell 2 rfl
    have m3 : W4.cell? ⟨bm, 3, none⟩ = some (.int .i64 known) := HM4.out.cell 3 rfl
    have m4 : W4.cell? ⟨bm, 4, none⟩ = some (.int .i64 seq) := HM4.out.cell 4 rfl
    have m5 : W4.cell? ⟨bm, 5, none⟩ = some (.int .i64 err) := HM4.out.cell 5 rfl
    have m6 : W4.cell? ⟨bm, 6, none⟩ = some (.slice av n cv) := HM4.out.cell 6 rfl
    cases hk : okMs ⟨kind, site, nonce, known, seq, err, ops⟩
    · have HTN := Lib.hid (show TK = none from by have h9 := HTK.out; simp only [hk] at h9; exact h9)
      rw [hk] at HCK
      clear HTK hk
      go_wp2_with (first
        | (go_at_call 30; refine (HCK.out av cv L _ HIN.out).mono ?_; rintro e w5 ⟨rfl, hb⟩; have HM5 := Lib.hid (HM4.out.step hb); have HR5 := Lib.hid (HR4.out.step hb); have HB5 := Lib.hid (HB4.out.trans (hb.mono HB4.out.size)); have HO5 := Lib.hid (HO4.out.below hb); clear hb m0 m1 m2 m3 m4 m5 m6 d0 d1 d2 d3 d4 d5 d6 hfd r0 r1; have m0 : w5.cell? ⟨bm, 0, none⟩ = some (.int .i64 kind) := HM5.out.cell 0 rfl; have m1 : w5.cell? ⟨bm, 1, none⟩ = some (.int .i64 site) := HM5.out.cell 1 rfl; have m2 : w5.cell? ⟨bm, 2, none⟩ = some (.int .i64 nonce) := HM5.out.cell 2 rfl; have m3 : w5.cell? ⟨bm, 3, none⟩ = some (.int .i64 known) := HM5.out.cell 3 rfl; have m4 : w5.cell? ⟨bm, 4, none⟩ = some (.int .i64 seq) := HM5.out.cell 4 rfl; have m5 : w5.cell? ⟨bm, 5, none⟩ = some (.int .i64 err) := HM5.out.cell 5 rfl; have m6 : w5.cell? ⟨bm, 6, none⟩ = some (.slice av n cv) := HM5.out.cell 6 rfl; have d0 : w5.cell? ⟨w.heap.size, 0, none⟩ = some (.int .i64 0) := HR5.out.cell 0 rfl; have d1 : w5.cell? ⟨w.heap.size, 1, none⟩ = some (.int .i64 0) := HR5.out.cell 1 rfl; have d2 : w5.cell? ⟨w.heap.size, 2, none⟩ = some (.int .i64 0) := HR5.out.cell 2 rfl; have d3 : w5.cell? ⟨w.heap.size, 3, none⟩ = some (.int .i64 0) := HR5.out.cell 3 rfl; have d4 : w5.cell? ⟨w.heap.size, 4, none⟩ = some (.int .i64 0) := HR5.out.cell 4 rfl; have d5 : w5.cell? ⟨w.heap.size, 5, none⟩ = some (.int .i64 0) := HR5.out.cell 5 rfl; have d6 : w5.cell? ⟨w.heap.size, 6, none⟩ = some (.slice none 0 0) := HR5.out.cell 6 rfl; have hfd := fun o => HR5.out.fr o)
        | fail)
      refine bodyPost_ret (v := .tuple #[zMsV, .int .i64 7]) (by simp [results, Tryd.results32, go_sem, zMsV, d0, d1, d2, d3, d4, d5, d6]) rfl (tmPost_no HTN.out ?_)
      iterate 7 refine Below.setCell ?_ (by exact Nat.le_refl _) _
      exact HB5.out
    · have HTN := Lib.hid (show TK = some ⟨kind, site, nonce, known, seq, err, ops⟩ from by have h9 := HTK.out; simp only [hk] at h9; exact h9)
      rw [hk] at HCK
      clear HTK hk
      go_wp2_with (first
        | (go_at_call 30; refine (HCK.out av cv L _ HIN.out).mono ?_; rintro e w5 ⟨rfl, hb⟩; have HM5 := Lib.hid (HM4.out.step hb); have HR5 := Lib.hid (HR4.out.step hb); have HB5 := Lib.hid (HB4.out.trans (hb.mono HB4.out.size)); have HO5 := Lib.hid (HO4.out.below hb); clear hb m0 m1 m2 m3 m4 m5 m6 d0 d1 d2 d3 d4 d5 d6 hfd r0 r1; have m0 : w5.cell? ⟨bm, 0, none⟩ = some (.int .i64 kind) := HM5.out.cell 0 rfl; have m1 : w5.cell? ⟨bm, 1, none⟩ = some (.int .i64 site) := HM5.out.cell 1 rfl; have m2 : w5.cell? ⟨bm, 2, none⟩ = some (.int .i64 nonce) := HM5.out.cell 2 rfl; have m3 : w5.cell? ⟨bm, 3, none⟩ = some (.int .i64 known) := HM5.out.cell 3 rfl; have m4 : w5.cell? ⟨bm, 4, none⟩ = some (.int .i64 seq) := HM5.out.cell 4 rfl; have m5 : w5.cell? ⟨bm, 5, none⟩ = some (.int .i64 err) := HM5.out.cell 5 rfl; have m6 : w5.cell? ⟨bm, 6, none⟩ = some (.slice av n cv) := HM5.out.cell 6 rfl; have d0 : w5.cell? ⟨w.heap.size, 0, none⟩ = some (.int .i64 0) := HR5.out.cell 0 rfl; have d1 : w5.cell? ⟨w.heap.size, 1, none⟩ = some (.int .i64 0) := HR5.out.cell 1 rfl; have d2 : w5.cell? ⟨w.heap.size, 2, none⟩ = some (.int .i64 0) := HR5.out.cell 2 rfl; have d3 : w5.cell? ⟨w.heap.size, 3, none⟩ = some (.int .i64 0) := HR5.out.cell 3 rfl; have d4 : w5.cell? ⟨w.heap.size, 4, none⟩ = some (.int .i64 0) := HR5.out.cell 4 rfl; have d5 : w5.cell? ⟨w.heap.size, 5, none⟩ = some (.int .i64 0) := HR5.out.cell 5 rfl; have d6 : w5.cell? ⟨w.heap.size, 6, none⟩ = some (.slice none 0 0) := HR5.out.cell 6 rfl; have hfd := fun o => HR5.out.fr o)
        | fail)
      refine bodyPost_ret (v := .tuple #[.agg #[.int .i64 kind, .int .i64 site, .int .i64 nonce, .int .i64 known, .int .i64 seq, .int .i64 err, .slice av n cv], .int .i64 0]) (by simp [results, Tryd.results32, go_sem, d0, d1, d2, d3, d4, d5, d6]) rfl (tmPost_yes ⟨kind, site, nonce, known, seq, err, ops⟩ (.slice av n cv) L HTN.out ?_ HOS.out ?_)
      · refine OwnO.weak (base := w.heap.size + 1) ?_ (Nat.le_succ _)
        iterate 7 refine OwnO.setB ?_ (Nat.lt_succ_self _)
        exact HO5.out
      · iterate 7 refine Below.setCell ?_ (by exact Nat.le_refl _) _
        exact HB5.out
end Go.Proofs.YtnkinbobnhdpaaaDoor
