/- the page's TakeOp -/
import Derived.Test.YtnkinbobnhdpaaaDoorKPgO
import Derived.Test.YtnkinbobnhdpaaaDoorKTake
namespace Go.Proofs.YtnkinbobnhdpaaaDoor
open Go.RowKit Go.Lib Go.Sort

theorem pg_of_none {st : St} {o : OpD} (h : PgOk st o none) : tkOp st = none := by
  cases hx : tkOp st with
  | none => rfl
  | some p => have := h.1; rw [hx] at this; cases this
theorem pg_of_some {st : St} {o : OpD} {r : List UInt8} (h : PgOk st o (some r)) : tkOp st = some (o, r) := by
  cases hx : tkOp st with
  | none => have := h.1; rw [hx] at this; cases this
  | some p =>
    obtain ⟨o', r'⟩ := p
    have h1 := h.1
    rw [hx] at h1
    simp only [Option.map_some, Option.some.injEq] at h1
    rw [h.2 o' r' hx, h1]

set_option maxRecDepth 100000 in
set_option maxHeartbeats 4000000 in
theorem pTakeOp_any (l : List UInt8) (w : World) (hT : ∀ w' : World, Below w.heap.size w w' → Tabs w') (hs : l.length ≤ TOPP) : Calls Tryd.prog 23 #[Nb.S l] w (TkPost (.bool true) (.bool false) (tkOp (some l)) w) := by
  have hst : StLe TOPP (some l) := fun x hx => by cases hx; exact hs
  obtain ⟨W2, hW2⟩ : ∃ W2, (w.alloc (.cells #[.int .i64 0, .int .i64 0, .int .i64 0, .int .i64 0, .int .i64 0, .int .i64 0, .string ⟨#[]⟩, .slice none 0 0, .int .i64 0, .int .i64 0, .int .i64 0] 36)).alloc (.cells #[Nb.S l, .bool false] 103) = W2 := ⟨_, rfl⟩
  have HX2 := Lib.hid (show TkAt W2 (w.heap.size + 1) (some l) from by
    have h := TkAt.new (w.alloc (.cells #[.int .i64 0, .int .i64 0, .int .i64 0, .int .i64 0, .int .i64 0, .int .i64 0, .string ⟨#[]⟩, .slice none 0 0, .int .i64 0, .int .i64 0, .int .i64 0] 36)) l hs
    rw [World.size_alloc, hW2] at h
    exact h)
  have HR2 := Lib.hid (show Hp 36 W2 w.heap.size #[.int .i64 0, .int .i64 0, .int .i64 0, .int .i64 0, .int .i64 0, .int .i64 0, .string ⟨#[]⟩, .slice none 0 0, .int .i64 0, .int .i64 0, .int .i64 0] from hW2 ▸ (Hp.new w _ _).step (below_al _ _))
  have HB2 := Lib.hid (show Below w.heap.size w W2 from hW2 ▸ (below_al w _).trans ((below_al _ _).mono (by simp)))
  have HNE := Lib.hid (show w.heap.size ≠ w.heap.size + 1 from by omega)
  have HOP := Lib.hid (tkOpPg_any (w.heap.size + 1) (some l) W2 (fun w' hk => hT w' (hk.to HB2.out (Nat.le_succ _) HB2.out.size)) HX2.out hst)
  have HW2 := Lib.hid hW2
  clear hW2 hst hT hs
  go_enter Tryd.func23, Tryd.ntmps23
  go_upto_region 2 with fail
  rw [HW2.out]
  clear HW2
  go_upto_region 3 with (first
    | (go_at_call 62; refine HOP.out.mono ?_; rintro e w3 ⟨o, a3, cap3, st', rfl, hok, hown, hx, hk⟩; have HX3 := Lib.hid hx; have HR3 := Lib.hid (HR2.out.kb hk HNE.out); have HB3 := Lib.hid (hk.to HB2.out (Nat.le_succ _) HB2.out.size); have HO3 := Lib.hid hown; have HOK := Lib.hid hok; have HZ33 := Lib.hid hk.size; have HB2L := Lib.hid HB2.out.size; have HB2S := Lib.hid (show w.heap.size < W2.heap.size from Nat.lt_trans (Nat.lt_succ_self _) HX2.out.lt); obtain ⟨site, seq, kind, ⟨es, eq, ei⟩, text, gone, of, num, gen⟩ := o; unfold OpD.v; clear hk hx hown hok HOP)
    | fail)
  have HX4 := Lib.hid (HX3.out.alloc (.cells #[.int .i64 site, .int .i64 seq, .int .i64 kind, .int .i64 es, .int .i64 eq, .int .i64 ei, .string text, .slice a3 gone.length cap3, .int .i64 of, .int .i64 num, .int .i64 gen] 36))
  have HR4 := Lib.hid (HR3.out.step (below_al w3 (.cells #[.int .i64 site, .int .i64 seq, .int .i64 kind, .int .i64 es, .int .i64 eq, .int .i64 ei, .string text, .slice a3 gone.length cap3, .int .i64 of, .int .i64 num, .int .i64 gen] 36)))
  have HB4 := Lib.hid (HB3.out.trans ((below_al w3 (.cells #[.int .i64 site, .int .i64 seq, .int .i64 kind, .int .i64 es, .int .i64 eq, .int .i64 ei, .string text, .slice a3 gone.length cap3, .int .i64 of, .int .i64 num, .int .i64 gen] 36)).mono HB3.out.size))
  have HO4 := Lib.hid (owns_belE HO3.out (below_al w3 (.cells #[.int .i64 site, .int .i64 seq, .int .i64 kind, .int .i64 es, .int .i64 eq, .int .i64 ei, .string text, .slice a3 gone.length cap3, .int .i64 of, .int .i64 num, .int .i64 gen] 36)))
  have HA4 := Lib.hid (Hp.new w3 #[.int .i64 site, .int .i64 seq, .int .i64 kind, .int .i64 es, .int .i64 eq, .int .i64 ei, .string text, .slice a3 gone.length cap3, .int .i64 of, .int .i64 num, .int .i64 gen] 36)
  have HAR := Lib.hid (show w.heap.size < w3.heap.size from Nat.lt_of_lt_of_le (Nat.lt_succ_self _) (Nat.le_of_lt HX3.out.lt))
  generalize w3.alloc (.cells #[.int .i64 site, .int .i64 seq, .int .i64 kind, .int .i64 es, .int .i64 eq, .int .i64 ei, .string text, .slice a3 gone.length cap3, .int .i64 of, .int .i64 num, .int .i64 gen] 36) = W4 at *
  obtain ⟨bo, hbo⟩ : ∃ bo, w3.heap.size = bo := ⟨_, rfl⟩
  rw [hbo] at HA4 HAR ⊢
  have HZ3 := Lib.hid (show W2.heap.size ≤ bo from hbo ▸ HZ33.out)
  clear hbo HX2 HR2 HB2 HR3 HX3 HB3 HO3
  cases st' with
  | none =>
    have HTN := Lib.hid (pg_of_none HOK.out)
    have r1 : W4.cell? ⟨w.heap.size + 1, 1, none⟩ = some (.bool true) := HX4.out.c1
    have e0 : W4.cell? ⟨bo, 0, none⟩ = some (.int .i64 site) := HA4.out.cell 0 rfl
    have e1 : W4.cell? ⟨bo, 1, none⟩ = some (.int .i64 seq) := HA4.out.cell 1 rfl
    have e2 : W4.cell? ⟨bo, 2, none⟩ = some (.int .i64 kind) := HA4.out.cell 2 rfl
    have e3 : W4.cell? ⟨bo, 3, none⟩ = some (.int .i64 es) := HA4.out.cell 3 rfl
    have e4 : W4.cell? ⟨bo, 4, none⟩ = some (.int .i64 eq) := HA4.out.cell 4 rfl
    have e5 : W4.cell? ⟨bo, 5, none⟩ = some (.int .i64 ei) := HA4.out.cell 5 rfl
    have e6 : W4.cell? ⟨bo, 6, none⟩ = some (.string text) := HA4.out.cell 6 rfl
    have e7 : W4.cell? ⟨bo, 7, none⟩ = some (.slice a3 gone.length cap3) := HA4.out.cell 7 rfl
    have e8 : W4.cell? ⟨bo, 8, none⟩ = some (.int .i64 of) := HA4.out.cell 8 rfl
    have e9 : W4.cell? ⟨bo, 9, none⟩ = some (.int .i64 num) := HA4.out.cell 9 rfl
    have ea : W4.cell? ⟨bo, 10, none⟩ = some (.int .i64 gen) := HA4.out.cell 10 rfl
    have d0 : W4.cell? ⟨w.heap.size, 0, none⟩ = some (.int .i64 0) := HR4.out.cell 0 rfl
    have d1 : W4.cell? ⟨w.heap.size, 1, none⟩ = some (.int .i64 0) := HR4.out.cell 1 rfl
    have d2 : W4.cell? ⟨w.heap.size, 2, none⟩ = some (.int .i64 0) := HR4.out.cell 2 rfl
    have d3 : W4.cell? ⟨w.heap.size, 3, none⟩ = some (.int .i64 0) := HR4.out.cell 3 rfl
    have d4 : W4.cell? ⟨w.heap.size, 4, none⟩ = some (.int .i64 0) := HR4.out.cell 4 rfl
    have d5 : W4.cell? ⟨w.heap.size, 5, none⟩ = some (.int .i64 0) := HR4.out.cell 5 rfl
    have d6 : W4.cell? ⟨w.heap.size, 6, none⟩ = some (.string ⟨#[]⟩) := HR4.out.cell 6 rfl
    have d7 : W4.cell? ⟨w.heap.size, 7, none⟩ = some (.slice none 0 0) := HR4.out.cell 7 rfl
    have d8 : W4.cell? ⟨w.heap.size, 8, none⟩ = some (.int .i64 0) := HR4.out.cell 8 rfl
    have d9 : W4.cell? ⟨w.heap.size, 9, none⟩ = some (.int .i64 0) := HR4.out.cell 9 rfl
    have da : W4.cell? ⟨w.heap.size, 10, none⟩ = some (.int .i64 0) := HR4.out.cell 10 rfl
    have hfd := fun o => HR4.out.fr o
    clear HOK
    go_wp2_with fail
    refine bodyPost_ret (v := .tuple #[zOpV, Nb.S [], .bool false]) (by simp [results, Tryd.results23, go_sem, zOpV, d0, d1, d2, d3, d4, d5, d6, d7, d8, d9, da]) rfl (tkPost_no HTN.out ?_)
    iterate 11 refine Below.setCell ?_ (by exact Nat.le_refl _) _
    exact HB4.out
  | some rest =>
    have HTN := Lib.hid (pg_of_some HOK.out)
    have r1 : W4.cell? ⟨w.heap.size + 1, 1, none⟩ = some (.bool false) := HX4.out.c1
    have r0 : W4.cell? ⟨w.heap.size + 1, 0, none⟩ = some (Nb.S rest) := HX4.out.c0
    have e0 : W4.cell? ⟨bo, 0, none⟩ = some (.int .i64 site) := HA4.out.cell 0 rfl
    have e1 : W4.cell? ⟨bo, 1, none⟩ = some (.int .i64 seq) := HA4.out.cell 1 rfl
    have e2 : W4.cell? ⟨bo, 2, none⟩ = some (.int .i64 kind) := HA4.out.cell 2 rfl
    have e3 : W4.cell? ⟨bo, 3, none⟩ = some (.int .i64 es) := HA4.out.cell 3 rfl
    have e4 : W4.cell? ⟨bo, 4, none⟩ = some (.int .i64 eq) := HA4.out.cell 4 rfl
    have e5 : W4.cell? ⟨bo, 5, none⟩ = some (.int .i64 ei) := HA4.out.cell 5 rfl
    have e6 : W4.cell? ⟨bo, 6, none⟩ = some (.string text) := HA4.out.cell 6 rfl
    have e7 : W4.cell? ⟨bo, 7, none⟩ = some (.slice a3 gone.length cap3) := HA4.out.cell 7 rfl
    have e8 : W4.cell? ⟨bo, 8, none⟩ = some (.int .i64 of) := HA4.out.cell 8 rfl
    have e9 : W4.cell? ⟨bo, 9, none⟩ = some (.int .i64 num) := HA4.out.cell 9 rfl
    have ea : W4.cell? ⟨bo, 10, none⟩ = some (.int .i64 gen) := HA4.out.cell 10 rfl
    have d0 : W4.cell? ⟨w.heap.size, 0, none⟩ = some (.int .i64 0) := HR4.out.cell 0 rfl
    have d1 : W4.cell? ⟨w.heap.size, 1, none⟩ = some (.int .i64 0) := HR4.out.cell 1 rfl
    have d2 : W4.cell? ⟨w.heap.size, 2, none⟩ = some (.int .i64 0) := HR4.out.cell 2 rfl
    have d3 : W4.cell? ⟨w.heap.size, 3, none⟩ = some (.int .i64 0) := HR4.out.cell 3 rfl
    have d4 : W4.cell? ⟨w.heap.size, 4, none⟩ = some (.int .i64 0) := HR4.out.cell 4 rfl
    have d5 : W4.cell? ⟨w.heap.size, 5, none⟩ = some (.int .i64 0) := HR4.out.cell 5 rfl
    have d6 : W4.cell? ⟨w.heap.size, 6, none⟩ = some (.string ⟨#[]⟩) := HR4.out.cell 6 rfl
    have d7 : W4.cell? ⟨w.heap.size, 7, none⟩ = some (.slice none 0 0) := HR4.out.cell 7 rfl
    have d8 : W4.cell? ⟨w.heap.size, 8, none⟩ = some (.int .i64 0) := HR4.out.cell 8 rfl
    have d9 : W4.cell? ⟨w.heap.size, 9, none⟩ = some (.int .i64 0) := HR4.out.cell 9 rfl
    have da : W4.cell? ⟨w.heap.size, 10, none⟩ = some (.int .i64 0) := HR4.out.cell 10 rfl
    have hfd := fun o => HR4.out.fr o
    clear HOK
    go_wp2_with fail
    go_region
    all_goals
      go_wp2
      refine bodyPost_ret (v := .tuple #[.agg #[.int .i64 site, .int .i64 seq, .int .i64 kind, .int .i64 es, .int .i64 eq, .int .i64 ei, .string text, .slice a3 gone.length cap3, .int .i64 of, .int .i64 num, .int .i64 gen], Nb.S rest, .bool true]) (by simp [results, Tryd.results23, go_sem, d0, d1, d2, d3, d4, d5, d6, d7, d8, d9, da]) rfl (tkPost_yes ⟨site, seq, kind, ⟨es, eq, ei⟩, text, gone, of, num, gen⟩ rest a3 cap3 HTN.out ?_ ?_)
      · refine owns_base (b := W2.heap.size) ?_ HB2L.out
        with_reducible refine owns_belE ?_ (below_dr _)
        iterate 11 refine ownsRow_setCell_below ?_ HB2S.out _
        exact HO4.out
      · with_reducible refine Below.drew ?_
        iterate 11 refine Below.setCell ?_ (by exact Nat.le_refl _) _
        exact HB4.out
end Go.Proofs.YtnkinbobnhdpaaaDoor
