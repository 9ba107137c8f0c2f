/- package pack: Op, TakeOp -/
import Derived.Test.YtnkinbobnhdpaaaDoorKOp
import Derived.Test.YtnkinbobnhdpaaaDoorKOpB
import Derived.BigRegion
namespace Go.Proofs.YtnkinbobnhdpaaaDoor
open Go.RowKit Go.Lib Go.Shelf

theorem put11 (x0 x1 x2 x3 x4 x5 x6 x7 x8 x9 x10 v0 v1 v2 v3 v4 v5 v6 v7 v8 v9 v10 : Value) : (((((((((((#[x0, x1, x2, x3, x4, x5, x6, x7, x8, x9, x10]).setIfInBounds 0 v0).setIfInBounds 1 v1).setIfInBounds 2 v2).setIfInBounds 3 v3).setIfInBounds 4 v4).setIfInBounds 5 v5).setIfInBounds 6 v6).setIfInBounds 7 v7).setIfInBounds 8 v8).setIfInBounds 9 v9).setIfInBounds 10 v10 = #[v0, v1, v2, v3, v4, v5, v6, v7, v8, v9, v10] := by
  apply Array.ext'
  simp only [Array.toList_setIfInBounds, List.set_cons_succ, List.set_cons_zero]
/-- an op's cells in place of others -/
def put11W (w : World) (b : Nat) (v0 v1 v2 v3 v4 v5 v6 v7 v8 v9 v10 : Value) : World := (((((((((((w.setCell ⟨b, 0, none⟩ v0).setCell ⟨b, 1, none⟩ v1).setCell ⟨b, 2, none⟩ v2).setCell ⟨b, 3, none⟩ v3).setCell ⟨b, 4, none⟩ v4).setCell ⟨b, 5, none⟩ v5).setCell ⟨b, 6, none⟩ v6).setCell ⟨b, 7, none⟩ v7).setCell ⟨b, 8, none⟩ v8).setCell ⟨b, 9, none⟩ v9).setCell ⟨b, 10, none⟩ v10)
theorem Hp.put11 {t : TypeId} {w : World} {b : Nat} (x0 x1 x2 x3 x4 x5 x6 x7 x8 x9 x10 v0 v1 v2 v3 v4 v5 v6 v7 v8 v9 v10 : Value) (h : Hp t w b #[x0, x1, x2, x3, x4, x5, x6, x7, x8, x9, x10]) : Hp t (put11W w b v0 v1 v2 v3 v4 v5 v6 v7 v8 v9 v10) b #[v0, v1, v2, v3, v4, v5, v6, v7, v8, v9, v10] := by
  have h9 := (((((((((((h.set 0 v0).set 1 v1).set 2 v2).set 3 v3).set 4 v4).set 5 v5).set 6 v6).set 7 v7).set 8 v8).set 9 v9).set 10 v10)
  rw [Go.Proofs.YtnkinbobnhdpaaaDoor.put11] at h9
  exact h9
theorem RdAt.put11 {w : World} {b bx : Nat} {st : St} (v0 v1 v2 v3 v4 v5 v6 v7 v8 v9 v10 : Value) (h : RdAt w bx st) (hne : bx ≠ b) : RdAt (put11W w b v0 v1 v2 v3 v4 v5 v6 v7 v8 v9 v10) bx st := (((((((((((h.far hne (c := 0) v0).far hne (c := 1) v1).far hne (c := 2) v2).far hne (c := 3) v3).far hne (c := 4) v4).far hne (c := 5) v5).far hne (c := 6) v6).far hne (c := 7) v7).far hne (c := 8) v8).far hne (c := 9) v9).far hne (c := 10) v10)
theorem below_put11 {w0 w : World} {b B : Nat} (v0 v1 v2 v3 v4 v5 v6 v7 v8 v9 v10 : Value) (h : Below B w0 w) (hb : B ≤ b) : Below B w0 (put11W w b v0 v1 v2 v3 v4 v5 v6 v7 v8 v9 v10) := (((((((((((h.setCell (p := ⟨b, 0, none⟩) hb v0).setCell (p := ⟨b, 1, none⟩) hb v1).setCell (p := ⟨b, 2, none⟩) hb v2).setCell (p := ⟨b, 3, none⟩) hb v3).setCell (p := ⟨b, 4, none⟩) hb v4).setCell (p := ⟨b, 5, none⟩) hb v5).setCell (p := ⟨b, 6, none⟩) hb v6).setCell (p := ⟨b, 7, none⟩) hb v7).setCell (p := ⟨b, 8, none⟩) hb v8).setCell (p := ⟨b, 9, none⟩) hb v9).setCell (p := ⟨b, 10, none⟩) hb v10)
theorem owns_put11 {w : World} {b base size n : Nat} {t : TypeId} {v : Value} {xs : List Value} (v0 v1 v2 v3 v4 v5 v6 v7 v8 v9 v10 : Value) (h : w.ownsRow base t size v n xs) (hb : b < base) : (put11W w b v0 v1 v2 v3 v4 v5 v6 v7 v8 v9 v10).ownsRow base t size v n xs := by
  unfold put11W
  iterate 11 refine ownsRow_setCell_below ?_ hb _
  exact h

def pkV (o : OpD) : Value := if okOp o = true then .tuple #[Nb.S (opB o), .int .i64 0] else .tuple #[Nb.S [], .int .i64 1]
def PkPost (v : Value) (w : World) (e : Ending) (w' : World) : Prop := e = .returned v ∧ Below w.heap.size w w'

set_option maxRecDepth 100000 in
set_option maxHeartbeats 4000000 in
theorem pkOp_any (o : OpD) (a : Option Addr) (cap : Nat) (w : World) (hi : OpIn w o a) : Calls Tryd.prog 16 #[o.v a cap] w (PkPost (pkV o) w) := by
  have hb0 := below_al w (o.obj a cap)
  have HX := Lib.hid (BoxO.new w o a cap)
  have HI := Lib.hid (hi.below hb0)
  have HB := Lib.hid hb0
  have HC := Lib.hid (fun wx hx => xCheck_any o a cap wx hx)
  have HO := Lib.hid (fun wx hx => opBytes_any o a cap wx hx)
  unfold pkV
  generalize opB o = B at *
  clear hb0 hi
  cases hk : okOp o
  · rw [hk] at HC
    clear HO
    rw [if_neg (by simp)]
    clear hk
    obtain ⟨site, seq, kind, ⟨es, eq, ei⟩, text, gone, of, num, gen⟩ := o
    unfold OpD.v OpD.obj at *
    simp only at HX HI HB HC ⊢
    go_enter Tryd.func16, Tryd.ntmps16
    go_wp2_with (first
      | (go_at_call 48; refine (HC.out _ HI.out).mono ?_; rintro e w1 ⟨rfl, hb⟩; have HB1 := Lib.hid (HB.out.trans (hb.mono HB.out.size)); clear hb)
      | fail)
    go_ret2
    exact ⟨rfl, HB1.out⟩
  · rw [hk] at HC
    rw [if_pos rfl]
    have HO2 := Lib.hid (fun wx hx => HO.out wx hx hk)
    clear HO hk
    obtain ⟨site, seq, kind, ⟨es, eq, ei⟩, text, gone, of, num, gen⟩ := o
    unfold OpD.v OpD.obj at *
    simp only at HX HI HB HC HO2 ⊢
    go_enter Tryd.func16, Tryd.ntmps16
    go_wp2_with (first
      | (go_at_call 48; refine (HC.out _ HI.out).mono ?_; rintro e w1 ⟨rfl, hb⟩; have HB1 := Lib.hid (HB.out.trans (hb.mono HB.out.size)); have HI1 := Lib.hid (HI.out.below hb); have HX1 := Lib.hid (HX.out.step hb); have c0 := HX1.out.c0; have c1 := HX1.out.c1; have c2 := HX1.out.c2; have c3 := HX1.out.c3; have c4 := HX1.out.c4; have c5 := HX1.out.c5; have c6 := HX1.out.c6; have c7 := HX1.out.c7; have c8 := HX1.out.c8; have c9 := HX1.out.c9; have ca := HX1.out.ca; simp only at c0 c1 c2 c3 c4 c5 c6 c7 c8 c9 ca; clear hb)
      | (go_at_call 49; refine (HO2.out _ HI1.out).mono ?_; rintro e w2 ⟨rfl, hb⟩; have HB2 := Lib.hid (HB1.out.trans (hb.mono HB1.out.size)); clear hb)
      | fail)
    go_ret2
    exact ⟨rfl, HB2.out⟩

def zOpV : Value := .agg #[.int .i64 0, .int .i64 0, .int .i64 0, .int .i64 0, .int .i64 0, .int .i64 0, .string ⟨#[]⟩, .slice none 0 0, .int .i64 0, .int .i64 0, .int .i64 0]
/-- what TakeOp tells; er: how it says that there is none -/
def TkPost (yes no : Value) (r : Option (OpD × List UInt8)) (w : World) (e : Ending) (w' : World) : Prop :=
  (∃ o rest a cap, r = some (o, rest) ∧ e = .returned (.tuple #[o.v a cap, Nb.S rest, yes]) ∧ w'.ownsRow w.heap.size 34 3 (.slice a o.gone.length cap) o.gone.length (ecs o.gone) ∧ Below w.heap.size w w') ∨
  (r = none ∧ e = .returned (.tuple #[zOpV, Nb.S [], no]) ∧ Below w.heap.size w w')
theorem tkPost_no {yes no : Value} {r : Option (OpD × List UInt8)} {w w' : World} (h : r = none) (hb : Below w.heap.size w w') : TkPost yes no r w (.returned (.tuple #[zOpV, Nb.S [], no])) w' := .inr ⟨h, rfl, hb⟩
theorem tkPost_yes {yes no : Value} {r : Option (OpD × List UInt8)} {w w' : World} (o : OpD) (rest : List UInt8) (a : Option Addr) (cap : Nat) (h : r = some (o, rest)) (ho : w'.ownsRow w.heap.size 34 3 (.slice a o.gone.length cap) o.gone.length (ecs o.gone)) (hb : Below w.heap.size w w') : TkPost yes no r w (.returned (.tuple #[o.v a cap, Nb.S rest, yes])) w' := .inl ⟨o, rest, a, cap, h, rfl, ho, hb⟩
theorem rdEs_text (st : St) (B : Nat) (h : StLe B st) : (rdOp st).1.text.size ≤ B := by
  unfold rdOp
  simp only
  split
  · exact rdT_size (rdE_le (rd3_le h))
  · split
    · exact Nat.zero_le _
    · exact Nat.zero_le _
theorem rdOp_gone (st : St) : (rdOp st).1.gone.length ≤ 200 := by
  unfold rdOp
  simp only
  split
  · simp only [rdEs_len]
    have := rdN_range 200 (by decide) (rdT (rdE (rd3 st).2).2).2
    omega
  · split
    · simp
    · simp

set_option maxRecDepth 100000 in
set_option maxHeartbeats 4000000 in
theorem TakeOp_any (l : List UInt8) (w : World) (hs : l.length ≤ TOP) : Calls Tryd.prog 22 #[Nb.S l] w (TkPost (.int .i64 0) (.int .i64 7) (tkOp (some l)) w) := by
  have hst : StLe TOP (some l) := fun x hx => by cases hx; exact hs
  have htx := rdEs_text (some l) TOP hst
  have hgl := rdOp_gone (some l)
  have HOP := Lib.hid (fun b wx hx => rdOp_any b (some l) wx hx hst)
  have HTK := Lib.hid (show tkOp (some l) = match rdOp (some l) with | (o, some r) => if okOp o = true then some (o, r) else none | (_, none) => none from rfl)
  generalize tkOp (some l) = TK at *
  generalize rdOp (some l) = R at *
  obtain ⟨o, st⟩ := R
  simp only at htx hgl HOP
  have HTX := Lib.hid (show o.text.size ≤ 140737488351232 from by unfold TOP at htx; omega)
  have HGL := Lib.hid (show o.gone.length ≤ 140737488351232 from by omega)
  clear hs hst htx hgl
  obtain ⟨site, seq, kind, ⟨es, eq, ei⟩, text, gone, of, num, gen⟩ := o
  simp only at HTX HGL
  have HCK := Lib.hid (fun a cap wx hx => xCheck_any ⟨site, seq, kind, ⟨es, eq, ei⟩, text, gone, of, num, gen⟩ a cap wx hx)
  unfold RdOpP at HOP
  unfold OpD.v at HOP HCK
  simp only at HOP HCK
  obtain ⟨W2, hW2⟩ : ∃ W2, (w.alloc (.cells #[.int .i64 0, .int .i64 0, .int .i64 0, .int .i64 0, .int .i64 0, .int .i64 0, .string ⟨#[]⟩, .slice none 0 0, .int .i64 0, .int .i64 0, .int .i64 0] 36)).alloc (.cells #[Nb.S l, .bool false] 99) = W2 := ⟨_, rfl⟩
  have HX2 := Lib.hid (show RdAt W2 (w.heap.size + 1) (some l) from by
    have h := RdAt.new (w.alloc (.cells #[.int .i64 0, .int .i64 0, .int .i64 0, .int .i64 0, .int .i64 0, .int .i64 0, .string ⟨#[]⟩, .slice none 0 0, .int .i64 0, .int .i64 0, .int .i64 0] 36)) l
    rw [World.size_alloc, hW2] at h
    exact h)
  have HR2 := Lib.hid (show Hp 36 W2 w.heap.size (opA ⟨0, 0, 0, ⟨0, 0, 0⟩, ⟨#[]⟩, [], 0, 0, 0⟩ none 0 0) from hW2 ▸ (Hp.new w _ _).step (below_al _ _))
  have HB2 := Lib.hid (show Below w.heap.size w W2 from hW2 ▸ (below_al w _).trans ((below_al _ _).mono (by simp)))
  have HNE := Lib.hid (show w.heap.size ≠ w.heap.size + 1 from by omega)
  have HW2 := Lib.hid hW2
  clear hW2
  go_enter Tryd.func22, Tryd.ntmps22
  go_upto_region 2 with fail
  rw [HW2.out]
  clear HW2
  go_upto_region 3 with (first
    | (go_at_call 61; refine (HOP.out _ _ HX2.out).mono ?_; rintro e w3 ⟨a3, cap3, rfl, hown, hx, hk⟩; have HX3 := Lib.hid hx; have HR3 := Lib.hid (HR2.out.kb hk HNE.out); have HB3 := Lib.hid (hk.to HB2.out (Nat.le_succ _) HB2.out.size); have HO3 := Lib.hid hown; have HZ2 := Lib.hid HX2.out.lt; have d0 : w3.cell? ⟨w.heap.size, 0, none⟩ = some (.int .i64 0) := HR3.out.cell 0 rfl; have d1 : w3.cell? ⟨w.heap.size, 1, none⟩ = some (.int .i64 0) := HR3.out.cell 1 rfl; have d2 : w3.cell? ⟨w.heap.size, 2, none⟩ = some (.int .i64 0) := HR3.out.cell 2 rfl; have d3 : w3.cell? ⟨w.heap.size, 3, none⟩ = some (.int .i64 0) := HR3.out.cell 3 rfl; have d4 : w3.cell? ⟨w.heap.size, 4, none⟩ = some (.int .i64 0) := HR3.out.cell 4 rfl; have d5 : w3.cell? ⟨w.heap.size, 5, none⟩ = some (.int .i64 0) := HR3.out.cell 5 rfl; have d6 : w3.cell? ⟨w.heap.size, 6, none⟩ = some (.string ⟨#[]⟩) := HR3.out.cell 6 rfl; have d7 : w3.cell? ⟨w.heap.size, 7, none⟩ = some (.slice none 0 0) := HR3.out.cell 7 rfl; have d8 : w3.cell? ⟨w.heap.size, 8, none⟩ = some (.int .i64 0) := HR3.out.cell 8 rfl; have d9 : w3.cell? ⟨w.heap.size, 9, none⟩ = some (.int .i64 0) := HR3.out.cell 9 rfl; have da : w3.cell? ⟨w.heap.size, 10, none⟩ = some (.int .i64 0) := HR3.out.cell 10 rfl; have hfd := fun o => HR3.out.fr o)
    | fail)
  -- tail
  have HA4 := Lib.hid (Hp.put11 (t := 36) (.int .i64 0) (.int .i64 0) (.int .i64 0) (.int .i64 0) (.int .i64 0) (.int .i64 0) (.string ⟨#[]⟩) (.slice none 0 0) (.int .i64 0) (.int .i64 0) (.int .i64 0) (.int .i64 site) (.int .i64 seq) (.int .i64 kind) (.int .i64 es) (.int .i64 eq) (.int .i64 ei) (.string text) (.slice a3 gone.length cap3) (.int .i64 of) (.int .i64 num) (.int .i64 gen) HR3.out)
  have HX4 := Lib.hid (RdAt.put11 (b := w.heap.size) (.int .i64 site) (.int .i64 seq) (.int .i64 kind) (.int .i64 es) (.int .i64 eq) (.int .i64 ei) (.string text) (.slice a3 gone.length cap3) (.int .i64 of) (.int .i64 num) (.int .i64 gen) HX3.out HNE.out.symm)
  have HB4 := Lib.hid (below_put11 (b := w.heap.size) (.int .i64 site) (.int .i64 seq) (.int .i64 kind) (.int .i64 es) (.int .i64 eq) (.int .i64 ei) (.string text) (.slice a3 gone.length cap3) (.int .i64 of) (.int .i64 num) (.int .i64 gen) HB3.out (Nat.le_refl _))
  have HO4 := Lib.hid (owns_put11 (b := w.heap.size) (.int .i64 site) (.int .i64 seq) (.int .i64 kind) (.int .i64 es) (.int .i64 eq) (.int .i64 ei) (.string text) (.slice a3 gone.length cap3) (.int .i64 of) (.int .i64 num) (.int .i64 gen) (owns_base HO3.out (Nat.le_of_lt HZ2.out) : World.ownsRow w3 (w.heap.size + 1) _ _ _ _ _) (Nat.lt_succ_self _))
  clear d0 d1 d2 d3 d4 d5 d6 d7 d8 d9 da hfd HX2 HR2 HB2 HR3 HX3 HB3 HO3 HZ2
  change Code.wp _ _ _ _ (put11W w3 w.heap.size (.int .i64 site) (.int .i64 seq) (.int .i64 kind) (.int .i64 es) (.int .i64 eq) (.int .i64 ei) (.string text) (.slice a3 gone.length cap3) (.int .i64 of) (.int .i64 num) (.int .i64 gen))
  generalize put11W w3 w.heap.size (.int .i64 site) (.int .i64 seq) (.int .i64 kind) (.int .i64 es) (.int .i64 eq) (.int .i64 ei) (.string text) (.slice a3 gone.length cap3) (.int .i64 of) (.int .i64 num) (.int .i64 gen) = W4 at *
  cases st with
  | none =>
    have HTN := Lib.hid (show TK = none from HTK.out)
    have r1 : W4.cell? ⟨w.heap.size + 1, 1, none⟩ = some (.bool true) := HX4.out.c1
    have e0 : W4.cell? ⟨w.heap.size, 0, none⟩ = some (.int .i64 site) := HA4.out.cell 0 rfl
    have e1 : W4.cell? ⟨w.heap.size, 1, none⟩ = some (.int .i64 seq) := HA4.out.cell 1 rfl
    have e2 : W4.cell? ⟨w.heap.size, 2, none⟩ = some (.int .i64 kind) := HA4.out.cell 2 rfl
    have e3 : W4.cell? ⟨w.heap.size, 3, none⟩ = some (.int .i64 es) := HA4.out.cell 3 rfl
    have e4 : W4.cell? ⟨w.heap.size, 4, none⟩ = some (.int .i64 eq) := HA4.out.cell 4 rfl
    have e5 : W4.cell? ⟨w.heap.size, 5, none⟩ = some (.int .i64 ei) := HA4.out.cell 5 rfl
    have e6 : W4.cell? ⟨w.heap.size, 6, none⟩ = some (.string text) := HA4.out.cell 6 rfl
    have e7 : W4.cell? ⟨w.heap.size, 7, none⟩ = some (.slice a3 gone.length cap3) := HA4.out.cell 7 rfl
    have e8 : W4.cell? ⟨w.heap.size, 8, none⟩ = some (.int .i64 of) := HA4.out.cell 8 rfl
    have e9 : W4.cell? ⟨w.heap.size, 9, none⟩ = some (.int .i64 num) := HA4.out.cell 9 rfl
    have ea : W4.cell? ⟨w.heap.size, 10, none⟩ = some (.int .i64 gen) := HA4.out.cell 10 rfl
    have hfe := fun o => HA4.out.fr o
    clear HOP HCK HTK
    go_wp2_with fail
    refine bodyPost_ret (v := .tuple #[zOpV, Nb.S [], .int .i64 7]) (by simp [results, Tryd.results22, go_sem, zOpV, e0, e1, e2, e3, e4, e5, e6, e7, e8, e9, ea]) rfl (tkPost_no HTN.out ?_)
    iterate 11 refine Below.setCell ?_ (by exact Nat.le_refl _) _
    exact HB4.out
  | some rest =>
    have r1 : W4.cell? ⟨w.heap.size + 1, 1, none⟩ = some (.bool false) := HX4.out.c1
    have e0 : W4.cell? ⟨w.heap.size, 0, none⟩ = some (.int .i64 site) := HA4.out.cell 0 rfl
    have e1 : W4.cell? ⟨w.heap.size, 1, none⟩ = some (.int .i64 seq) := HA4.out.cell 1 rfl
    have e2 : W4.cell? ⟨w.heap.size, 2, none⟩ = some (.int .i64 kind) := HA4.out.cell 2 rfl
    have e3 : W4.cell? ⟨w.heap.size, 3, none⟩ = some (.int .i64 es) := HA4.out.cell 3 rfl
    have e4 : W4.cell? ⟨w.heap.size, 4, none⟩ = some (.int .i64 eq) := HA4.out.cell 4 rfl
    have e5 : W4.cell? ⟨w.heap.size, 5, none⟩ = some (.int .i64 ei) := HA4.out.cell 5 rfl
    have e6 : W4.cell? ⟨w.heap.size, 6, none⟩ = some (.string text) := HA4.out.cell 6 rfl
    have e7 : W4.cell? ⟨w.heap.size, 7, none⟩ = some (.slice a3 gone.length cap3) := HA4.out.cell 7 rfl
    have e8 : W4.cell? ⟨w.heap.size, 8, none⟩ = some (.int .i64 of) := HA4.out.cell 8 rfl
    have e9 : W4.cell? ⟨w.heap.size, 9, none⟩ = some (.int .i64 num) := HA4.out.cell 9 rfl
    have ea : W4.cell? ⟨w.heap.size, 10, none⟩ = some (.int .i64 gen) := HA4.out.cell 10 rfl
    have HOI := Lib.hid (show OpIn W4 ⟨site, seq, kind, ⟨es, eq, ei⟩, text, gone, of, num, gen⟩ a3 from ⟨by obtain ⟨a9, c9, hv9, he9, _⟩ := elems_own HO4.out; simp only [Value.slice.injEq] at hv9; rw [hv9.1]; exact he9, HGL.out, HTX.out⟩)
    cases hk : okOp ⟨site, seq, kind, ⟨es, eq, ei⟩, text, gone, of, num, gen⟩
    · have HTN := Lib.hid (show TK = none from by have h9 := HTK.out; simp only [hk] at h9; exact h9)
      rw [hk] at HCK
      clear HOP HTK hk
      go_wp2_with (first
        | (go_at_call 48; refine (HCK.out _ _ _ HOI.out).mono ?_; rintro e w5 ⟨rfl, hb⟩; have HA5 := Lib.hid (HA4.out.step hb); have HX5 := Lib.hid (HX4.out.below hb); have HB5 := Lib.hid (HB4.out.trans (hb.mono HB4.out.size)); have HO5 := Lib.hid (owns_belE HO4.out hb); clear hb e0 e1 e2 e3 e4 e5 e6 e7 e8 e9 ea r1; have g0 : w5.cell? ⟨w.heap.size, 0, none⟩ = some (.int .i64 site) := HA5.out.cell 0 rfl; have g1 : w5.cell? ⟨w.heap.size, 1, none⟩ = some (.int .i64 seq) := HA5.out.cell 1 rfl; have g2 : w5.cell? ⟨w.heap.size, 2, none⟩ = some (.int .i64 kind) := HA5.out.cell 2 rfl; have g3 : w5.cell? ⟨w.heap.size, 3, none⟩ = some (.int .i64 es) := HA5.out.cell 3 rfl; have g4 : w5.cell? ⟨w.heap.size, 4, none⟩ = some (.int .i64 eq) := HA5.out.cell 4 rfl; have g5 : w5.cell? ⟨w.heap.size, 5, none⟩ = some (.int .i64 ei) := HA5.out.cell 5 rfl; have g6 : w5.cell? ⟨w.heap.size, 6, none⟩ = some (.string text) := HA5.out.cell 6 rfl; have g7 : w5.cell? ⟨w.heap.size, 7, none⟩ = some (.slice a3 gone.length cap3) := HA5.out.cell 7 rfl; have g8 : w5.cell? ⟨w.heap.size, 8, none⟩ = some (.int .i64 of) := HA5.out.cell 8 rfl; have g9 : w5.cell? ⟨w.heap.size, 9, none⟩ = some (.int .i64 num) := HA5.out.cell 9 rfl; have ga : w5.cell? ⟨w.heap.size, 10, none⟩ = some (.int .i64 gen) := HA5.out.cell 10 rfl; have hfe := fun o => HA5.out.fr o; have r0 : w5.cell? ⟨w.heap.size + 1, 0, none⟩ = some (Nb.S rest) := HX5.out.c0)
        | fail)
      refine bodyPost_ret (v := .tuple #[zOpV, Nb.S [], .int .i64 7]) (by simp [results, Tryd.results22, go_sem, zOpV, g0, g1, g2, g3, g4, g5, g6, g7, g8, g9, ga]) rfl (tkPost_no HTN.out ?_)
      iterate 11 refine Below.setCell ?_ (by exact Nat.le_refl _) _
      exact HB5.out
    · have HTN := Lib.hid (show TK = some (⟨site, seq, kind, ⟨es, eq, ei⟩, text, gone, of, num, gen⟩, rest) from by have h9 := HTK.out; simp only [hk] at h9; exact h9)
      rw [hk] at HCK
      clear HOP HTK hk
      go_upto_region 5 with (first
        | (go_at_call 48; refine (HCK.out _ _ _ HOI.out).mono ?_; rintro e w5 ⟨rfl, hb⟩; have HA5 := Lib.hid (HA4.out.step hb); have HX5 := Lib.hid (HX4.out.below hb); have HB5 := Lib.hid (HB4.out.trans (hb.mono HB4.out.size)); have HO5 := Lib.hid (owns_belE HO4.out hb); clear hb e0 e1 e2 e3 e4 e5 e6 e7 e8 e9 ea r1; have g0 : w5.cell? ⟨w.heap.size, 0, none⟩ = some (.int .i64 site) := HA5.out.cell 0 rfl; have g1 : w5.cell? ⟨w.heap.size, 1, none⟩ = some (.int .i64 seq) := HA5.out.cell 1 rfl; have g2 : w5.cell? ⟨w.heap.size, 2, none⟩ = some (.int .i64 kind) := HA5.out.cell 2 rfl; have g3 : w5.cell? ⟨w.heap.size, 3, none⟩ = some (.int .i64 es) := HA5.out.cell 3 rfl; have g4 : w5.cell? ⟨w.heap.size, 4, none⟩ = some (.int .i64 eq) := HA5.out.cell 4 rfl; have g5 : w5.cell? ⟨w.heap.size, 5, none⟩ = some (.int .i64 ei) := HA5.out.cell 5 rfl; have g6 : w5.cell? ⟨w.heap.size, 6, none⟩ = some (.string text) := HA5.out.cell 6 rfl; have g7 : w5.cell? ⟨w.heap.size, 7, none⟩ = some (.slice a3 gone.length cap3) := HA5.out.cell 7 rfl; have g8 : w5.cell? ⟨w.heap.size, 8, none⟩ = some (.int .i64 of) := HA5.out.cell 8 rfl; have g9 : w5.cell? ⟨w.heap.size, 9, none⟩ = some (.int .i64 num) := HA5.out.cell 9 rfl; have ga : w5.cell? ⟨w.heap.size, 10, none⟩ = some (.int .i64 gen) := HA5.out.cell 10 rfl; have hfe := fun o => HA5.out.fr o; have r0 : w5.cell? ⟨w.heap.size + 1, 0, none⟩ = some (Nb.S rest) := HX5.out.c0)
        | fail)
      go_region
      all_goals
        go_wp2
        refine bodyPost_ret (v := .tuple #[.agg #[.int .i64 site, .int .i64 seq, .int .i64 kind, .int .i64 es, .int .i64 eq, .int .i64 ei, .string text, .slice a3 gone.length cap3, .int .i64 of, .int .i64 num, .int .i64 gen], Nb.S rest, .int .i64 0]) (by simp [results, Tryd.results22, go_sem, g0, g1, g2, g3, g4, g5, g6, g7, g8, g9, ga]) rfl (tkPost_yes ⟨site, seq, kind, ⟨es, eq, ei⟩, text, gone, of, num, gen⟩ rest a3 cap3 HTN.out ?_ ?_)
        · refine owns_base (b := w.heap.size + 1) ?_ (Nat.le_succ _)
          with_reducible refine owns_belE ?_ (below_dr _)
          iterate 11 refine ownsRow_setCell_below ?_ (Nat.lt_succ_self _) _
          exact HO5.out
        · with_reducible refine Below.drew ?_
          iterate 11 refine Below.setCell ?_ (by exact Nat.le_refl _) _
          exact HB5.out
end Go.Proofs.YtnkinbobnhdpaaaDoor
