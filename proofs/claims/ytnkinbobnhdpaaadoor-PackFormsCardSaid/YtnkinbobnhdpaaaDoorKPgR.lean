/- the page's taker: number, text, elem -/
import Derived.Test.YtnkinbobnhdpaaaDoorKRead
namespace Go.Proofs.YtnkinbobnhdpaaaDoor
open Go.RowKit Go.Lib

def TOPP : Nat := 50000
/-- the taker's box -/
def TkAt (w : World) (b : Nat) (st : St) : Prop := ∃ x : List UInt8, Hp 103 w b #[Nb.S x, .bool st.isNone] ∧ (∀ l, st = some l → x = l) ∧ x.length ≤ TOPP
theorem TkAt.lt {w : World} {b : Nat} {st : St} (h : TkAt w b st) : b < w.heap.size := by obtain ⟨x, hx, _⟩ := h; exact hx.lt
theorem TkAt.below {w w' : World} {b : Nat} {st : St} (h : TkAt w b st) (hb : Below w.heap.size w w') : TkAt w' b st := by obtain ⟨x, hx, h2⟩ := h; exact ⟨x, hx.step hb, h2⟩
theorem TkAt.belowB {w w' : World} {b B : Nat} {st : St} (h : TkAt w b st) (hb : Below B w w') (hlt : b < B) : TkAt w' b st := by obtain ⟨x, hx, h2⟩ := h; exact ⟨x, hx.below hb hlt, h2⟩
theorem TkAt.alloc {w : World} {b : Nat} {st : St} (h : TkAt w b st) (o : Obj) : TkAt (w.alloc o) b st := h.below ((Below.refl _ _).alloc (Nat.le_refl _) o)
theorem TkAt.far {w : World} {b : Nat} {st : St} (h : TkAt w b st) {k c : Nat} (hne : b ≠ k) (v : Value) : TkAt (w.setCell ⟨k, c, none⟩ v) b st := by obtain ⟨x, hx, h2⟩ := h; exact ⟨x, hx.far hne v, h2⟩
theorem TkAt.drew {w : World} {b : Nat} {st : St} (h : TkAt w b st) : TkAt w.drew b st := h.below ((Below.refl _ _).drew)
theorem TkAt.c1 {w : World} {b : Nat} {st : St} (h : TkAt w b st) : w.cell? ⟨b, 1, none⟩ = some (.bool st.isNone) := by obtain ⟨x, hx, h2⟩ := h; exact hx.cell 1 rfl
theorem TkAt.c0 {w : World} {b : Nat} {l : List UInt8} (h : TkAt w b (some l)) : w.cell? ⟨b, 0, none⟩ = some (Nb.S l) := by obtain ⟨x, hx, h2, _⟩ := h; rw [h2 l rfl] at hx; exact hx.cell 0 rfl
theorem TkAt.fr {w : World} {b : Nat} {st : St} (h : TkAt w b st) (j : Nat) : w.frozen? ⟨b, j, none⟩ = false := by obtain ⟨x, hx, h2⟩ := h; exact hx.fr j
theorem TkAt.spoil {w : World} {b : Nat} {st : St} (h : TkAt w b st) : TkAt (w.setCell ⟨b, 1, none⟩ (.bool true)) b none := by obtain ⟨x, hx, _, h3⟩ := h; exact ⟨x, hx.set 1 (.bool true), (fun l hl => by cases hl), h3⟩
theorem TkAt.new (w : World) (l : List UInt8) (h : l.length ≤ TOPP) : TkAt (w.alloc (.cells #[Nb.S l, .bool false] 103)) w.heap.size (some l) := ⟨l, Hp.new w _ _, (fun l' hl => by cases hl; rfl), h⟩
def TkInt (b : Nat) (n : Int) (st' : St) (w : World) (e : Ending) (w' : World) : Prop := e = .returned (.int .i64 n) ∧ TkAt w' b st' ∧ Kb b w w'
def TkStr (b : Nat) (s : ByteArray) (st' : St) (w : World) (e : Ending) (w' : World) : Prop := e = .returned (.string s) ∧ TkAt w' b st' ∧ Kb b w w'
def TkEl (b : Nat) (x : El) (st' : St) (w : World) (e : Ending) (w' : World) : Prop := e = .returned x.v ∧ TkAt w' b st' ∧ Kb b w w'

set_option maxRecDepth 100000 in
set_option maxHeartbeats 2000000 in
theorem tkNum_any (b : Nat) (st : St) (w : World) (h : TkAt w b st) (hs : StLe TOPP st) : Calls Tryd.prog 69 #[.pointer (some ⟨b, 0, none⟩)] w (TkInt b (rd st).1 (rd st).2 w) := by
  obtain ⟨x, hx, hxl, hxs⟩ := h
  have hT := Nb.rTake_any ⟨x.toArray⟩ w (by show x.length ≤ maxLen; unfold maxLen; unfold TOPP at hxs; omega)
  rw [arr_list] at hT
  have HX := Lib.hid hx
  have HXS := Lib.hid hxs
  have c0 : w.cell? ⟨b, 0, none⟩ = some (Nb.S x) := hx.cell 0 rfl
  have c1 : w.cell? ⟨b, 1, none⟩ = some (.bool st.isNone) := hx.cell 1 rfl
  cases st with
  | none =>
    rw [show Option.isNone (none : St) = true from rfl] at HX c1
    clear hx hxl hxs hs
    cases hk : Nb.tk 0 0 x with
    | none =>
      rw [hk] at hT
      simp only [Nb.rtakeV] at hT
      have HT := Lib.hid hT
      clear hT hk
      go_enter Tryd.func69, Tryd.ntmps69
      go_wp2_with (first | (go_at_call 96; refine HT.out.mono ?_; rintro e w1 ⟨rfl, hb1⟩; have HX1 := Lib.hid (HX.out.step hb1); have HK1 := Lib.hid (Kb.of (bx := b) hb1); have d0 : w1.cell? ⟨b, 0, none⟩ = some (Nb.S x) := HX1.out.cell 0 rfl; have d1 : w1.cell? ⟨b, 1, none⟩ = some (.bool true) := HX1.out.cell 1 rfl; have f0 := HX1.out.fr 0; have f1 := HX1.out.fr 1; clear hb1 c0 c1) | fail)
      go_ret
      exact ⟨rfl, ⟨x, HX1.out.set 1 (.bool true), (fun l hl => by cases hl), HXS.out⟩, HK1.out.set _ _⟩
    | some p =>
      obtain ⟨n, r⟩ := p
      rw [hk] at hT
      simp only [Nb.rtakeV] at hT
      have HT := Lib.hid hT
      clear hT hk
      go_enter Tryd.func69, Tryd.ntmps69
      go_wp2_with (first | (go_at_call 96; refine HT.out.mono ?_; rintro e w1 ⟨rfl, hb1⟩; have HX1 := Lib.hid (HX.out.step hb1); have HK1 := Lib.hid (Kb.of (bx := b) hb1); have d0 : w1.cell? ⟨b, 0, none⟩ = some (Nb.S x) := HX1.out.cell 0 rfl; have d1 : w1.cell? ⟨b, 1, none⟩ = some (.bool true) := HX1.out.cell 1 rfl; have f0 := HX1.out.fr 0; have f1 := HX1.out.fr 1; clear hb1 c0 c1) | fail)
      go_ret
      exact ⟨rfl, ⟨x, HX1.out.set 1 (.bool true), (fun l hl => by cases hl), HXS.out⟩, HK1.out.set _ _⟩
  | some l =>
    have hxe := hxl l rfl
    subst hxe
    rw [show Option.isNone (some x : St) = false from rfl] at HX c1
    unfold rd
    cases hk : Nb.tk 0 0 x with
    | none =>
      rw [hk] at hT
      simp only [Nb.rtakeV] at hT
      have HT := Lib.hid hT
      simp only [hk]
      clear hT hk hx hxl hxs hs
      go_enter Tryd.func69, Tryd.ntmps69
      go_wp2_with (first | (go_at_call 96; refine HT.out.mono ?_; rintro e w1 ⟨rfl, hb1⟩; have HX1 := Lib.hid (HX.out.step hb1); have HK1 := Lib.hid (Kb.of (bx := b) hb1); have d0 : w1.cell? ⟨b, 0, none⟩ = some (Nb.S x) := HX1.out.cell 0 rfl; have d1 : w1.cell? ⟨b, 1, none⟩ = some (.bool false) := HX1.out.cell 1 rfl; have f0 := HX1.out.fr 0; have f1 := HX1.out.fr 1; clear hb1 c0 c1) | fail)
      go_ret
      exact ⟨rfl, ⟨x, HX1.out.set 1 (.bool true), (fun l hl => by cases hl), HXS.out⟩, HK1.out.set _ _⟩
    | some p =>
      obtain ⟨n, r⟩ := p
      have hle : r.length ≤ TOPP := by
        have h9 := rd_le hs
        unfold rd at h9
        simp only [hk] at h9
        exact h9 r rfl
      have HLE := Lib.hid hle
      rw [hk] at hT
      simp only [Nb.rtakeV] at hT
      have HT := Lib.hid hT
      simp only [hk]
      clear hT hk hx hxl hxs hs hle
      go_enter Tryd.func69, Tryd.ntmps69
      go_wp2_with (first | (go_at_call 96; refine HT.out.mono ?_; rintro e w1 ⟨rfl, hb1⟩; have HX1 := Lib.hid (HX.out.step hb1); have HK1 := Lib.hid (Kb.of (bx := b) hb1); have d0 : w1.cell? ⟨b, 0, none⟩ = some (Nb.S x) := HX1.out.cell 0 rfl; have d1 : w1.cell? ⟨b, 1, none⟩ = some (.bool false) := HX1.out.cell 1 rfl; have f0 := HX1.out.fr 0; have f1 := HX1.out.fr 1; clear hb1 c0 c1) | fail)
      go_ret
      exact ⟨rfl, ⟨r, HX1.out.set 0 (Nb.S r), (fun l hl => by cases hl; rfl), HLE.out⟩, HK1.out.set _ _⟩

set_option maxRecDepth 100000 in
set_option maxHeartbeats 2000000 in
theorem tkTxt_any (b : Nat) (st : St) (w : World) (h : TkAt w b st) (hs : StLe TOPP st) : Calls Tryd.prog 89 #[.pointer (some ⟨b, 0, none⟩)] w (TkStr b (rdT st).1 (rdT st).2 w) := by
  obtain ⟨x, hx, hxl, hxs⟩ := h
  have hT := Nb.rTakeText_any ⟨x.toArray⟩ w (by show x.length ≤ maxLen; unfold maxLen; unfold TOPP at hxs; omega)
  rw [arr_list] at hT
  have HX := Lib.hid hx
  have HXS := Lib.hid hxs
  have c0 : w.cell? ⟨b, 0, none⟩ = some (Nb.S x) := hx.cell 0 rfl
  have c1 : w.cell? ⟨b, 1, none⟩ = some (.bool st.isNone) := hx.cell 1 rfl
  cases st with
  | none =>
    rw [show Option.isNone (none : St) = true from rfl] at HX c1
    clear hx hxl hxs hs
    cases hk : Nb.tkText x with
    | none =>
      rw [hk] at hT
      simp only [Nb.rttV] at hT
      have HT := Lib.hid hT
      clear hT hk
      go_enter Tryd.func89, Tryd.ntmps89
      go_wp2_with (first | (go_at_call 113; refine HT.out.mono ?_; rintro e w1 ⟨rfl, hb1⟩; have HX1 := Lib.hid (HX.out.step hb1); have HK1 := Lib.hid (Kb.of (bx := b) hb1); have d0 : w1.cell? ⟨b, 0, none⟩ = some (Nb.S x) := HX1.out.cell 0 rfl; have d1 : w1.cell? ⟨b, 1, none⟩ = some (.bool true) := HX1.out.cell 1 rfl; have f0 := HX1.out.fr 0; have f1 := HX1.out.fr 1; clear hb1 c0 c1) | fail)
      go_ret
      exact ⟨rfl, ⟨x, HX1.out.set 1 (.bool true), (fun l hl => by cases hl), HXS.out⟩, HK1.out.set _ _⟩
    | some p =>
      obtain ⟨n, r⟩ := p
      rw [hk] at hT
      simp only [Nb.rttV] at hT
      have HT := Lib.hid hT
      clear hT hk
      go_enter Tryd.func89, Tryd.ntmps89
      go_wp2_with (first | (go_at_call 113; refine HT.out.mono ?_; rintro e w1 ⟨rfl, hb1⟩; have HX1 := Lib.hid (HX.out.step hb1); have HK1 := Lib.hid (Kb.of (bx := b) hb1); have d0 : w1.cell? ⟨b, 0, none⟩ = some (Nb.S x) := HX1.out.cell 0 rfl; have d1 : w1.cell? ⟨b, 1, none⟩ = some (.bool true) := HX1.out.cell 1 rfl; have f0 := HX1.out.fr 0; have f1 := HX1.out.fr 1; clear hb1 c0 c1) | fail)
      go_ret
      exact ⟨rfl, ⟨x, HX1.out.set 1 (.bool true), (fun l hl => by cases hl), HXS.out⟩, HK1.out.set _ _⟩
  | some l =>
    have hxe := hxl l rfl
    subst hxe
    rw [show Option.isNone (some x : St) = false from rfl] at HX c1
    unfold rdT
    cases hk : Nb.tkText x with
    | none =>
      rw [hk] at hT
      simp only [Nb.rttV] at hT
      have HT := Lib.hid hT
      simp only [hk]
      clear hT hk hx hxl hxs hs
      go_enter Tryd.func89, Tryd.ntmps89
      go_wp2_with (first | (go_at_call 113; refine HT.out.mono ?_; rintro e w1 ⟨rfl, hb1⟩; have HX1 := Lib.hid (HX.out.step hb1); have HK1 := Lib.hid (Kb.of (bx := b) hb1); have d0 : w1.cell? ⟨b, 0, none⟩ = some (Nb.S x) := HX1.out.cell 0 rfl; have d1 : w1.cell? ⟨b, 1, none⟩ = some (.bool false) := HX1.out.cell 1 rfl; have f0 := HX1.out.fr 0; have f1 := HX1.out.fr 1; clear hb1 c0 c1) | fail)
      go_ret
      exact ⟨rfl, ⟨x, HX1.out.set 1 (.bool true), (fun l hl => by cases hl), HXS.out⟩, HK1.out.set _ _⟩
    | some p =>
      obtain ⟨n, r⟩ := p
      have hle : r.length ≤ TOPP := by
        have h9 := rdT_le hs
        unfold rdT at h9
        simp only [hk] at h9
        exact h9 r rfl
      have HLE := Lib.hid hle
      rw [hk] at hT
      simp only [Nb.rttV] at hT
      have HT := Lib.hid hT
      simp only [hk]
      clear hT hk hx hxl hxs hs hle
      go_enter Tryd.func89, Tryd.ntmps89
      go_wp2_with (first | (go_at_call 113; refine HT.out.mono ?_; rintro e w1 ⟨rfl, hb1⟩; have HX1 := Lib.hid (HX.out.step hb1); have HK1 := Lib.hid (Kb.of (bx := b) hb1); have d0 : w1.cell? ⟨b, 0, none⟩ = some (Nb.S x) := HX1.out.cell 0 rfl; have d1 : w1.cell? ⟨b, 1, none⟩ = some (.bool false) := HX1.out.cell 1 rfl; have f0 := HX1.out.fr 0; have f1 := HX1.out.fr 1; clear hb1 c0 c1) | fail)
      go_ret
      exact ⟨rfl, ⟨r, HX1.out.set 0 (Nb.S r), (fun l hl => by cases hl; rfl), HLE.out⟩, HK1.out.set _ _⟩

set_option maxRecDepth 100000 in
set_option maxHeartbeats 1000000 in
theorem tkElem_any (b : Nat) (st : St) (w : World) (h : TkAt w b st) (hs : StLe TOPP st) : Calls Tryd.prog 88 #[.pointer (some ⟨b, 0, none⟩)] w (TkEl b (rdE st).1 (rdE st).2 w) := by
  have hlt := h.lt
  have HN := Lib.hid (fun (s : St) (wx : World) (hx : TkAt wx b s) (hl : StLe TOPP s) => tkNum_any b s wx hx hl)
  have HS := Lib.hid hs
  have HS2 := Lib.hid (rd_le hs)
  have HS3 := Lib.hid (rd_le (rd_le hs))
  have HX := Lib.hid (h.alloc (.cells #[.int .i64 0, .int .i64 0, .int .i64 0] 34))
  have HK := Lib.hid ((Kb.refl b w).alloc (.cells #[.int .i64 0, .int .i64 0, .int .i64 0] 34))
  unfold rdE
  clear h hs
  obtain ⟨w0, hw0⟩ : ∃ w0, w.alloc (.cells #[.int .i64 0, .int .i64 0, .int .i64 0] 34) = w0 := ⟨_, rfl⟩
  have HE := Lib.hid (show BoxE w0 w.heap.size ⟨0, 0, 0⟩ from hw0 ▸ BoxE.new w ⟨0, 0, 0⟩)
  have HF := Lib.hid (show ∀ o, w0.frozen? ⟨w.heap.size, o, none⟩ = false from fun o => hw0 ▸ new_fro w _ _ o)
  have hne : w.heap.size ≠ b := by omega
  have HNE := Lib.hid hne
  clear hne hlt
  go_enter Tryd.func88, Tryd.ntmps88
  go_wp2_with fail
  rw [hw0] at HX HK
  clear hw0
  go_wp2_with (first
    | (go_at_call 69; refine (HN.out _ _ HX3.out HS3.out).mono ?_; rintro e w3 ⟨rfl, hx, hk⟩; have HX4 := Lib.hid hx; have HK4 := Lib.hid (HK3.out.trans hk); clear hx hk; have e0 := (HK4.out.cell 0 HE.out.lt HNE.out).trans HE.out.c0; have e1 := (HK4.out.cell 1 HE.out.lt HNE.out).trans HE.out.c1; have e2 := (HK4.out.cell 2 HE.out.lt HNE.out).trans HE.out.c2; have f0 := (HK4.out.fro 0 HE.out.lt HNE.out).trans (HF.out 0); have f1 := (HK4.out.fro 1 HE.out.lt HNE.out).trans (HF.out 1); have f2 := (HK4.out.fro 2 HE.out.lt HNE.out).trans (HF.out 2))
    | (go_at_call 69; refine (HN.out _ _ HX2.out HS2.out).mono ?_; rintro e w2 ⟨rfl, hx, hk⟩; have HX3 := Lib.hid hx; have HK3 := Lib.hid (HK2.out.trans hk); clear hx hk)
    | (go_at_call 69; refine (HN.out _ _ HX.out HS.out).mono ?_; rintro e w1 ⟨rfl, hx, hk⟩; have HX2 := Lib.hid hx; have HK2 := Lib.hid hk; clear hx hk)
    | fail)
  refine bodyPost_ret (v := .agg #[.int .i64 (rd st).1, .int .i64 (rd (rd st).2).1, .int .i64 (rd (rd (rd st).2).2).1]) (by simp [results, Tryd.results88, go_sem, e0, e1, e2]) rfl ⟨rfl, ((HX4.out.far HNE.out.symm _).far HNE.out.symm _).far HNE.out.symm _, (((HK.out.trans HK4.out).far (Nat.le_refl _) _).far (Nat.le_refl _) _).far (Nat.le_refl _) _⟩
end Go.Proofs.YtnkinbobnhdpaaaDoor
