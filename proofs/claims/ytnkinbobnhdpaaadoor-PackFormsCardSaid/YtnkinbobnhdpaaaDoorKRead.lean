/- package pack: the reader's number, text, count, elem, elems -/
import Derived.Test.YtnkinbobnhdpaaaDoorKBase
import Derived.Test.YtnkinbobnhdpaaaDoorOElem
namespace Go.Proofs.YtnkinbobnhdpaaaDoor
open Go.RowKit Go.Lib

/-- the longest text that is taken from -/
def TOP : Nat := 1000000
theorem rd_lft (st : St) : rd st = match Nb.tk 0 0 (lft st) with | some (n, r) => ((n : Int), some r) | none => (0, none) := by
  cases st <;> rfl
theorem rdT_lft (st : St) : rdT st = match Nb.tkText (lft st) with | some (t, r) => (⟨t.toArray⟩, some r) | none => (⟨#[]⟩, none) := by
  cases st <;> rfl
theorem lft_le {st : St} (h : StLe TOP st) : (lft st).length ≤ TOP := by
  cases st with
  | none => exact Nat.zero_le _
  | some l => exact h l rfl
theorem arr_list (l : List UInt8) : (⟨l.toArray⟩ : ByteArray).data.toList = l := rfl

set_option maxRecDepth 100000 in
set_option maxHeartbeats 1000000 in
theorem rdNum_any (b : Nat) (st : St) (w : World) (h : RdAt w b st) (hs : StLe TOP st) : Calls Tryd.prog 84 #[.pointer (some ⟨b, 0, none⟩)] w (RdInt b (rd st).1 (rd st).2 w) := by
  have hl := lft_le hs
  have hT := Nb.Take_any ⟨(lft st).toArray⟩ w (by show (lft st).length ≤ maxLen; unfold maxLen; unfold TOP at hl; omega)
  rw [arr_list] at hT
  rw [rd_lft]
  have HX := Lib.hid h
  have c0 := h.c0
  have c1 := h.c1
  cases hk : Nb.tk 0 0 (lft st) with
  | none =>
    rw [hk] at hT
    simp only [Nb.takeV] at hT
    have HT := Lib.hid hT
    clear h hs hk hT hl
    rcases (by cases st.isNone <;> simp : st.isNone = true ∨ st.isNone = false) with hbb | hbb
    all_goals
      have HS := Lib.hid hbb
      clear hbb
      go_enter Tryd.func84, Tryd.ntmps84
      go_wp2_with (first | (go_at_call 111; refine HT.out.mono ?_; rintro e w1 ⟨rfl, hb1⟩; have HX1 := Lib.hid (HX.out.below hb1); have HK1 := Lib.hid (Kb.of (bx := b) hb1); have d1 := HX1.out.c1; rw [HS.out] at d1; have f0 := HX1.out.fr 0; have f1 := HX1.out.fr 1; have d0 := HX1.out.c0; clear hb1 c0 c1) | fail)
      go_ret
      exact ⟨rfl, HX1.out.set none, (HK1.out.set _ _).set _ _⟩
  | some p =>
    obtain ⟨n, r⟩ := p
    rw [hk] at hT
    simp only [Nb.takeV] at hT
    have HT := Lib.hid hT
    have hst : st.isNone = false := by
      cases st with
      | none => cases hk
      | some l => rfl
    rw [hst] at c1
    have HS := Lib.hid hst
    clear h hs hk hT hl hst
    go_enter Tryd.func84, Tryd.ntmps84
    go_wp2_with (first | (go_at_call 111; refine HT.out.mono ?_; rintro e w1 ⟨rfl, hb1⟩; have HX1 := Lib.hid (HX.out.below hb1); have HK1 := Lib.hid (Kb.of (bx := b) hb1); have d1 := HX1.out.c1; rw [HS.out] at d1; have f0 := HX1.out.fr 0; have f1 := HX1.out.fr 1; have d0 := HX1.out.c0; clear hb1 c0 c1) | fail)
    go_ret
    exact ⟨rfl, HX1.out.set (some r), (HK1.out.set _ _).set _ _⟩

set_option maxRecDepth 100000 in
set_option maxHeartbeats 1000000 in
theorem rdTxt_any (b : Nat) (st : St) (w : World) (h : RdAt w b st) (hs : StLe TOP st) : Calls Tryd.prog 86 #[.pointer (some ⟨b, 0, none⟩)] w (RdStr b (rdT st).1 (rdT st).2 w) := by
  have hl := lft_le hs
  have hT := Nb.TakeText_any ⟨(lft st).toArray⟩ w (by show (lft st).length ≤ maxLen; unfold maxLen; unfold TOP at hl; omega)
  rw [arr_list] at hT
  rw [rdT_lft]
  have HX := Lib.hid h
  have c0 := h.c0
  have c1 := h.c1
  cases hk : Nb.tkText (lft st) with
  | none =>
    rw [hk] at hT
    simp only [Nb.ttV] at hT
    have HT := Lib.hid hT
    clear h hs hk hT hl
    rcases (by cases st.isNone <;> simp : st.isNone = true ∨ st.isNone = false) with hbb | hbb
    all_goals
      have HS := Lib.hid hbb
      clear hbb
      go_enter Tryd.func86, Tryd.ntmps86
      go_wp2_with (first | (go_at_call 112; refine HT.out.mono ?_; rintro e w1 ⟨rfl, hb1⟩; have HX1 := Lib.hid (HX.out.below hb1); have HK1 := Lib.hid (Kb.of (bx := b) hb1); have d1 := HX1.out.c1; rw [HS.out] at d1; have f0 := HX1.out.fr 0; have f1 := HX1.out.fr 1; have d0 := HX1.out.c0; clear hb1 c0 c1) | fail)
      go_ret
      exact ⟨rfl, HX1.out.set none, (HK1.out.set _ _).set _ _⟩
  | some p =>
    obtain ⟨n, r⟩ := p
    rw [hk] at hT
    simp only [Nb.ttV] at hT
    have HT := Lib.hid hT
    have hst : st.isNone = false := by
      cases st with
      | none => cases hk
      | some l => rfl
    rw [hst] at c1
    have HS := Lib.hid hst
    clear h hs hk hT hl hst
    go_enter Tryd.func86, Tryd.ntmps86
    go_wp2_with (first | (go_at_call 112; refine HT.out.mono ?_; rintro e w1 ⟨rfl, hb1⟩; have HX1 := Lib.hid (HX.out.below hb1); have HK1 := Lib.hid (Kb.of (bx := b) hb1); have d1 := HX1.out.c1; rw [HS.out] at d1; have f0 := HX1.out.fr 0; have f1 := HX1.out.fr 1; have d0 := HX1.out.c0; clear hb1 c0 c1) | fail)
    go_ret
    exact ⟨rfl, HX1.out.set (some r), (HK1.out.set _ _).set _ _⟩

set_option maxRecDepth 100000 in
set_option maxHeartbeats 1000000 in
theorem rdCnt_any (b : Nat) (m : Int) (st : St) (w : World) (h : RdAt w b st) (hs : StLe TOP st) : Calls Tryd.prog 95 #[.pointer (some ⟨b, 0, none⟩), .int .i64 m] w (RdInt b (rdN m st).1 (rdN m st).2 w) := by
  have HN := Lib.hid (rdNum_any b st w h hs)
  unfold rdN
  generalize rd st = r at *
  obtain ⟨n, st2⟩ := r
  simp only at HN ⊢
  clear h hs
  by_cases hm : m < n
  · have hd : decide (m < n) = true := decide_eq_true hm
    rw [if_pos hm]
    clear hm
    go_enter Tryd.func95, Tryd.ntmps95
    go_wp2_with (first | (go_at_call 84; refine HN.out.mono ?_; rintro e w1 ⟨rfl, hx1, hk1⟩; have HX1 := Lib.hid hx1; have HK1 := Lib.hid hk1; have d0 := HX1.out.c0; have d1 := HX1.out.c1; have f0 := HX1.out.fr 0; have f1 := HX1.out.fr 1; clear hx1 hk1) | fail)
    go_ret
    exact ⟨rfl, HX1.out.set none, (HK1.out.set _ _).set _ _⟩
  · have hd : decide (m < n) = false := decide_eq_false hm
    rw [if_neg hm]
    clear hm
    go_enter Tryd.func95, Tryd.ntmps95
    go_wp2_with (first | (go_at_call 84; refine HN.out.mono ?_; rintro e w1 ⟨rfl, hx1, hk1⟩; have HX1 := Lib.hid hx1; have HK1 := Lib.hid hk1; clear hx1 hk1) | fail)
    go_ret
    exact ⟨rfl, HX1.out, HK1.out⟩

set_option maxRecDepth 100000 in
set_option maxHeartbeats 1000000 in
theorem rdElem_any (b : Nat) (st : St) (w : World) (h : RdAt w b st) (hs : StLe TOP st) : Calls Tryd.prog 85 #[.pointer (some ⟨b, 0, none⟩)] w (RdEl b (rdE st).1 (rdE st).2 w) := by
  have hlt := h.lt
  have HN := Lib.hid (fun (s : St) (wx : World) (hx : RdAt wx b s) (hl : StLe TOP s) => rdNum_any b s wx hx hl)
  have HS := Lib.hid hs
  have HS2 := Lib.hid (rd_le hs)
  have HS3 := Lib.hid (rd_le (rd_le hs))
  have HX := Lib.hid (h.alloc (.cells #[.int .i64 0, .int .i64 0, .int .i64 0] 34))
  have HK := Lib.hid ((Kb.refl b w).alloc (.cells #[.int .i64 0, .int .i64 0, .int .i64 0] 34))
  unfold rdE
  clear h hs
  obtain ⟨w0, hw0⟩ : ∃ w0, w.alloc (.cells #[.int .i64 0, .int .i64 0, .int .i64 0] 34) = w0 := ⟨_, rfl⟩
  have HE := Lib.hid (show BoxE w0 w.heap.size ⟨0, 0, 0⟩ from hw0 ▸ BoxE.new w ⟨0, 0, 0⟩)
  have HF := Lib.hid (show ∀ o, w0.frozen? ⟨w.heap.size, o, none⟩ = false from fun o => hw0 ▸ new_fro w _ _ o)
  have hne : w.heap.size ≠ b := by omega
  have HNE := Lib.hid hne
  clear hne hlt
  go_enter Tryd.func85, Tryd.ntmps85
  go_wp2_with fail
  rw [hw0] at HX HK
  clear hw0
  go_wp2_with (first
    | (go_at_call 84; refine (HN.out _ _ HX3.out HS3.out).mono ?_; rintro e w3 ⟨rfl, hx, hk⟩; have HX4 := Lib.hid hx; have HK4 := Lib.hid (HK3.out.trans hk); clear hx hk; have e0 := (HK4.out.cell 0 HE.out.lt HNE.out).trans HE.out.c0; have e1 := (HK4.out.cell 1 HE.out.lt HNE.out).trans HE.out.c1; have e2 := (HK4.out.cell 2 HE.out.lt HNE.out).trans HE.out.c2; have f0 := (HK4.out.fro 0 HE.out.lt HNE.out).trans (HF.out 0); have f1 := (HK4.out.fro 1 HE.out.lt HNE.out).trans (HF.out 1); have f2 := (HK4.out.fro 2 HE.out.lt HNE.out).trans (HF.out 2))
    | (go_at_call 84; refine (HN.out _ _ HX2.out HS2.out).mono ?_; rintro e w2 ⟨rfl, hx, hk⟩; have HX3 := Lib.hid hx; have HK3 := Lib.hid (HK2.out.trans hk); clear hx hk)
    | (go_at_call 84; refine (HN.out _ _ HX.out HS.out).mono ?_; rintro e w1 ⟨rfl, hx, hk⟩; have HX2 := Lib.hid hx; have HK2 := Lib.hid hk; clear hx hk)
    | fail)
  refine bodyPost_ret (v := .agg #[.int .i64 (rd st).1, .int .i64 (rd (rd st).2).1, .int .i64 (rd (rd (rd st).2).2).1]) (by simp [results, Tryd.results85, go_sem, e0, e1, e2]) rfl ⟨rfl, ((HX4.out.far HNE.out.symm _).far HNE.out.symm _).far HNE.out.symm _, (((HK.out.trans HK4.out).far (Nat.le_refl _) _).far (Nat.le_refl _) _).far (Nat.le_refl _) _⟩
end Go.Proofs.YtnkinbobnhdpaaaDoor
