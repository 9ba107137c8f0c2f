/- answers are written over; how much a disk, a script is -/
import Derived.Test.YtlmfieeemkahfaaDkU
namespace Go.Proofs.Ytlmfieeemkahfaa
open Go.RowKit Go.Lib

theorem row_apart {b1 b2 n1 n2 s1 s2 : Nat} {t1 t2 : TypeId} {w w' : World} {v1 v2 : Value} {xs1 xs2 : List Value} (h1 : w.ownsRow b1 t1 s1 v1 n1 xs1) (h2 : w.ownsRow b2 t2 s2 v2 n2 xs2) (ht : t1 ≠ t2) (hg : w.grownBy w' v1.ownBlock) : w'.ownsRow b2 t2 s2 v2 n2 xs2 := by
  obtain ⟨h3, h4⟩ := h2
  refine ⟨h3, ?_⟩
  rcases h4 with h4 | ⟨g, cap, cur, hv, hgb, hh, r⟩
  · exact .inl h4
  · refine .inr ⟨g, cap, cur, hv, hgb, ?_, r⟩
    rw [hg.block g (Array.getElem?_eq_some_iff.1 hh).1 (fun e => ?_)]
    · exact hh
    · rcases h1.2 with ⟨hu0, _⟩ | ⟨g2, cap2, cur2, hv2, _, hh2, _⟩
      · rw [hu0] at e; cases e
      · rw [hv2] at e
        simp only [Value.ownBlock, Option.some.injEq] at e
        subst e
        rw [hh] at hh2
        simp only [Option.some.injEq, Obj.cells.injEq] at hh2
        exact ht hh2.2.1.symm
theorem row_block {base n size c : Nat} {t : TypeId} {w : World} {a : Option Addr} {xs : List Value} (h : w.ownsRow base t size (.slice a n c) n xs) (h0 : 0 < n) : ∃ g, a = some ⟨g, 0, none⟩ ∧ base ≤ g ∧ g < w.heap.size ∧ xs.length = n * size := by
  have h9 := h.1
  rcases h.2 with ⟨hv, h1⟩ | ⟨g, cap, cur, hv, hgb, hh, r⟩
  · omega
  · simp only [Value.slice.injEq] at hv
    exact ⟨g, hv.1, hgb, (Array.getElem?_eq_some_iff.1 hh).1, h9⟩
/-- what was told may be written over: nothing turns but what was told -/
def Kt (top : Nat) (w w' : World) : Prop := w.heap.size ≤ w'.heap.size ∧ ∀ k, top ≤ k → k < w.heap.size → w'.heap[k]? = w.heap[k]?
theorem Kt.set {top g c : Nat} {w w' : World} (h : Kt top w w') (hg : g < top) (v : Value) : Kt top w (w'.setCell ⟨g, c, none⟩ v) := ⟨by rw [World.size_setCell]; exact h.1, fun k hk hs => (kset_other (by omega)).trans (h.2 k hk hs)⟩
theorem Kt.of {top : Nat} {w w' : World} (h : Below w.heap.size w w') : Kt top w w' := ⟨h.size, fun k _ hs => h.block k hs⟩
def SpP (base top : Nat) (w0 w : World) (e : Ending) (w' : World) : Prop := (∃ v, e = .returned v) ∧ Below base w0 w' ∧ Kt top w w'
set_option maxRecDepth 100000 in
set_option maxHeartbeats 8000000 in
theorem spoil_any (base top : Nat) (w0 w : World) (a a2 : Option Addr) (m m2 c c2 : Nat) (d : DkD) (hm : d.safe.length = m) (hm2 : d.wait.length = m2) (h : DkOwn base w d (.slice a m c) (.slice a2 m2 c2)) (hb0 : Below base w0 w) (hbs : base ≤ w.heap.size) (hl1 : m ≤ 1000) (hl2 : m2 ≤ 1000)
    (ht1 : ∀ g, a = some ⟨g, 0, none⟩ → 0 < m → g < top) (ht2 : ∀ g, a2 = some ⟨g, 0, none⟩ → 0 < m2 → g < top) :
    Calls Try.prog 39 #[.agg #[.slice a m c, .slice a2 m2 c2]] w (SpP base top w0 w) := by
  have HT1 := Lib.hid ht1
  have HT2 := Lib.hid ht2
  clear ht1 ht2
  have HR := Lib.hid (show w.ownsRow base 9 1 (.slice a m c) m (svs d.safe) from by have := h.safe.own; rw [hm] at this; exact this)
  have HE := Lib.hid (show w.ownsRow base 73 2 (.slice a2 m2 c2) m2 (scs d.wait) from by have := h.wait.own; rw [hm2] at this; exact this)
  have hX := Hp.new w #[.slice a m c, .slice a2 m2 c2] 25
  have hbx := below_al w (.cells #[.slice a m c, .slice a2 m2 c2] 25)
  have HGL := Lib.hid (fun (g : Nat) (hg : a = some ⟨g, 0, none⟩) (h0 : 0 < m) => (show g < w.heap.size from by obtain ⟨g2, h1, _, h3, _⟩ := row_block HR.out h0; rw [hg] at h1; cases h1; exact h3))
  have HGL2 := Lib.hid (fun (g : Nat) (hg : a2 = some ⟨g, 0, none⟩) (h0 : 0 < m2) => (show g < w.heap.size from by obtain ⟨g2, h1, _, h3, _⟩ := row_block HE.out h0; rw [hg] at h1; cases h1; exact h3))
  have HX := Lib.hid hX
  have HR1 := Lib.hid (owns_belE HR.out hbx)
  have HE1 := Lib.hid (owns_belE HE.out hbx)
  have HB1 := Lib.hid (hb0.trans (hbx.mono hbs))
  have HS1 := Lib.hid (Kt.of (top := top) hbx)
  have HBS := Lib.hid hbs
  clear hX hbx h hb0 hbs hm hm2
  go_enter Try.func39, Try.ntmps39
  go_upto_region 1 with fail
  obtain ⟨bx, hbx⟩ : ∃ b, w.heap.size = b := ⟨_, rfl⟩
  rw [hbx] at HX HGL HGL2 HBS ⊢
  generalize w.alloc (.cells #[.slice a m c, .slice a2 m2 c2] 25) = w1 at *
  go_wp2_with fail
  go_loopw [2] (fun s2 wr => ∃ k : Nat, s2 = .int .i64 k ∧ k ≤ m ∧ Hp 25 wr bx #[.slice a m c, .slice a2 m2 c2] ∧ (∃ xs, wr.ownsRow base 9 1 (.slice a m c) m xs) ∧ (∃ ys, wr.ownsRow base 73 2 (.slice a2 m2 c2) m2 ys) ∧ Below base w0 wr ∧ Kt top w wr) (fun s2 _ => m - (RowKit.intOf s2).toNat)
  case atStart => exact ⟨0, rfl, Nat.zero_le _, HX.out, ⟨_, HR1.out⟩, ⟨_, HE1.out⟩, HB1.out, HS1.out⟩
  case round =>
    obtain ⟨k, rfl, hk, hx, ⟨xs, hr⟩, ⟨ys, he⟩, hb, hs⟩ := hrel
    have HXR := Lib.hid hx
    have HRR := Lib.hid hr
    have HER := Lib.hid he
    have HBR := Lib.hid hb
    have HSR := Lib.hid hs
    have q0 := hx.cell 0 rfl
    clear hx hr he hb hs HX HR1 HE1 HB1 HS1
    by_cases hlt : k < m
    · obtain ⟨g, rfl, hg1, hg2, hxl⟩ := row_block HRR.out (by omega)
      have hgl := HGL.out g rfl (by omega)
      have htp := HT1.out g rfl (by omega)
      have hkx : k < xs.length := by omega
      have hc0 : wr.cell? ⟨g, k, none⟩ = some xs[k] := by rw [HRR.out.cellAt k (by omega), List.getElem?_eq_getElem hkx]
      have hf0 := HRR.out.frozenAt k
      have hst := HRR.out.stored k (.string ⟨#[115, 112, 111, 105, 108, 116]⟩)
      have HF := Lib.hid (show Hp 25 (wr.setCell ⟨g, k, none⟩ (.string ⟨#[115, 112, 111, 105, 108, 116]⟩)) bx #[.slice (some ⟨g, 0, none⟩) m c, .slice a2 m2 c2] ∧ (∃ xs, (wr.setCell ⟨g, k, none⟩ (.string ⟨#[115, 112, 111, 105, 108, 116]⟩)).ownsRow base 9 1 (.slice (some ⟨g, 0, none⟩) m c) m xs) ∧ (∃ ys, (wr.setCell ⟨g, k, none⟩ (.string ⟨#[115, 112, 111, 105, 108, 116]⟩)).ownsRow base 73 2 (.slice a2 m2 c2) m2 ys) ∧ Below base w0 (wr.setCell ⟨g, k, none⟩ (.string ⟨#[115, 112, 111, 105, 108, 116]⟩)) ∧ Kt top w (wr.setCell ⟨g, k, none⟩ (.string ⟨#[115, 112, 111, 105, 108, 116]⟩)) from
        ⟨HXR.out.far (by omega) _, ⟨_, hst.1⟩, ⟨_, row_apart HRR.out HER.out (by decide) hst.2⟩, HBR.out.setCell (p := ⟨g, k, none⟩) hg1 _, HSR.out.set htp _⟩)
      generalize xs[k] = u0 at *
      have hki : (k : Int) < (m : Int) := by omega
      clear hst hxl hkx htp
      go_wp2_with fail
      go_roundw
      case rel => exact ⟨k + 1, by go_num, by omega, HF.out⟩
      case measure => simp [RowKit.intOf]; omega
    · go_wp2_with fail
      clear q0
      go_loopw [3] (fun s3 wq => ∃ j : Nat, s3 = .int .i64 j ∧ j ≤ m2 ∧ Hp 25 wq bx #[.slice a m c, .slice a2 m2 c2] ∧ (∃ ys, wq.ownsRow base 73 2 (.slice a2 m2 c2) m2 ys) ∧ Below base w0 wq ∧ Kt top w wq) (fun s3 _ => m2 - (RowKit.intOf s3).toNat)
      case atStart => exact ⟨0, rfl, Nat.zero_le _, HXR.out, ⟨_, HER.out⟩, HBR.out, HSR.out⟩
      case round =>
        obtain ⟨j, rfl, hj, hx, ⟨zs, he⟩, hb, hs⟩ := hrel
        have HXQ := Lib.hid hx
        have HEQ := Lib.hid he
        have HBQ := Lib.hid hb
        have HSQ := Lib.hid hs
        have q1 := hx.cell 1 rfl
        clear hx he hb hs HXR HER HBR HSR HRR
        by_cases hlt2 : j < m2
        · obtain ⟨g, rfl, hg1, hg2, hxl⟩ := row_block HEQ.out (by omega)
          have hgl := HGL2.out g rfl (by omega)
          have htp := HT2.out g rfl (by omega)
          have hc0 : wr.cell? ⟨g, j * 2, none⟩ = some zs[j * 2] := by rw [HEQ.out.cellAt (j * 2) (by omega), List.getElem?_eq_getElem (by omega)]
          have hc1 : wr.cell? ⟨g, j * 2 + 1, none⟩ = some zs[j * 2 + 1] := by rw [HEQ.out.cellAt (j * 2 + 1) (by omega), List.getElem?_eq_getElem (by omega)]
          have hf0 := HEQ.out.frozenAt (j * 2)
          have hf1 := HEQ.out.frozenAt (j * 2 + 1)
          have hst := HEQ.out.stored (j * 2) (.int .i64 (-9))
          have hst2 := hst.1.stored (j * 2 + 1) (.string ⟨#[]⟩)
          have HF := Lib.hid (show Hp 25 ((wr.setCell ⟨g, j * 2, none⟩ (.int .i64 (-9))).setCell ⟨g, j * 2 + 1, none⟩ (.string ⟨#[]⟩)) bx #[.slice a m c, .slice (some ⟨g, 0, none⟩) m2 c2] ∧ (∃ ys, ((wr.setCell ⟨g, j * 2, none⟩ (.int .i64 (-9))).setCell ⟨g, j * 2 + 1, none⟩ (.string ⟨#[]⟩)).ownsRow base 73 2 (.slice (some ⟨g, 0, none⟩) m2 c2) m2 ys) ∧ Below base w0 ((wr.setCell ⟨g, j * 2, none⟩ (.int .i64 (-9))).setCell ⟨g, j * 2 + 1, none⟩ (.string ⟨#[]⟩)) ∧ Kt top w ((wr.setCell ⟨g, j * 2, none⟩ (.int .i64 (-9))).setCell ⟨g, j * 2 + 1, none⟩ (.string ⟨#[]⟩)) from
            ⟨(HXQ.out.far (by omega) _).far (by omega) _, ⟨_, hst2.1⟩, (HBQ.out.setCell (p := ⟨g, j * 2, none⟩) hg1 _).setCell (p := ⟨g, j * 2 + 1, none⟩) hg1 _, (HSQ.out.set htp _).set htp _⟩)
          generalize zs[j * 2] = u0 at *
          generalize zs[j * 2 + 1] = u1 at *
          have hji : (j : Int) < (m2 : Int) := by omega
          clear hst hst2 hxl htp
          go_wp2_with fail
          go_roundw
          case rel => exact ⟨j + 1, by go_num, by omega, HF.out⟩
          case measure => simp [RowKit.intOf]; omega
        · go_wp2_with fail
          first
            | (go_ret; exact ⟨⟨_, rfl⟩, HBQ.out, HSQ.out⟩)
            | (go_end0; exact ⟨⟨_, rfl⟩, HBQ.out, HSQ.out⟩)
            | (refine bodyPost_ret (results_none rfl _ _ _) rfl ?_; exact ⟨⟨_, rfl⟩, HBQ.out, HSQ.out⟩)

end Go.Proofs.Ytlmfieeemkahfaa
