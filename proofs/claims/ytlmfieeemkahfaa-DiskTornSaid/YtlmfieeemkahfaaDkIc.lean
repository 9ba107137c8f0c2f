/- the region of disk.settle where Crash calls it -/
import Derived.Test.YtlmfieeemkahfaaDkI
namespace Go.Proofs.Ytlmfieeemkahfaa
open Go.RowKit Go.Lib

set_option maxRecDepth 100000 in
set_option maxHeartbeats 16000000 in
theorem set_rC {u0 u2 u3 u4 u5 u9 u10 u11 u12 u13 u14 u15 u16 u17 u18 u19 u20 u21 u22 u23 u24 u25 u26 u27 u28 u29 u30 u31 u32 u33 u34 u35 u36 u37 u38 u39 u40 u41 : Value} {g8 m c8 bz p k fe bk : Nat} {xt old nw : ByteArray} (wz : World) (hpm : p < m)
    (HS : RowKit.Hid (∀ wx : World, Below wz.heap.size wz wx → (wx.cell? ⟨bz, 0, none⟩ = some (.int .i64 p) ∧ wx.cell? ⟨bz, 1, none⟩ = some (.string xt) ∧ wx.cell? ⟨g8, p, none⟩ = some (.string old)) ∧ wx.frozen? ⟨g8, p, none⟩ = false))
    (HCL : RowKit.Hid (∀ wx : World, Below wz.heap.size wz wx → Calls Try.prog 47 #[.int .i64 k, .pointer (some ⟨bk, 0, none⟩)] wx fun e w' => e = .returned (.int .i64 fe) ∧ wx = w'))
    (HWR : RowKit.Hid (∀ wx : World, Calls Try.prog 54 #[.string old, .string xt, .int .i64 fe] wx fun x w' => x = .returned (.string nw) ∧ Below wx.heap.size wx w'))
    {K : Act → World → Prop} {Q : Exit → Act → World → Prop} (hK : ∀ (v24 v25 v26 v27 v28 v29 v30 v31 v32 v33 v34 v35 v36 v37 v38 : Value) (wx : World), (∃ w7, Below wz.heap.size wz w7 ∧ (wx = w7.setCell ⟨g8, p, none⟩ (.string nw) ∨ wx = (w7.setCell ⟨g8, p, none⟩ (.string nw)).drew)) → K ⟨#[u0, .func (.func 47) #[] #[.pointer (some ⟨bk, 0, none⟩)], u2, u3, u4, u5, .slice (some ⟨g8, 0, none⟩) m c8, .int .i64 (k : Int), .pointer (some ⟨bz, 0, none⟩), u9, u10, u11, u12, u13, u14, u15, u16, u17, u18, u19, u20, u21, u22, u23, v24, v25, v26, v27, v28, v29, v30, v31, v32, v33, v34, v35, v36, v37, v38, u39, u40, u41], []⟩ wx) :
    Code.wp Try.prog (regS 7) (Exit.then K Q) ⟨#[u0, .func (.func 47) #[] #[.pointer (some ⟨bk, 0, none⟩)], u2, u3, u4, u5, .slice (some ⟨g8, 0, none⟩) m c8, .int .i64 (k : Int), .pointer (some ⟨bz, 0, none⟩), u9, u10, u11, u12, u13, u14, u15, u16, u17, u18, u19, u20, u21, u22, u23, u24, u25, u26, u27, u28, u29, u30, u31, u32, u33, u34, u35, u36, u37, u38, u39, u40, u41], []⟩ wz := by
  have HK := Lib.hid hK
  clear hK
  have y0 := (HS.out wz.drew (below_dr wz)).1.1
  have y1 := (HS.out wz.drew (below_dr wz)).1.2.1
  have y2 := (HS.out wz.drew (below_dr wz)).1.2.2
  have y3 := (HS.out wz.drew (below_dr wz)).2
  have hpm2 : (p : Int) < (m : Int) := by omega
  have hp0 : (0 : Int) ≤ (p : Int) := by omega
  conv => arg 2; whnf
  refine wp_region_noPanic ?_
  go_region_law (first
    | (go_simp; go_at_call 47; refine (HCL.out _ (below_dr wz)).mono ?_; rintro e w6 ⟨rfl, h6⟩; subst h6)
    | (go_simp; go_at_call 54; refine (HWR.out _).mono ?_; rintro e w7 ⟨rfl, hb7⟩; have HB7 := Lib.hid ((below_dr wz).trans (hb7.mono (Nat.le_refl _))); have y5 := (HS.out w7 HB7.out).1.1; have y6 := (HS.out w7 HB7.out).1.2.1; have y7 := (HS.out w7 HB7.out).1.2.2; have y8 := (HS.out w7 HB7.out).2; clear hb7)
    | fail)
  all_goals
    refine NoPanic.normal ?_
    show K _ _
    first
      | exact HK.out _ _ _ _ _ _ _ _ _ _ _ _ _ _ _ _ ⟨_, HB7.out, .inl rfl⟩
      | exact HK.out _ _ _ _ _ _ _ _ _ _ _ _ _ _ _ _ ⟨_, HB7.out, .inr rfl⟩
      | (go_simp; first | exact HK.out _ _ _ _ _ _ _ _ _ _ _ _ _ _ _ _ ⟨_, HB7.out, .inl rfl⟩ | exact HK.out _ _ _ _ _ _ _ _ _ _ _ _ _ _ _ _ ⟨_, HB7.out, .inr rfl⟩)

set_option maxRecDepth 100000 in
theorem set_rCq {u0 u2 u3 u4 u5 u9 u10 u11 u12 u13 u14 u15 u16 u17 u18 u19 u20 u21 u22 u23 u24 u25 u26 u27 u28 u29 u30 u31 u32 u33 u34 u35 u36 u37 u38 u39 u40 u41 : Value} {g8 m c8 bz p k fe bk : Nat} {xt old nw : ByteArray} (wz : World) (hpm : p < m)
    (HS : RowKit.Hid (∀ wx : World, Below wz.heap.size wz wx → (wx.cell? ⟨bz, 0, none⟩ = some (.int .i64 p) ∧ wx.cell? ⟨bz, 1, none⟩ = some (.string xt) ∧ wx.cell? ⟨g8, p, none⟩ = some (.string old)) ∧ wx.frozen? ⟨g8, p, none⟩ = false))
    (HCL : RowKit.Hid (∀ wx : World, Below wz.heap.size wz wx → Calls Try.prog 47 #[.int .i64 k, .pointer (some ⟨bk, 0, none⟩)] wx fun e w' => e = .returned (.int .i64 fe) ∧ wx = w'))
    (HWR : RowKit.Hid (∀ wx : World, Calls Try.prog 54 #[.string old, .string xt, .int .i64 fe] wx fun x w' => x = .returned (.string nw) ∧ Below wx.heap.size wx w'))
    {Q : Exit → Act → World → Prop} (hK : ∀ (v24 v25 v26 v27 v28 v29 v30 v31 v32 v33 v34 v35 v36 v37 v38 : Value) (wx : World), (∃ w7, Below wz.heap.size wz w7 ∧ (wx = w7.setCell ⟨g8, p, none⟩ (.string nw) ∨ wx = (w7.setCell ⟨g8, p, none⟩ (.string nw)).drew)) → Q .normal ⟨#[u0, .func (.func 47) #[] #[.pointer (some ⟨bk, 0, none⟩)], u2, u3, u4, u5, .slice (some ⟨g8, 0, none⟩) m c8, .int .i64 (k : Int), .pointer (some ⟨bz, 0, none⟩), u9, u10, u11, u12, u13, u14, u15, u16, u17, u18, u19, u20, u21, u22, u23, v24, v25, v26, v27, v28, v29, v30, v31, v32, v33, v34, v35, v36, v37, v38, u39, u40, u41], []⟩ wx) :
    Code.wp Try.prog (regS 7) Q ⟨#[u0, .func (.func 47) #[] #[.pointer (some ⟨bk, 0, none⟩)], u2, u3, u4, u5, .slice (some ⟨g8, 0, none⟩) m c8, .int .i64 (k : Int), .pointer (some ⟨bz, 0, none⟩), u9, u10, u11, u12, u13, u14, u15, u16, u17, u18, u19, u20, u21, u22, u23, u24, u25, u26, u27, u28, u29, u30, u31, u32, u33, u34, u35, u36, u37, u38, u39, u40, u41], []⟩ wz := by
  rw [← rg_exit Q]
  exact set_rC (K := Q .normal) (Q := Q) wz hpm HS HCL HWR hK
end Go.Proofs.Ytlmfieeemkahfaa
