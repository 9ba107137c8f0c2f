/- CaretTells: a region as a theorem of its own -/
import Derived.Test.YthnedehihbploaaGreatDoorCFace
import Derived.Laws.AppendOwnNone
import Derived.Deep.RegionHeld3
import Derived.Deep.RegionLaw
import Derived.Test.YthnedehihbploaaGreatDoorYNear
import Derived.Test.YthnedehihbploaaGreatDoorVArgs
import Derived.Deep.DeepCutAuto
import Derived.Deep.CutBlock
import Derived.Lib.QuietBelow
import Derived.Deep.QuietTactic
import Derived.BigQuiet
import Derived.IntWalk
namespace Go.Proofs.YthnedehihbploaaGreatDoor
open Go.RowKit Go.Lib Go.Sort

/-- 'append(out, xs...)', out the call's own, xs whatever: nil, empty or not. -/
theorem wpList_append_from {P : Program} {w : World} {ops : Array Oper} {rest : List Oper} {o : Oper} {a : Act} {Q : Exit → Act → World → Prop} (hgd : o.guard = none) (s x : Operand) (t : TypeId)
    (ho : o.op = .call { callee := .builtin .append, args := #[s, x], argTypes := #[t, t] })
    (base : Nat) (e : TypeId) (i : TypeInfo) (z : Value) (bytes : Nat) (ht : P.underlying t = some (.slice e)) (hi : P.info? e = some i) (hz : i.zero = some z)
    (hsize : i.size = 1) (hby : i.bytes = bytes) (hzs : z.cells.size = 1)
    (v : Value) (n : Nat) (xs : List Value) (hs : a.eval s = v) (hown : w.ownsRow base e 1 v n xs)
    (ao : Option Addr) (m c : Nat) (news : List Value) (hx : a.eval x = .slice ao m c) (hl : news.length = m) (hnone : ao = none → m = 0 ∧ c = 0) (hnews : ∀ ad, ao = some ad → ∀ j u, news[j]? = some u → w.cell? (ad.add j) = some u) (h1 : ∀ u ∈ news, u.oneCell' = true)
    (h63 : n + m ≤ maxLen) (hbytes : (n + m) * bytes ≤ 140737488355328) (hbase : base ≤ w.heap.size)
    (h : ∀ v' w', w'.ownsRow base e 1 v' (n + m) (xs ++ news) → w.grownBy w' v.ownBlock → wpList P ops Q rest (a.put o.dst v') w') : wpList P ops Q (o :: rest) a w := by
  cases ao with
  | none =>
    obtain ⟨rfl, rfl⟩ := hnone rfl
    obtain rfl : news = [] := List.eq_nil_of_length_eq_zero hl
    refine wpList_append_own_none hgd s x t ho base e i 1 ht hi v n xs hs hown hx ?_
    exact h v w (by simpa using hown) (World.grownBy.refl _ _)
  | some ad =>
    refine wpList_append_own _ hgd s x t ho base e i z 1 bytes ht hi hz hsize hby hzs (by decide) v n xs hs hown ad m c news hx (by omega) (hnews ad rfl) h1 h63 hbytes hbase ?_
    intro v' w' h2 h3 _
    exact h v' w' h2 h3


theorem Tryz.infoInt : (Tryz.prog.info? 3).map (fun i => (i.zero, i.size, i.bytes)) = some (some (.int .i64 0), 1, 8) := by kernel_rfl
theorem nums_news {w : World} {a : Option Addr} {zs : List Int} (h : NumsAt w a zs) : ∀ ad, a = some ad → ∀ j u, (zs.map (Value.int .i64))[j]? = some u → w.cell? (ad.add j) = some u := by
  intro ad had j u hu
  have hj : j < zs.length := by
    have := (List.getElem?_eq_some_iff.1 hu).1
    simpa using this
  obtain ⟨b, off, ha, hb, hc⟩ := h.cell j hj
  rw [had] at ha
  obtain rfl := Option.some.inj ha
  rw [Addr.add_lit, hc]
  simp [hj] at hu
  rw [← hu]
theorem ints_one (zs : List Int) : ∀ u ∈ zs.map (Value.int .i64), u.oneCell' = true := ints_oneCell .i64 zs
theorem nums_ownC {w : World} {base : Nat} {v : Value} {NS : List Int} {n : Nat} (h : w.ownsRow base 3 1 v n (NS.map (Value.int .i64))) (hn : NS.length = n) :
    ∃ a cap, v = .slice a n cap ∧ NumsAt w a NS := by
  subst hn
  rcases h.2 with ⟨hv, h0⟩ | ⟨g, cap, cur, hv, hg, hh, hc, hm, hcs, ht⟩
  · exact ⟨none, 0, by rw [hv, h0], by rw [List.eq_nil_of_length_eq_zero h0]; exact ⟨fun j hj => absurd hj (by simp)⟩⟩
  · refine ⟨_, cap, hv, ⟨fun j hj => ⟨g, 0, rfl, (Array.getElem?_eq_some_iff.1 hh).1, ?_⟩⟩⟩
    subst hv
    rw [Nat.zero_add, h.cellAt j (by omega)]
    simp [hj]
theorem lit_own6 (w : World) : (w.alloc (.cells #[.int .i64 0, .int .i64 1, .int .i64 2, .int .i64 5, .int .i64 (-1), .int .i64 999] 3)).ownsRow w.heap.size 3 1 (.slice (some ⟨w.heap.size, 0, none⟩) 6 6) 6 [.int .i64 0, .int .i64 1, .int .i64 2, .int .i64 5, .int .i64 (-1), .int .i64 999] :=
  ⟨rfl, .inr ⟨w.heap.size, 6, #[.int .i64 0, .int .i64 1, .int .i64 2, .int .i64 5, .int .i64 (-1), .int .i64 999], rfl, Nat.le_refl _, by show (w.heap.push _)[w.heap.size]? = _; simp, Nat.le_refl _, by decide, rfl, rfl⟩⟩
theorem far3 {b bn o : Nat} {w : World} {u : Value} (hne : b ≠ bn) (h : w.cell? ⟨b, o, none⟩ = some u) {v0 v1 v2 : Value} : (((w.setCell ⟨bn, 0, none⟩ v0).setCell ⟨bn, 1, none⟩ v1).setCell ⟨bn, 2, none⟩ v2).cell? ⟨b, o, none⟩ = some u := by
  iterate 3 (refine cell_far ?_ hne)
  exact h
theorem fill3 {w : World} {b : Nat} {t : TypeId} {z0 z1 z2 : Value} (h : w.heap[b]? = some (.cells #[z0, z1, z2] t (0, 0))) (v0 v1 v2 : Value) : (((w.setCell ⟨b, 0, none⟩ v0).setCell ⟨b, 1, none⟩ v1).setCell ⟨b, 2, none⟩ v2).heap[b]? = some (.cells #[v0, v1, v2] t (0, 0)) := by
  unfold World.setCell
  simp [Array.getElem?_modify, h]
theorem stay3 {w : World} {b c : Nat} (hne : c ≠ b) (v0 v1 v2 : Value) : (((w.setCell ⟨b, 0, none⟩ v0).setCell ⟨b, 1, none⟩ v1).setCell ⟨b, 2, none⟩ v2).heap[c]? = w.heap[c]? := by
  unfold World.setCell
  simp [Array.getElem?_modify, Ne.symm hne]
def ctReg (n : Nat) : Code → Option Code
  | .region m ops d => if m = n then some (.region m ops d) else none
  | .seq a b => (ctReg n a).or (ctReg n b)
  | .cond _ a b => (ctReg n a).or (ctReg n b)
  | .block _ c => ctReg n c
  | .loop c => ctReg n c
  | .scope c => ctReg n c
  | _ => none
noncomputable def regCt (n : Nat) : Code := ((Tryz.f4.body.bind (ctReg n)).getD .skip)
set_option maxRecDepth 100000 in
set_option maxHeartbeats 8000000 in
theorem ct_r33 {u0 u1 u2 u3 u4 u6 u7 u8 u9 u10 u11 u12 u13 u16 u17 u18 u19 u20 u21 u23 u24 u25 u26 u27 u28 u29 u30 u31 u32 u33 u34 u35 u36 u37 u38 u39 u40 u41 u42 u43 u44 u45 u46 u47 u48 u49 u50 u51 u52 u53 u54 u55 u56 u57 u58 u59 u60 u61 u62 u63 u64 u65 u66 u67 u68 u69 u70 u71 u72 u73 u74 u75 u76 u77 u78 u79 u80 u81 u82 u83 u84 u85 u86 u87 u88 u89 u90 u91 u92 u93 u94 u95 u96 u97 u98 u99 u100 u101 u102 u103 u104 u105 u106 u107 u108 u109 u110 u111 u112 u113 u114 u115 u116 u117 u118 u119 u120 u121 u122 u123 u124 u125 u126 u127 u128 u129 u130 u131 u132 u133 u134 u135 u136 u137 u138 u139 u140 u141 u142 u143 u144 u145 u146 u147 u148 u149 u150 u151 u152 u153 u154 u155 u156 u157 u158 u159 u160 u161 u162 u163 u164 u165 u166 u167 u168 u169 u170 u171 u172 u173 u174 : Value}
    {ia : Option Addr} {ni ic eb eo ne ec k bn : Nat} {es eq ei pl xs xq xi : Int} (w : World)
    (HE : RowKit.Hid (∀ wx : World, Below w.heap.size w wx → wx.cell? ⟨eb, eo + k * 3, none⟩ = some (.int .i64 es) ∧ wx.cell? ⟨eb, eo + k * 3 + 1, none⟩ = some (.int .i64 eq) ∧ wx.cell? ⟨eb, eo + k * 3 + 2, none⟩ = some (.int .i64 ei) ∧ eb < wx.heap.size))
    (HP : RowKit.Hid (∀ wx : World, Below w.heap.size w wx → Calls Tryz.prog 27 #[.slice ia ni ic, .agg #[.int .i64 es, .int .i64 eq, .int .i64 ei]] wx (fun e w' => e = .returned (.int .i64 pl) ∧ Below wx.heap.size wx w')))
    (HN : RowKit.Hid (∀ wx : World, Below w.heap.size w wx → Calls Tryz.prog 28 #[.slice ia ni ic, .agg #[.int .i64 es, .int .i64 eq, .int .i64 ei]] wx (fun e w' => e = .returned (.agg #[.int .i64 xs, .int .i64 xq, .int .i64 xi]) ∧ Below wx.heap.size wx w')))
    (HZ : RowKit.Hid (∀ wx : World, Below w.heap.size w wx → wx.heap[bn]? = some (.cells #[.int .i64 0, .int .i64 0, .int .i64 0] 37 (0, 0))))
    (hne : eb ≠ bn) (hk : k < ne) (hk9 : ne ≤ 1000)
    {K : Act → World → Prop} {Q : Exit → Act → World → Prop} (hK : ∀ (v134 v135 v136 v137 v138 v139 v140 v141 v142 v143 v144 v145 : Value) (w2 : World), Below w.heap.size w w2 → K ⟨#[u0, u1, u2, u3, u4, .slice ia ni ic, u6, u7, u8, u9, u10, u11, u12, u13, .slice (some ⟨eb, eo, none⟩) ne ec, .int .i64 (k : Int), u16, u17, u18, u19, .int .i64 0, .int .i64 pl, .pointer (some ⟨bn, 0, none⟩), u23, u24, u25, u26, u27, u28, u29, u30, u31, u32, u33, u34, u35, u36, u37, u38, u39, u40, u41, u42, u43, u44, u45, u46, u47, u48, u49, u50, u51, u52, u53, u54, u55, u56, u57, u58, u59, u60, u61, u62, u63, u64, u65, u66, u67, u68, u69, u70, u71, u72, u73, u74, u75, u76, u77, u78, u79, u80, u81, u82, u83, u84, u85, u86, u87, u88, u89, u90, u91, u92, u93, u94, u95, u96, u97, u98, u99, u100, u101, u102, u103, u104, u105, u106, u107, u108, u109, u110, u111, u112, u113, u114, u115, u116, u117, u118, u119, u120, u121, u122, u123, u124, u125, u126, u127, u128, u129, u130, u131, u132, u133, v134, v135, v136, v137, v138, v139, v140, v141, v142, v143, v144, v145, u146, u147, u148, u149, u150, u151, u152, u153, u154, u155, u156, u157, u158, u159, u160, u161, u162, u163, u164, u165, u166, u167, u168, u169, u170, u171, u172, u173, u174], []⟩ (((w2.setCell ⟨bn, 0, none⟩ (.int .i64 xs)).setCell ⟨bn, 1, none⟩ (.int .i64 xq)).setCell ⟨bn, 2, none⟩ (.int .i64 xi))) :
    Code.wp Tryz.prog (regCt 33) (Exit.then K Q) ⟨#[u0, u1, u2, u3, u4, .slice ia ni ic, u6, u7, u8, u9, u10, u11, u12, u13, .slice (some ⟨eb, eo, none⟩) ne ec, .int .i64 (k : Int), u16, u17, u18, u19, u20, u21, .pointer (some ⟨bn, 0, none⟩), u23, u24, u25, u26, u27, u28, u29, u30, u31, u32, u33, u34, u35, u36, u37, u38, u39, u40, u41, u42, u43, u44, u45, u46, u47, u48, u49, u50, u51, u52, u53, u54, u55, u56, u57, u58, u59, u60, u61, u62, u63, u64, u65, u66, u67, u68, u69, u70, u71, u72, u73, u74, u75, u76, u77, u78, u79, u80, u81, u82, u83, u84, u85, u86, u87, u88, u89, u90, u91, u92, u93, u94, u95, u96, u97, u98, u99, u100, u101, u102, u103, u104, u105, u106, u107, u108, u109, u110, u111, u112, u113, u114, u115, u116, u117, u118, u119, u120, u121, u122, u123, u124, u125, u126, u127, u128, u129, u130, u131, u132, u133, u134, u135, u136, u137, u138, u139, u140, u141, u142, u143, u144, u145, u146, u147, u148, u149, u150, u151, u152, u153, u154, u155, u156, u157, u158, u159, u160, u161, u162, u163, u164, u165, u166, u167, u168, u169, u170, u171, u172, u173, u174], []⟩ w := by
  have HK := Lib.hid hK
  clear hK
  have g1 : (k : Int) < (ne : Int) := by omega
  have g2 : (0 : Int) ≤ (k : Int) := by omega
  have g3 : (ne : Int) ≤ 1000 := by omega
  have hb0 := (Below.refl w.heap.size w).drew
  obtain ⟨k0, k1, k2, kl⟩ := HE.out w (Below.refl _ _)
  obtain ⟨z0, z1, z2, zf, zl⟩ := cells3 (HZ.out w (Below.refl _ _))
  clear hk hk9
  conv => arg 2; whnf
  go_region_held3 (fun w' => w'.cell? ⟨eb, eo + k * 3, none⟩ = some (.int .i64 es) ∧ w'.cell? ⟨eb, eo + k * 3 + 1, none⟩ = some (.int .i64 eq) ∧ w'.cell? ⟨eb, eo + k * 3 + 2, none⟩ = some (.int .i64 ei)) (first | exact ⟨(HE.out _ hb0).1, (HE.out _ hb0).2.1, (HE.out _ hb0).2.2.1⟩ | exact ⟨(HE.out _ hb1).1, (HE.out _ hb1).2.1, (HE.out _ hb1).2.2.1⟩ | exact ⟨(HE.out _ hb2).1, (HE.out _ hb2).2.1, (HE.out _ hb2).2.2.1⟩ | exact ⟨far3 hne (HE.out _ hb2).1, far3 hne (HE.out _ hb2).2.1, far3 hne (HE.out _ hb2).2.2.1⟩) (first
    | (go_at_call 27; refine (HP.out w.drew hb0).mono ?_; rintro e1 w1 ⟨rfl, hb1'⟩; have hb1 := hb0.trans (hb1'.mono (Nat.le_refl _)))
    | (go_at_call 28; refine (HN.out w1 hb1).mono ?_; rintro e2 w2 ⟨rfl, hb2'⟩; have hb2 := hb1.trans (hb2'.mono hb1.size); obtain ⟨y0, y1, y2, yf, yl⟩ := cells3 (HZ.out w2 hb2))
    | fail)
  exact HK.out _ _ _ _ _ _ _ _ _ _ _ _ w2 hb2

set_option maxRecDepth 100000 in
set_option maxHeartbeats 8000000 in
theorem ct_r19 {u0 u1 u2 u3 u4 u5 u6 u7 u8 u9 u10 u13 u14 u15 u16 u17 u18 u19 u20 u21 u22 u23 u24 u25 u26 u27 u28 u29 u30 u31 u32 u33 u34 u35 u36 u37 u38 u39 u40 u41 u42 u43 u44 u45 u46 u47 u48 u49 u50 u51 u52 u53 u54 u55 u56 u57 u58 u59 u60 u61 u62 u63 u64 u65 u66 u67 u68 u69 u70 u71 u72 u73 u74 u75 u76 u77 u78 u79 u80 u81 u82 u83 u84 u85 u86 u87 u88 u89 u90 u91 u92 u93 u94 u95 u96 u97 u98 u99 u100 u101 u102 u103 u104 u105 u106 u107 u108 u109 u110 u111 u112 u113 u114 u115 u116 u117 u118 u119 u120 u121 u122 u123 u124 u125 u126 u127 u128 u129 u130 u131 u132 u133 u134 u135 u136 u137 u138 u139 u140 u141 u142 u143 u144 u145 u146 u147 u148 u149 u150 u151 u152 u153 u154 u155 u156 u157 u158 u159 u160 u161 u162 u163 u164 u165 u166 u167 u168 u169 u170 u171 u172 u173 u174 : Value}
    {bn by_ : Nat} {xs xq xi : Int} (w : World)
    (HY : w.heap[by_]? = some (.cells #[.int .i64 xs, .int .i64 xq, .int .i64 xi] 37 (0, 0)))
    (HZ : w.heap[bn]? = some (.cells #[.int .i64 0, .int .i64 0, .int .i64 0] 37 (0, 0)))
    (hne : by_ ≠ bn)
    {K : Act → World → Prop} {Q : Exit → Act → World → Prop} (hK : ∀ (v82 : Value) (w2 : World), Below w.heap.size w w2 → K ⟨#[u0, u1, u2, u3, u4, u5, u6, u7, u8, u9, .int .i64 0, .pointer (some ⟨bn, 0, none⟩), .pointer (some ⟨by_, 0, none⟩), u13, u14, u15, u16, u17, u18, u19, u20, u21, u22, u23, u24, u25, u26, u27, u28, u29, u30, u31, u32, u33, u34, u35, u36, u37, u38, u39, u40, u41, u42, u43, u44, u45, u46, u47, u48, u49, u50, u51, u52, u53, u54, u55, u56, u57, u58, u59, u60, u61, u62, u63, u64, u65, u66, u67, u68, u69, u70, u71, u72, u73, u74, u75, u76, u77, u78, u79, u80, u81, v82, u83, u84, u85, u86, u87, u88, u89, u90, u91, u92, u93, u94, u95, u96, u97, u98, u99, u100, u101, u102, u103, u104, u105, u106, u107, u108, u109, u110, u111, u112, u113, u114, u115, u116, u117, u118, u119, u120, u121, u122, u123, u124, u125, u126, u127, u128, u129, u130, u131, u132, u133, u134, u135, u136, u137, u138, u139, u140, u141, u142, u143, u144, u145, u146, u147, u148, u149, u150, u151, u152, u153, u154, u155, u156, u157, u158, u159, u160, u161, u162, u163, u164, u165, u166, u167, u168, u169, u170, u171, u172, u173, u174], []⟩ (((w2.setCell ⟨bn, 0, none⟩ (.int .i64 xs)).setCell ⟨bn, 1, none⟩ (.int .i64 xq)).setCell ⟨bn, 2, none⟩ (.int .i64 xi))) :
    Code.wp Tryz.prog (regCt 19) (Exit.then K Q) ⟨#[u0, u1, u2, u3, u4, u5, u6, u7, u8, u9, u10, .pointer (some ⟨bn, 0, none⟩), .pointer (some ⟨by_, 0, none⟩), u13, u14, u15, u16, u17, u18, u19, u20, u21, u22, u23, u24, u25, u26, u27, u28, u29, u30, u31, u32, u33, u34, u35, u36, u37, u38, u39, u40, u41, u42, u43, u44, u45, u46, u47, u48, u49, u50, u51, u52, u53, u54, u55, u56, u57, u58, u59, u60, u61, u62, u63, u64, u65, u66, u67, u68, u69, u70, u71, u72, u73, u74, u75, u76, u77, u78, u79, u80, u81, u82, u83, u84, u85, u86, u87, u88, u89, u90, u91, u92, u93, u94, u95, u96, u97, u98, u99, u100, u101, u102, u103, u104, u105, u106, u107, u108, u109, u110, u111, u112, u113, u114, u115, u116, u117, u118, u119, u120, u121, u122, u123, u124, u125, u126, u127, u128, u129, u130, u131, u132, u133, u134, u135, u136, u137, u138, u139, u140, u141, u142, u143, u144, u145, u146, u147, u148, u149, u150, u151, u152, u153, u154, u155, u156, u157, u158, u159, u160, u161, u162, u163, u164, u165, u166, u167, u168, u169, u170, u171, u172, u173, u174], []⟩ w := by
  have HK := Lib.hid hK
  clear hK
  have hb0 := (Below.refl w.heap.size w).drew
  obtain ⟨k0, k1, k2, kf, kl⟩ := cells3 HY
  obtain ⟨z0, z1, z2, zf, zl⟩ := cells3 HZ
  clear HY HZ
  have d0 : w.drew.cell? ⟨by_, 0, none⟩ = some (.int .i64 xs) := k0
  have d1 : w.drew.cell? ⟨by_, 1, none⟩ = some (.int .i64 xq) := k1
  have d2 : w.drew.cell? ⟨by_, 2, none⟩ = some (.int .i64 xi) := k2
  conv => arg 2; whnf
  go_region_held3 (fun w' => w'.cell? ⟨by_, 0, none⟩ = some (.int .i64 xs) ∧ w'.cell? ⟨by_, 1, none⟩ = some (.int .i64 xq) ∧ w'.cell? ⟨by_, 2, none⟩ = some (.int .i64 xi)) (first | exact ⟨d0, d1, d2⟩ | exact ⟨far3 hne d0, far3 hne d1, far3 hne d2⟩) (fail)
  exact HK.out _ w.drew hb0

theorem near_zero {D : List OpD} {e : El} (h : plE D e = 0) : nearE D e = B0 := by
  unfold nearE
  rw [h]
  rfl
theorem near_at {D : List OpD} {e : El} {m : Nat} (h : plE D e = m + 1) (hm : m < (visE D).length) : nearE D e = (visE D)[m] := by
  unfold nearE
  rw [h]
  have h1 : ((visE D).take (m + 1)).length = m + 1 := by rw [List.length_take]; omega
  rw [lastE_at h1, List.getElem_take]
set_option maxRecDepth 100000 in
set_option maxHeartbeats 2000000 in
theorem rNear_any (a : Option Addr) (cap : Nat) (l : List OpR) (e : El) (w : World) (hT : Tabs w) (h : OpsAt w a l) (hr : rowP (OpR.os l)) (he : wroteE (OpR.os l) e) : Calls Tryz.prog 28 #[.slice a l.length cap, e.v] w (ElPost (nearE (OpR.os l) e) w) := by
  have HP := Lib.hid (fun wx (hx : Below w.heap.size w wx) => rPlace_any a cap l e wx (hT.next hx) (h.below hx) hr he)
  have HV := Lib.hid (fun wx (hx : Below w.heap.size w wx) => rVis_any a cap l wx (hT.next hx) (szs_rowC hr) (h.below hx) hr)
  have hb0 : Below w.heap.size w (w.alloc (.cells #[.int .i64 e.s, .int .i64 e.q, .int .i64 e.i] 37)) := (Below.refl _ _).alloc (Nat.le_refl _) _
  have hbb := hb0.alloc hb0.size (.cells #[.int .i64 0, .int .i64 0, .int .i64 0] 37)
  have HB0 := Lib.hid hbb
  have hbox := (BoxE.new w e).step ((Below.refl _ _).alloc (Nat.le_refl _) (.cells #[.int .i64 0, .int .i64 0, .int .i64 0] 37))
  obtain ⟨pl, p0, p1, p2⟩ := hbox
  have hq := heap_alloc_new (w.alloc (.cells #[.int .i64 e.s, .int .i64 e.q, .int .i64 e.i] 37)) (.cells #[.int .i64 0, .int .i64 0, .int .i64 0] 37)
  have hsz : (w.alloc (.cells #[.int .i64 e.s, .int .i64 e.q, .int .i64 e.i] 37)).heap.size = w.heap.size + 1 := by simp
  rw [hsz] at hq
  have HQ := Lib.hid hq
  have hql := (Array.getElem?_eq_some_iff.1 hq).1
  have hv2 := visE_le hr.2
  have hpv := plE_le (OpR.os l) e
  have HZ := Lib.hid (fun h0 => near_zero (D := OpR.os l) (e := e) h0)
  have HA := Lib.hid (fun m h1 h2 => near_at (D := OpR.os l) (e := e) (m := m) h1 h2)
  unfold IntB at HP
  unfold OwnPost at HV
  generalize nearE (OpR.os l) e = y at *
  generalize plE (OpR.os l) e = pn at *
  generalize visE (OpR.os l) = V at *
  generalize l.length = n at *
  obtain ⟨nv, hnv⟩ : ∃ m, V.length = m := ⟨_, rfl⟩
  have HNV := Lib.hid hnv
  rw [hnv] at HV hv2 hpv
  clear h hr hq hb0 hbb hsz he hT
  obtain ⟨s, q, i⟩ := e
  unfold El.v at HP ⊢
  unfold ElPost
  simp only at HP HB0 p0 p1 p2 pl HQ hql ⊢
  by_cases hz : pn = 0
  · rw [HZ.out hz]
    subst hz
    unfold B0
    clear hnv hv2 hpv
    go_enter Tryz.func28, Tryz.ntmps28
    go_wp2_with (first
      | (go_at_call 27; refine (HP.out _ HB0.out).mono ?_; rintro x1 w1 ⟨rfl, hb1⟩; have HB1 := Lib.hid (HB0.out.trans (hb1.mono HB0.out.size)); obtain ⟨r0, r1, r2, rf, rl⟩ := cells3 ((hb1.block _ hql).trans HQ.out); clear hb1)
      | fail)
    refine bodyPost_ret (v := .agg #[.int .i64 0, .int .i64 0, .int .i64 0]) (by simp [results, Tryz.results28, go_sem, r0, r1, r2]) rfl ⟨rfl, ?_⟩
    exact set3 HB1.out (Nat.le_succ _) _ _ _
  · obtain ⟨m, rfl⟩ : ∃ m, pn = m + 1 := ⟨pn - 1, by omega⟩
    have hmv : m < V.length := by omega
    rw [HA.out m rfl hmv]
    have HE := Lib.hid (fun (wx : World) (b : Option Addr) (hx : ElemsAt wx b V) => hx.cell m hmv)
    generalize V[m] = z at *
    obtain ⟨zs, zq, zi⟩ := z
    simp only at HE ⊢
    have hmi : (m : Int) < (nv : Int) := by omega
    have hm0 : (0 : Int) ≤ (m : Int) := by omega
    have hm2 : (m : Int) ≤ 200 := by omega
    have hz1 : ¬ ((m : Int) + 1 = 0) := by omega
    have hz2 : (((m : Int) + 1) == 0) = false := by simp; omega
    clear hnv hv2 hpv hz hmv
    go_enter Tryz.func28, Tryz.ntmps28
    go_wp2_with (first
      | (go_at_call 27; refine (HP.out _ HB0.out).mono ?_; rintro x1 w1 ⟨rfl, hb1⟩; have HB1 := Lib.hid (HB0.out.trans (hb1.mono HB0.out.size)); have HQ1 := Lib.hid ((hb1.block _ hql).trans HQ.out); have HL1 := Lib.hid (Nat.lt_of_lt_of_le hql hb1.size); clear hb1)
      | (go_at_call 32; refine (HV.out w1 HB1.out).mono ?_; rintro x2 w2 ⟨v2, rfl, hown2, hb2⟩; obtain ⟨av, cv, hv2, hev, -, -⟩ := elems_own (by rw [HNV.out]; exact hown2); rw [HNV.out] at hv2; subst hv2; obtain ⟨eb, eo, rfl, heb, x0, x1, x2⟩ := HE.out w2 av hev; have HB2 := Lib.hid (HB1.out.trans (hb2.mono HB1.out.size)); obtain ⟨r0, r1, r2, rf, rl⟩ := cells3 ((hb2.block _ HL1.out).trans HQ1.out); clear hb2 hown2 hev)
      | fail)
    refine bodyPost_ret (v := .agg #[.int .i64 zs, .int .i64 zq, .int .i64 zi]) (by simp [results, Tryz.results28, go_sem, r0, r1, r2]) rfl ⟨rfl, ?_⟩
    exact set3 HB2.out (Nat.le_succ _) _ _ _
end Go.Proofs.YthnedehihbploaaGreatDoor
