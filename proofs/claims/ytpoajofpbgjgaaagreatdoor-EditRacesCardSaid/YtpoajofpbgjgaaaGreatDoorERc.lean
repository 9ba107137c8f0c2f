/- contracts of the page's own functions on ops: own, Runes, Elems; of the laws: OpWeight, CopyOp, EqOp -/
import Derived.Test.YtpoajofpbgjgaaaGreatDoorOCopy
import Derived.Test.YtpoajofpbgjgaaaGreatDoorEEdit
import Derived.Test.YtpoajofpbgjgaaaGreatDoorVEq
import Derived.Deep.DeepCutAuto
import Derived.Deep.RegionLaw
import Derived.Deep.RegionHeld3
import Derived.Lib.QuietBelow
import Derived.Deep.QuietTactic
import Derived.BigQuiet
import Derived.IntWalk
namespace Go.Proofs.YtpoajofpbgjgaaaGreatDoor
open Go.RowKit Go.Lib
set_option maxRecDepth 100000 in
set_option maxHeartbeats 1000000 in
theorem Elems4_any (o : OpD) (a : Option Addr) (cap : Nat) (w : World) (hT : Tabs w) (hs : o.text.size ≤ 60000) : Calls Tryz.prog 11 #[o.v a cap] w (OwnPost (mine o.site o.seq (nR o.text)) w) := by
  obtain ⟨site, seq, kind, ⟨es, eq, ei⟩, text, gone, of, num, gen⟩ := o
  obtain ⟨i0, hi, hz0, hz1, hz2⟩ := info_parts Tryz.infoElem
  have hb0 : Below w.heap.size w (w.alloc (OpD.obj ⟨site, seq, kind, ⟨es, eq, ei⟩, text, gone, of, num, gen⟩ a cap)) := (Below.refl _ _).alloc (Nat.le_refl _) _
  have hz : (w.alloc (OpD.obj ⟨site, seq, kind, ⟨es, eq, ei⟩, text, gone, of, num, gen⟩ a cap)).heap.size = w.heap.size + 1 := by simp
  have HT := Lib.hid (hT.next hb0)
  have HR := Lib.hid (fun W h => Runes4_any ⟨site, seq, kind, ⟨es, eq, ei⟩, text, gone, of, num, gen⟩ a cap W h hs)
  have hc0 : (w.alloc (OpD.obj ⟨site, seq, kind, ⟨es, eq, ei⟩, text, gone, of, num, gen⟩ a cap)).cell? ⟨w.heap.size, 0, none⟩ = some (.int .i64 site) := by simp [OpD.obj]
  have hc1 : (w.alloc (OpD.obj ⟨site, seq, kind, ⟨es, eq, ei⟩, text, gone, of, num, gen⟩ a cap)).cell? ⟨w.heap.size, 1, none⟩ = some (.int .i64 seq) := by simp [OpD.obj]
  have hc2 : (w.alloc (OpD.obj ⟨site, seq, kind, ⟨es, eq, ei⟩, text, gone, of, num, gen⟩ a cap)).cell? ⟨w.heap.size, 2, none⟩ = some (.int .i64 kind) := by simp [OpD.obj]
  have hc3 : (w.alloc (OpD.obj ⟨site, seq, kind, ⟨es, eq, ei⟩, text, gone, of, num, gen⟩ a cap)).cell? ⟨w.heap.size, 3, none⟩ = some (.int .i64 es) := by simp [OpD.obj]
  have hc4 : (w.alloc (OpD.obj ⟨site, seq, kind, ⟨es, eq, ei⟩, text, gone, of, num, gen⟩ a cap)).cell? ⟨w.heap.size, 4, none⟩ = some (.int .i64 eq) := by simp [OpD.obj]
  have hc5 : (w.alloc (OpD.obj ⟨site, seq, kind, ⟨es, eq, ei⟩, text, gone, of, num, gen⟩ a cap)).cell? ⟨w.heap.size, 5, none⟩ = some (.int .i64 ei) := by simp [OpD.obj]
  have hc6 : (w.alloc (OpD.obj ⟨site, seq, kind, ⟨es, eq, ei⟩, text, gone, of, num, gen⟩ a cap)).cell? ⟨w.heap.size, 6, none⟩ = some (.string text) := by simp [OpD.obj]
  have hc7 : (w.alloc (OpD.obj ⟨site, seq, kind, ⟨es, eq, ei⟩, text, gone, of, num, gen⟩ a cap)).cell? ⟨w.heap.size, 7, none⟩ = some (.slice a gone.length cap) := by simp [OpD.obj]
  have hc8 : (w.alloc (OpD.obj ⟨site, seq, kind, ⟨es, eq, ei⟩, text, gone, of, num, gen⟩ a cap)).cell? ⟨w.heap.size, 8, none⟩ = some (.int .i64 of) := by simp [OpD.obj]
  have hc9 : (w.alloc (OpD.obj ⟨site, seq, kind, ⟨es, eq, ei⟩, text, gone, of, num, gen⟩ a cap)).cell? ⟨w.heap.size, 9, none⟩ = some (.int .i64 num) := by simp [OpD.obj]
  have hca : (w.alloc (OpD.obj ⟨site, seq, kind, ⟨es, eq, ei⟩, text, gone, of, num, gen⟩ a cap)).cell? ⟨w.heap.size, 10, none⟩ = some (.int .i64 gen) := by simp [OpD.obj]
  have hn := nR_le text
  unfold OpD.v at HR ⊢
  unfold OpD.obj at hb0 hz HT hc0 hc1 hc2 hc3 hc4 hc5 hc6 hc7 hc8 hc9 hca
  simp only at HR hb0 hz HT hs hc0 hc1 hc2 hc3 hc4 hc5 hc6 hc7 hc8 hc9 hca ⊢
  generalize nR text = n at *
  clear hT
  go_enter Tryz.func11, Tryz.ntmps11
  go_wp2_with fail
  generalize hW : w.alloc (.cells #[.int .i64 site, .int .i64 seq, .int .i64 kind, .int .i64 es, .int .i64 eq, .int .i64 ei, .string text, .slice a gone.length cap, .int .i64 of, .int .i64 num, .int .i64 gen] 34) = W0 at *
  have HZ := Lib.hid hz
  clear hz hW
  go_loopw [3, 4] (fun v i wr => ∃ k : Nat, k ≤ n ∧ i = .int .i64 k ∧ wr.ownsRow (w.heap.size + 1) 32 3 v k (ecs (mine site seq k)) ∧ Below W0.heap.size W0 wr) (fun _ i _ => n - (RowKit.intOf i).toNat)
  case atStart => exact ⟨0, by omega, rfl, World.ownsRow_nil _ _ _ _, Below.refl _ _⟩
  case round =>
    obtain ⟨k, hk, rfl, hown, hbel⟩ := hrel
    have hzr : w.heap.size + 1 ≤ wr.heap.size := by rw [← HZ.out]; exact hbel.size
    have hlt0 : w.heap.size < W0.heap.size := by rw [HZ.out]; omega
    have d0 := (hbel.cell (p := ⟨w.heap.size, 0, none⟩) hlt0).trans hc0
    have d1 := (hbel.cell (p := ⟨w.heap.size, 1, none⟩) hlt0).trans hc1
    have d2 := (hbel.cell (p := ⟨w.heap.size, 2, none⟩) hlt0).trans hc2
    have d3 := (hbel.cell (p := ⟨w.heap.size, 3, none⟩) hlt0).trans hc3
    have d4 := (hbel.cell (p := ⟨w.heap.size, 4, none⟩) hlt0).trans hc4
    have d5 := (hbel.cell (p := ⟨w.heap.size, 5, none⟩) hlt0).trans hc5
    have d6 := (hbel.cell (p := ⟨w.heap.size, 6, none⟩) hlt0).trans hc6
    have d7 := (hbel.cell (p := ⟨w.heap.size, 7, none⟩) hlt0).trans hc7
    have d8 := (hbel.cell (p := ⟨w.heap.size, 8, none⟩) hlt0).trans hc8
    have d9 := (hbel.cell (p := ⟨w.heap.size, 9, none⟩) hlt0).trans hc9
    have da := (hbel.cell (p := ⟨w.heap.size, 10, none⟩) hlt0).trans hca
    go_wp2_with fail
    refine (HR.out _ (HT.out.next hbel)).mono ?_
    rintro e w1 ⟨rfl, hb1⟩
    have hbw1 := hbel.trans (hb1.mono hbel.size)
    have hown1 := owns_belE hown hb1
    have e0 := (hbw1.cell (p := ⟨w.heap.size, 0, none⟩) hlt0).trans hc0
    have e1 := (hbw1.cell (p := ⟨w.heap.size, 1, none⟩) hlt0).trans hc1
    have hz1 : w.heap.size + 1 ≤ w1.heap.size := by rw [← HZ.out]; exact hbw1.size
    clear d0 d1 d2 d3 d4 d5 d6 d7 d8 d9 da hown hb1 hbel
    by_cases hlt : k < n
    · have hlti : (k : Int) < (n : Int) := by omega
      have c2 : k + 1 ≤ maxLen := by unfold maxLen; omega
      have c3 : (k + 1) * 24 ≤ 140737488355328 := by omega
      go_wp2_with (first | (at_builtin; refine wpList_append_own _ rfl _ _ 23 rfl (w.heap.size + 1) 32 i0 (.agg #[.int .i64 0, .int .i64 0, .int .i64 0]) 3 24 Tryz.underlying23 hi hz0 ‹_› hz2 rfl (by decide) _ _ _ rfl (hown1.alloc _) ⟨w1.heap.size, 0, none⟩ 1 1 (El.cs ⟨site, seq, k⟩) rfl rfl (cell_three_new _ ⟨site, seq, k⟩ _) (cs_one ⟨site, seq, k⟩) c2 c3 (by simp; omega) ?_) | fail)
      intro v2 w2 hown2 hgrow2 _
      have hb2 : Below W0.heap.size W0 w2 := (hbw1.alloc hbw1.size _).grown hgrow2 (by have := hbw1.size; simp; omega) (fun q hq => by rw [HZ.out]; exact own_ge hown1 q hq)
      have hown3 : w2.ownsRow (w.heap.size + 1) 32 3 v2 (k + 1) (ecs (mine site seq (k + 1))) := by
        rw [mine_succ, ecs_append]
        have e1 : ecs [(⟨site, seq, k⟩ : El)] = El.cs ⟨site, seq, k⟩ := by simp [ecs]
        rw [e1]
        exact hown2
      clear hown1 hown2 hgrow2
      go_wp2
      go_roundw
      case rel => exact ⟨k + 1, by omega, by go_num, hown3, hb2⟩
      case measure => simp [RowKit.intOf]; omega
    · have hlti : ¬ (k : Int) < (n : Int) := by omega
      have h0 : k = n := by omega
      have HO := Lib.hid (show w1.ownsRow w.heap.size 32 3 u3 (mine site seq n).length (ecs (mine site seq n)) by rw [mine_length, ← h0]; exact owns_base hown1 (by omega))
      clear hown1 h0
      go_wp2
      go_ret
      exact ⟨_, rfl, HO.out, hb0.trans (hbw1.mono hb0.size)⟩
end Go.Proofs.YtpoajofpbgjgaaaGreatDoor
/- EditRaces: regions as theorems of their own -/
namespace Go.Proofs.YtpoajofpbgjgaaaGreatDoor
open Go.RowKit Go.Lib Go.Sort

noncomputable def regRc (n : Nat) : Code := ((Tryz.f3.body.bind (regOfE n)).getD .skip)
def Keeps (R : Value → World → Prop) : Prop := ∀ v w1 w2, R v w1 → Below w1.heap.size w1 w2 → R v w2
def KeepsS (R : Option Addr → Nat → World → Prop) : Prop := ∀ g c w1 w2, R g c w1 → Below w1.heap.size w1 w2 → R g c w2
def GivesS (n : Nat) (R : Option Addr → Nat → World → Prop) (w : World) (e : Ending) (w' : World) : Prop := ∃ (g : Option Addr) (c : Nat), e = .returned (.slice g n c) ∧ R g c w' ∧ Below w.heap.size w w'
def Gives (R : Value → World → Prop) (w : World) (e : Ending) (w' : World) : Prop := ∃ v, e = .returned v ∧ R v w' ∧ Below w.heap.size w w'
theorem and22 {p0 p1 p2 p3 p4 p5 p6 p7 p8 p9 p10 p11 p12 p13 p14 p15 p16 p17 p18 p19 p20 p21 : Prop} (h : p0 ∧ p1 ∧ p2 ∧ p3 ∧ p4 ∧ p5 ∧ p6 ∧ p7 ∧ p8 ∧ p9 ∧ p10) (g : p11 ∧ p12 ∧ p13 ∧ p14 ∧ p15 ∧ p16 ∧ p17 ∧ p18 ∧ p19 ∧ p20 ∧ p21) : p0 ∧ p1 ∧ p2 ∧ p3 ∧ p4 ∧ p5 ∧ p6 ∧ p7 ∧ p8 ∧ p9 ∧ p10 ∧ p11 ∧ p12 ∧ p13 ∧ p14 ∧ p15 ∧ p16 ∧ p17 ∧ p18 ∧ p19 ∧ p20 ∧ p21 := by
  obtain ⟨h0, h1, h2, h3, h4, h5, h6, h7, h8, h9, h10⟩ := h
  exact ⟨h0, h1, h2, h3, h4, h5, h6, h7, h8, h9, h10, g⟩
set_option maxRecDepth 100000 in
set_option maxHeartbeats 8000000 in
theorem rc_r18 {u0 u1 u2 u3 u5 u6 u7 u8 u10 u12 u13 u14 u15 u16 u17 u18 u19 u20 u21 u22 u23 u24 u25 u26 u27 u28 u29 u30 u31 u32 u33 u34 u35 u36 u37 u38 u39 u40 u41 u42 u43 u44 u45 u46 u47 u48 u49 u50 u51 u52 u53 u54 u55 u56 u57 u58 u59 u60 u61 u62 u63 u64 u65 u66 u67 u68 u69 u70 u71 u72 u73 u74 u75 u76 u77 u78 u79 u80 u81 u82 u83 u84 u85 u86 u87 u88 u89 u90 u91 u92 u93 u94 u95 u96 u97 u98 u99 u100 u101 u102 u103 u104 u105 u106 u107 u108 u109 u110 u111 u112 u113 u114 u115 u116 u117 u118 u119 u120 u121 u122 u123 u124 u125 u126 u127 u128 u129 u130 u131 u132 u133 u134 u135 u136 u137 u138 u139 u140 u141 u142 u143 u144 u145 u146 u147 u148 u149 u150 u151 u152 u153 u154 u155 u156 u157 u158 u159 u160 u161 u162 u163 u164 u165 u166 u167 u168 u169 u170 u171 u172 u173 u174 u175 u176 u177 u178 u179 u180 u181 u182 u183 u184 u185 u186 u187 u188 u189 u190 u191 u192 u193 u194 u195 u196 u197 u198 u199 u200 : Value}
    {ra : Option Addr} {nr rc b9 b11 : Nat} {js jq jk jx jy jz jo jm je : Int} {jt : ByteArray} {jg : Option Addr} {jn jc : Nat} {ps pq pk px py pz po pm pe : Int} {pt : ByteArray} {pg : Option Addr} {pn pc : Nat} (w : World)
    (HA : RowKit.Hid (∀ wx : World, Below w.heap.size w wx → wx.cell? ⟨b9, 0, none⟩ = some (.int .i64 js) ∧ wx.cell? ⟨b9, 1, none⟩ = some (.int .i64 jq) ∧ wx.cell? ⟨b9, 2, none⟩ = some (.int .i64 jk) ∧ wx.cell? ⟨b9, 3, none⟩ = some (.int .i64 jx) ∧ wx.cell? ⟨b9, 4, none⟩ = some (.int .i64 jy) ∧ wx.cell? ⟨b9, 5, none⟩ = some (.int .i64 jz) ∧ wx.cell? ⟨b9, 6, none⟩ = some (.string jt) ∧ wx.cell? ⟨b9, 7, none⟩ = some (.slice jg jn jc) ∧ wx.cell? ⟨b9, 8, none⟩ = some (.int .i64 jo) ∧ wx.cell? ⟨b9, 9, none⟩ = some (.int .i64 jm) ∧ wx.cell? ⟨b9, 10, none⟩ = some (.int .i64 je)))
    (HB : RowKit.Hid (∀ wx : World, Below w.heap.size w wx → wx.cell? ⟨b11, 0, none⟩ = some (.int .i64 ps) ∧ wx.cell? ⟨b11, 1, none⟩ = some (.int .i64 pq) ∧ wx.cell? ⟨b11, 2, none⟩ = some (.int .i64 pk) ∧ wx.cell? ⟨b11, 3, none⟩ = some (.int .i64 px) ∧ wx.cell? ⟨b11, 4, none⟩ = some (.int .i64 py) ∧ wx.cell? ⟨b11, 5, none⟩ = some (.int .i64 pz) ∧ wx.cell? ⟨b11, 6, none⟩ = some (.string pt) ∧ wx.cell? ⟨b11, 7, none⟩ = some (.slice pg pn pc) ∧ wx.cell? ⟨b11, 8, none⟩ = some (.int .i64 po) ∧ wx.cell? ⟨b11, 9, none⟩ = some (.int .i64 pm) ∧ wx.cell? ⟨b11, 10, none⟩ = some (.int .i64 pe)))
    (_hl9 : b9 < w.heap.size) (_hl11 : b11 < w.heap.size)
    {R1 R2 R3 R4 : Value → World → Prop} (_HP1 : RowKit.Hid (Keeps R1)) (HP2 : RowKit.Hid (Keeps R2)) (_HP3 : RowKit.Hid (Keeps R3))
    (H1 : RowKit.Hid (∀ wx : World, Below w.heap.size w wx → Calls Tryz.prog 9 #[.slice ra nr rc, .agg #[.int .i64 js, .int .i64 jq, .int .i64 jk, .int .i64 jx, .int .i64 jy, .int .i64 jz, .string jt, .slice jg jn jc, .int .i64 jo, .int .i64 jm, .int .i64 je]] wx (Gives R1 wx)))
    (H2 : RowKit.Hid (∀ v (wx : World), R1 v wx → Below w.heap.size w wx → Calls Tryz.prog 9 #[v, .agg #[.int .i64 ps, .int .i64 pq, .int .i64 pk, .int .i64 px, .int .i64 py, .int .i64 pz, .string pt, .slice pg pn pc, .int .i64 po, .int .i64 pm, .int .i64 pe]] wx (Gives R2 wx)))
    (H3 : RowKit.Hid (∀ wx : World, Below w.heap.size w wx → Calls Tryz.prog 9 #[.slice ra nr rc, .agg #[.int .i64 ps, .int .i64 pq, .int .i64 pk, .int .i64 px, .int .i64 py, .int .i64 pz, .string pt, .slice pg pn pc, .int .i64 po, .int .i64 pm, .int .i64 pe]] wx (Gives R3 wx)))
    (H4 : RowKit.Hid (∀ v (wx : World), R3 v wx → Below w.heap.size w wx → Calls Tryz.prog 9 #[v, .agg #[.int .i64 js, .int .i64 jq, .int .i64 jk, .int .i64 jx, .int .i64 jy, .int .i64 jz, .string jt, .slice jg jn jc, .int .i64 jo, .int .i64 jm, .int .i64 je]] wx (Gives R4 wx)))
    {K : Act → World → Prop} {Q : Exit → Act → World → Prop} (hK : ∀ (v90 v91 v92 v93 v94 v95 v96 v97 v98 v99 : Value) (x2 x4 : Value) (wx : World), R2 x2 wx → R4 x4 wx → Below w.heap.size w wx → K ⟨#[u0, u1, u2, u3, .slice ra nr rc, u5, u6, u7, u8, .pointer (some ⟨b9, 0, none⟩), u10, .pointer (some ⟨b11, 0, none⟩), u12, x2, x4, u15, u16, u17, u18, u19, u20, u21, u22, u23, u24, u25, u26, u27, u28, u29, u30, u31, u32, u33, u34, u35, u36, u37, u38, u39, u40, u41, u42, u43, u44, u45, u46, u47, u48, u49, u50, u51, u52, u53, u54, u55, u56, u57, u58, u59, u60, u61, u62, u63, u64, u65, u66, u67, u68, u69, u70, u71, u72, u73, u74, u75, u76, u77, u78, u79, u80, u81, u82, u83, u84, u85, u86, u87, u88, u89, v90, v91, v92, v93, v94, v95, v96, v97, v98, v99, u100, u101, u102, u103, u104, u105, u106, u107, u108, u109, u110, u111, u112, u113, u114, u115, u116, u117, u118, u119, u120, u121, u122, u123, u124, u125, u126, u127, u128, u129, u130, u131, u132, u133, u134, u135, u136, u137, u138, u139, u140, u141, u142, u143, u144, u145, u146, u147, u148, u149, u150, u151, u152, u153, u154, u155, u156, u157, u158, u159, u160, u161, u162, u163, u164, u165, u166, u167, u168, u169, u170, u171, u172, u173, u174, u175, u176, u177, u178, u179, u180, u181, u182, u183, u184, u185, u186, u187, u188, u189, u190, u191, u192, u193, u194, u195, u196, u197, u198, u199, u200], []⟩ wx) :
    Code.wp Tryz.prog (regRc 18) (Exit.then K Q) ⟨#[u0, u1, u2, u3, .slice ra nr rc, u5, u6, u7, u8, .pointer (some ⟨b9, 0, none⟩), u10, .pointer (some ⟨b11, 0, none⟩), u12, u13, u14, u15, u16, u17, u18, u19, u20, u21, u22, u23, u24, u25, u26, u27, u28, u29, u30, u31, u32, u33, u34, u35, u36, u37, u38, u39, u40, u41, u42, u43, u44, u45, u46, u47, u48, u49, u50, u51, u52, u53, u54, u55, u56, u57, u58, u59, u60, u61, u62, u63, u64, u65, u66, u67, u68, u69, u70, u71, u72, u73, u74, u75, u76, u77, u78, u79, u80, u81, u82, u83, u84, u85, u86, u87, u88, u89, u90, u91, u92, u93, u94, u95, u96, u97, u98, u99, u100, u101, u102, u103, u104, u105, u106, u107, u108, u109, u110, u111, u112, u113, u114, u115, u116, u117, u118, u119, u120, u121, u122, u123, u124, u125, u126, u127, u128, u129, u130, u131, u132, u133, u134, u135, u136, u137, u138, u139, u140, u141, u142, u143, u144, u145, u146, u147, u148, u149, u150, u151, u152, u153, u154, u155, u156, u157, u158, u159, u160, u161, u162, u163, u164, u165, u166, u167, u168, u169, u170, u171, u172, u173, u174, u175, u176, u177, u178, u179, u180, u181, u182, u183, u184, u185, u186, u187, u188, u189, u190, u191, u192, u193, u194, u195, u196, u197, u198, u199, u200], []⟩ w := by
  have HK := Lib.hid hK
  clear hK
  unfold Gives at H1 H2 H3 H4
  conv => arg 2; whnf
  have hb0 := (Below.refl w.heap.size w).drew
  obtain ⟨k0, k1, k2, k3, k4, k5, k6, k7, k8, k9, ka⟩ := HA.out w (Below.refl _ _)
  obtain ⟨l0, l1, l2, l3, l4, l5, l6, l7, l8, l9, la⟩ := HB.out w (Below.refl _ _)
  go_region_held3 (fun w' => w'.cell? ⟨b9, 0, none⟩ = some (.int .i64 js) ∧ w'.cell? ⟨b9, 1, none⟩ = some (.int .i64 jq) ∧ w'.cell? ⟨b9, 2, none⟩ = some (.int .i64 jk) ∧ w'.cell? ⟨b9, 3, none⟩ = some (.int .i64 jx) ∧ w'.cell? ⟨b9, 4, none⟩ = some (.int .i64 jy) ∧ w'.cell? ⟨b9, 5, none⟩ = some (.int .i64 jz) ∧ w'.cell? ⟨b9, 6, none⟩ = some (.string jt) ∧ w'.cell? ⟨b9, 7, none⟩ = some (.slice jg jn jc) ∧ w'.cell? ⟨b9, 8, none⟩ = some (.int .i64 jo) ∧ w'.cell? ⟨b9, 9, none⟩ = some (.int .i64 jm) ∧ w'.cell? ⟨b9, 10, none⟩ = some (.int .i64 je) ∧ w'.cell? ⟨b11, 0, none⟩ = some (.int .i64 ps) ∧ w'.cell? ⟨b11, 1, none⟩ = some (.int .i64 pq) ∧ w'.cell? ⟨b11, 2, none⟩ = some (.int .i64 pk) ∧ w'.cell? ⟨b11, 3, none⟩ = some (.int .i64 px) ∧ w'.cell? ⟨b11, 4, none⟩ = some (.int .i64 py) ∧ w'.cell? ⟨b11, 5, none⟩ = some (.int .i64 pz) ∧ w'.cell? ⟨b11, 6, none⟩ = some (.string pt) ∧ w'.cell? ⟨b11, 7, none⟩ = some (.slice pg pn pc) ∧ w'.cell? ⟨b11, 8, none⟩ = some (.int .i64 po) ∧ w'.cell? ⟨b11, 9, none⟩ = some (.int .i64 pm) ∧ w'.cell? ⟨b11, 10, none⟩ = some (.int .i64 pe)) (first | exact and22 (HA.out _ hb0) (HB.out _ hb0) | exact and22 (HA.out _ hb1) (HB.out _ hb1) | exact and22 (HA.out _ hb2) (HB.out _ hb2) | exact and22 (HA.out _ hb3) (HB.out _ hb3) | exact and22 (HA.out _ hb4) (HB.out _ hb4)) (first
    | (go_at_call 9; refine (H4.out x3 w3 r3 hb3).mono ?_; rintro e4 w4 ⟨x4, rfl, r4, hb4'⟩; have hb4 := hb3.trans (hb4'.mono hb3.size); have r2'' := HP2.out _ _ _ r2' hb4')
    | (go_at_call 9; refine (H3.out w2 hb2).mono ?_; rintro e3 w3 ⟨x3, rfl, r3, hb3'⟩; have hb3 := hb2.trans (hb3'.mono hb2.size); have r2' := HP2.out _ _ _ r2 hb3')
    | (go_at_call 9; refine (H2.out x1 w1 r1 hb1).mono ?_; rintro e2 w2 ⟨x2, rfl, r2, hb2'⟩; have hb2 := hb1.trans (hb2'.mono hb1.size))
    | (go_at_call 9; refine (H1.out w.drew (Below.refl _ w).drew).mono ?_; rintro e1 w1 ⟨x1, rfl, r1, hb1'⟩; have hb1 := (Below.refl w.heap.size w).drew.trans (hb1'.mono (Nat.le_refl _)))
    | fail)
  exact HK.out _ _ _ _ _ _ _ _ _ _ x2 x4 _ r2'' r4 hb4

set_option maxRecDepth 100000 in
set_option maxHeartbeats 8000000 in
theorem rc_r15 {u0 u1 u2 u3 u5 u6 u9 u10 u11 u12 u13 u14 u15 u16 u17 u18 u19 u20 u21 u22 u23 u24 u25 u26 u27 u28 u29 u30 u31 u32 u33 u34 u35 u36 u37 u38 u39 u40 u41 u42 u43 u44 u45 u46 u47 u48 u49 u50 u51 u52 u53 u54 u55 u56 u57 u58 u59 u60 u61 u62 u63 u64 u65 u66 u67 u68 u69 u70 u71 u72 u73 u74 u75 u76 u77 u78 u79 u80 u81 u82 u83 u84 u85 u86 u87 u88 u89 u90 u91 u92 u93 u94 u95 u96 u97 u98 u99 u100 u101 u102 u103 u104 u105 u106 u107 u108 u109 u110 u111 u112 u113 u114 u115 u116 u117 u118 u119 u120 u121 u122 u123 u124 u125 u126 u127 u128 u129 u130 u131 u132 u133 u134 u135 u136 u137 u138 u139 u140 u141 u142 u143 u144 u145 u146 u147 u148 u149 u150 u151 u152 u153 u154 u155 u156 u157 u158 u159 u160 u161 u162 u163 u164 u165 u166 u167 u168 u169 u170 u171 u172 u173 u174 u175 u176 u177 u178 u179 u180 u181 u182 u183 u184 u185 u186 u187 u188 u189 u190 u191 u192 u193 u194 u195 u196 u197 u198 u199 u200 : Value}
    {ra : Option Addr} {nr rc at_ n : Nat} {js jq jk jx jy jz jo jm je er : Int} {jt : ByteArray} {jn : Nat} (w : World)
    {RG : Option Addr → Nat → World → Prop} (HP : RowKit.Hid (∀ g c w1 w2, RG g c w1 → Below w1.heap.size w1 w2 → RG g c w2))
    (H : RowKit.Hid (Calls Tryz.prog 7 #[.slice ra nr rc, .int .i64 1, .int .i64 (at_ : Int), .int .i64 (n : Int), .string ⟨#[112, 113]⟩] w (fun e w' => ∃ (g : Option Addr) (c : Nat), e = .returned (.tuple #[.agg #[.int .i64 js, .int .i64 jq, .int .i64 jk, .int .i64 jx, .int .i64 jy, .int .i64 jz, .string jt, .slice g jn c, .int .i64 jo, .int .i64 jm, .int .i64 je], .int .i64 er]) ∧ RG g c w' ∧ Below w.heap.size w w')))
    {K : Act → World → Prop} {Q : Exit → Act → World → Prop} (hK : ∀ (v64 v65 v66 v67 v68 v69 v70 : Value) (bx : Nat) (g : Option Addr) (c : Nat) (wx : World), wx.heap[bx]? = some (.cells #[.int .i64 js, .int .i64 jq, .int .i64 jk, .int .i64 jx, .int .i64 jy, .int .i64 jz, .string jt, .slice g jn c, .int .i64 jo, .int .i64 jm, .int .i64 je] 34 (0, 0)) → w.heap.size ≤ bx → RG g c wx → Below w.heap.size w wx → K ⟨#[u0, u1, u2, u3, .slice ra nr rc, u5, u6, .int .i64 (at_ : Int), .int .i64 (n : Int), .pointer (some ⟨bx, 0, none⟩), .int .i64 er, u11, u12, u13, u14, u15, u16, u17, u18, u19, u20, u21, u22, u23, u24, u25, u26, u27, u28, u29, u30, u31, u32, u33, u34, u35, u36, u37, u38, u39, u40, u41, u42, u43, u44, u45, u46, u47, u48, u49, u50, u51, u52, u53, u54, u55, u56, u57, u58, u59, u60, u61, u62, u63, v64, v65, v66, v67, v68, v69, v70, u71, u72, u73, u74, u75, u76, u77, u78, u79, u80, u81, u82, u83, u84, u85, u86, u87, u88, u89, u90, u91, u92, u93, u94, u95, u96, u97, u98, u99, u100, u101, u102, u103, u104, u105, u106, u107, u108, u109, u110, u111, u112, u113, u114, u115, u116, u117, u118, u119, u120, u121, u122, u123, u124, u125, u126, u127, u128, u129, u130, u131, u132, u133, u134, u135, u136, u137, u138, u139, u140, u141, u142, u143, u144, u145, u146, u147, u148, u149, u150, u151, u152, u153, u154, u155, u156, u157, u158, u159, u160, u161, u162, u163, u164, u165, u166, u167, u168, u169, u170, u171, u172, u173, u174, u175, u176, u177, u178, u179, u180, u181, u182, u183, u184, u185, u186, u187, u188, u189, u190, u191, u192, u193, u194, u195, u196, u197, u198, u199, u200], []⟩ wx) :
    Code.wp Tryz.prog (regRc 15) (Exit.then K Q) ⟨#[u0, u1, u2, u3, .slice ra nr rc, u5, u6, .int .i64 (at_ : Int), .int .i64 (n : Int), u9, u10, u11, u12, u13, u14, u15, u16, u17, u18, u19, u20, u21, u22, u23, u24, u25, u26, u27, u28, u29, u30, u31, u32, u33, u34, u35, u36, u37, u38, u39, u40, u41, u42, u43, u44, u45, u46, u47, u48, u49, u50, u51, u52, u53, u54, u55, u56, u57, u58, u59, u60, u61, u62, u63, u64, u65, u66, u67, u68, u69, u70, u71, u72, u73, u74, u75, u76, u77, u78, u79, u80, u81, u82, u83, u84, u85, u86, u87, u88, u89, u90, u91, u92, u93, u94, u95, u96, u97, u98, u99, u100, u101, u102, u103, u104, u105, u106, u107, u108, u109, u110, u111, u112, u113, u114, u115, u116, u117, u118, u119, u120, u121, u122, u123, u124, u125, u126, u127, u128, u129, u130, u131, u132, u133, u134, u135, u136, u137, u138, u139, u140, u141, u142, u143, u144, u145, u146, u147, u148, u149, u150, u151, u152, u153, u154, u155, u156, u157, u158, u159, u160, u161, u162, u163, u164, u165, u166, u167, u168, u169, u170, u171, u172, u173, u174, u175, u176, u177, u178, u179, u180, u181, u182, u183, u184, u185, u186, u187, u188, u189, u190, u191, u192, u193, u194, u195, u196, u197, u198, u199, u200], []⟩ w := by
  have HK := Lib.hid hK
  clear hK
  conv => arg 2; whnf
  go_wp2_with (first | (go_at_call 7; refine H.out.mono ?_; rintro e1 w1 ⟨g, c, rfl, hr, hb⟩) | fail)
  exact HK.out _ _ _ _ _ _ _ _ _ _ _ (heap_alloc_new _ _) hb.size (HP.out _ _ _ _ hr ((Below.refl _ _).alloc (Nat.le_refl _) _)) (hb.alloc hb.size _)

set_option maxRecDepth 100000 in
set_option maxHeartbeats 8000000 in
theorem rc_r16 {u0 u1 u2 u3 u7 u8 u9 u10 u11 u12 u13 u14 u15 u16 u17 u18 u19 u20 u21 u22 u23 u24 u25 u26 u27 u28 u29 u30 u31 u32 u33 u34 u35 u36 u37 u38 u39 u40 u41 u42 u43 u44 u45 u46 u47 u48 u49 u50 u51 u52 u53 u54 u55 u56 u57 u58 u59 u60 u61 u62 u63 u64 u65 u66 u67 u68 u69 u70 u71 u72 u73 u74 u75 u76 u77 u78 u79 u80 u81 u82 u83 u84 u85 u86 u87 u88 u89 u90 u91 u92 u93 u94 u95 u96 u97 u98 u99 u100 u101 u102 u103 u104 u105 u106 u107 u108 u109 u110 u111 u112 u113 u114 u115 u116 u117 u118 u119 u120 u121 u122 u123 u124 u125 u126 u127 u128 u129 u130 u131 u132 u133 u134 u135 u136 u137 u138 u139 u140 u141 u142 u143 u144 u145 u146 u147 u148 u149 u150 u151 u152 u153 u154 u155 u156 u157 u158 u159 u160 u161 u162 u163 u164 u165 u166 u167 u168 u169 u170 u171 u172 u173 u174 u175 u176 u177 u178 u179 u180 u181 u182 u183 u184 u185 u186 u187 u188 u189 u190 u191 u192 u193 u194 u195 u196 u197 u198 u199 u200 : Value}
    {ra va : Option Addr} {nr rc nv vc k at_ : Nat} {js jq jk jx jy jz jo jm je er : Int} {jt : ByteArray} {jn : Nat} (w : World)
    {RG : Option Addr → Nat → World → Prop} (HP : RowKit.Hid (∀ g c w1 w2, RG g c w1 → Below w1.heap.size w1 w2 → RG g c w2))
    (H : RowKit.Hid (Calls Tryz.prog 7 #[.slice ra nr rc, .int .i64 2, .int .i64 (at_ : Int), .int .i64 0, .string ⟨#[114, 115]⟩] w (fun e w' => ∃ (g : Option Addr) (c : Nat), e = .returned (.tuple #[.agg #[.int .i64 js, .int .i64 jq, .int .i64 jk, .int .i64 jx, .int .i64 jy, .int .i64 jz, .string jt, .slice g jn c, .int .i64 jo, .int .i64 jm, .int .i64 je], .int .i64 er]) ∧ RG g c w' ∧ Below w.heap.size w w')))
    (hm : ((k : Int) * 5).tmod ((nv : Int) + 1) = (at_ : Int)) (hk : (k : Int) ≤ 6) (hv : (nv : Int) ≤ 200) (hv0 : ¬ ((nv : Int) + 1 = 0))
    {K : Act → World → Prop} {Q : Exit → Act → World → Prop} (hK : ∀ (v71 v72 v73 v74 v75 v76 v77 v78 v79 v80 v81 : Value) (bx : Nat) (g : Option Addr) (c : Nat) (wx : World), wx.heap[bx]? = some (.cells #[.int .i64 js, .int .i64 jq, .int .i64 jk, .int .i64 jx, .int .i64 jy, .int .i64 jz, .string jt, .slice g jn c, .int .i64 jo, .int .i64 jm, .int .i64 je] 34 (0, 0)) → w.heap.size ≤ bx → RG g c wx → Below w.heap.size w wx → K ⟨#[u0, u1, u2, u3, .slice ra nr rc, .slice va nv vc, .int .i64 (k : Int), u7, u8, u9, u10, .pointer (some ⟨bx, 0, none⟩), .int .i64 er, u13, u14, u15, u16, u17, u18, u19, u20, u21, u22, u23, u24, u25, u26, u27, u28, u29, u30, u31, u32, u33, u34, u35, u36, u37, u38, u39, u40, u41, u42, u43, u44, u45, u46, u47, u48, u49, u50, u51, u52, u53, u54, u55, u56, u57, u58, u59, u60, u61, u62, u63, u64, u65, u66, u67, u68, u69, u70, v71, v72, v73, v74, v75, v76, v77, v78, v79, v80, v81, u82, u83, u84, u85, u86, u87, u88, u89, u90, u91, u92, u93, u94, u95, u96, u97, u98, u99, u100, u101, u102, u103, u104, u105, u106, u107, u108, u109, u110, u111, u112, u113, u114, u115, u116, u117, u118, u119, u120, u121, u122, u123, u124, u125, u126, u127, u128, u129, u130, u131, u132, u133, u134, u135, u136, u137, u138, u139, u140, u141, u142, u143, u144, u145, u146, u147, u148, u149, u150, u151, u152, u153, u154, u155, u156, u157, u158, u159, u160, u161, u162, u163, u164, u165, u166, u167, u168, u169, u170, u171, u172, u173, u174, u175, u176, u177, u178, u179, u180, u181, u182, u183, u184, u185, u186, u187, u188, u189, u190, u191, u192, u193, u194, u195, u196, u197, u198, u199, u200], []⟩ wx) :
    Code.wp Tryz.prog (regRc 16) (Exit.then K Q) ⟨#[u0, u1, u2, u3, .slice ra nr rc, .slice va nv vc, .int .i64 (k : Int), u7, u8, u9, u10, u11, u12, u13, u14, u15, u16, u17, u18, u19, u20, u21, u22, u23, u24, u25, u26, u27, u28, u29, u30, u31, u32, u33, u34, u35, u36, u37, u38, u39, u40, u41, u42, u43, u44, u45, u46, u47, u48, u49, u50, u51, u52, u53, u54, u55, u56, u57, u58, u59, u60, u61, u62, u63, u64, u65, u66, u67, u68, u69, u70, u71, u72, u73, u74, u75, u76, u77, u78, u79, u80, u81, u82, u83, u84, u85, u86, u87, u88, u89, u90, u91, u92, u93, u94, u95, u96, u97, u98, u99, u100, u101, u102, u103, u104, u105, u106, u107, u108, u109, u110, u111, u112, u113, u114, u115, u116, u117, u118, u119, u120, u121, u122, u123, u124, u125, u126, u127, u128, u129, u130, u131, u132, u133, u134, u135, u136, u137, u138, u139, u140, u141, u142, u143, u144, u145, u146, u147, u148, u149, u150, u151, u152, u153, u154, u155, u156, u157, u158, u159, u160, u161, u162, u163, u164, u165, u166, u167, u168, u169, u170, u171, u172, u173, u174, u175, u176, u177, u178, u179, u180, u181, u182, u183, u184, u185, u186, u187, u188, u189, u190, u191, u192, u193, u194, u195, u196, u197, u198, u199, u200], []⟩ w := by
  have HK := Lib.hid hK
  clear hK
  conv => arg 2; whnf
  go_wp2_with (first | (go_at_call 7; refine H.out.mono ?_; rintro e1 w1 ⟨g, c, rfl, hr, hb⟩) | fail)
  exact HK.out _ _ _ _ _ _ _ _ _ _ _ _ _ _ _ (heap_alloc_new _ _) hb.size (HP.out _ _ _ _ hr ((Below.refl _ _).alloc (Nat.le_refl _) _)) (hb.alloc hb.size _)

set_option maxRecDepth 100000 in
set_option maxHeartbeats 8000000 in
theorem rc_r24 {u0 u1 u2 u3 u4 u5 u6 u7 u8 u10 u12 u13 u14 u15 u16 u17 u18 u19 u20 u21 u22 u23 u24 u25 u26 u27 u28 u29 u30 u31 u32 u33 u34 u35 u36 u37 u38 u39 u40 u41 u42 u43 u44 u45 u46 u47 u48 u49 u50 u51 u52 u53 u54 u55 u56 u57 u58 u59 u60 u61 u62 u63 u64 u65 u66 u67 u68 u69 u70 u71 u72 u73 u74 u75 u76 u77 u78 u79 u80 u81 u82 u83 u84 u85 u86 u87 u88 u89 u90 u91 u92 u93 u94 u95 u96 u97 u98 u99 u100 u101 u102 u103 u104 u105 u106 u107 u108 u109 u110 u111 u112 u113 u114 u115 u116 u117 u118 u119 u120 u121 u122 u123 u124 u125 u126 u127 u128 u129 u130 u131 u132 u133 u134 u135 u136 u137 u138 u139 u140 u141 u142 u143 u144 u145 u146 u147 u148 u149 u150 u151 u152 u153 u154 u155 u156 u157 u158 u159 u160 u161 u162 u163 u164 u165 u166 u167 u168 u169 u170 u171 u172 u173 u174 u175 u176 u177 u178 u179 u180 u181 u182 u183 u184 u185 u186 u187 u188 u189 u190 u191 u192 u193 u194 u195 u196 u197 u198 u199 u200 : Value}
    {b9 b11 : Nat} {js jq jk jx jy jz jo jm je : Int} {jt : ByteArray} {jg : Option Addr} {jn jc : Nat} {ps pq pk px py pz po pm pe : Int} {pt : ByteArray} {pg : Option Addr} {pn pc : Nat} (w : World)
    (HA : RowKit.Hid (∀ wx : World, Below w.heap.size w wx → wx.cell? ⟨b9, 0, none⟩ = some (.int .i64 js) ∧ wx.cell? ⟨b9, 1, none⟩ = some (.int .i64 jq) ∧ wx.cell? ⟨b9, 2, none⟩ = some (.int .i64 jk) ∧ wx.cell? ⟨b9, 3, none⟩ = some (.int .i64 jx) ∧ wx.cell? ⟨b9, 4, none⟩ = some (.int .i64 jy) ∧ wx.cell? ⟨b9, 5, none⟩ = some (.int .i64 jz) ∧ wx.cell? ⟨b9, 6, none⟩ = some (.string jt) ∧ wx.cell? ⟨b9, 7, none⟩ = some (.slice jg jn jc) ∧ wx.cell? ⟨b9, 8, none⟩ = some (.int .i64 jo) ∧ wx.cell? ⟨b9, 9, none⟩ = some (.int .i64 jm) ∧ wx.cell? ⟨b9, 10, none⟩ = some (.int .i64 je)))
    (HB : RowKit.Hid (∀ wx : World, Below w.heap.size w wx → wx.cell? ⟨b11, 0, none⟩ = some (.int .i64 ps) ∧ wx.cell? ⟨b11, 1, none⟩ = some (.int .i64 pq) ∧ wx.cell? ⟨b11, 2, none⟩ = some (.int .i64 pk) ∧ wx.cell? ⟨b11, 3, none⟩ = some (.int .i64 px) ∧ wx.cell? ⟨b11, 4, none⟩ = some (.int .i64 py) ∧ wx.cell? ⟨b11, 5, none⟩ = some (.int .i64 pz) ∧ wx.cell? ⟨b11, 6, none⟩ = some (.string pt) ∧ wx.cell? ⟨b11, 7, none⟩ = some (.slice pg pn pc) ∧ wx.cell? ⟨b11, 8, none⟩ = some (.int .i64 po) ∧ wx.cell? ⟨b11, 9, none⟩ = some (.int .i64 pm) ∧ wx.cell? ⟨b11, 10, none⟩ = some (.int .i64 pe)))
    (_hl9 : b9 < w.heap.size) (_hl11 : b11 < w.heap.size)
    {R1 R2 : Option Addr → Nat → World → Prop} (HP1 : RowKit.Hid (KeepsS R1)) (HP2 : RowKit.Hid (KeepsS R2))
    (H1 : RowKit.Hid (∀ wx : World, Below w.heap.size w wx → Calls Tryz.prog 11 #[.agg #[.int .i64 js, .int .i64 jq, .int .i64 jk, .int .i64 jx, .int .i64 jy, .int .i64 jz, .string jt, .slice jg jn jc, .int .i64 jo, .int .i64 jm, .int .i64 je]] wx (GivesS 2 R1 wx)))
    (H2 : RowKit.Hid (∀ wx : World, Below w.heap.size w wx → Calls Tryz.prog 11 #[.agg #[.int .i64 ps, .int .i64 pq, .int .i64 pk, .int .i64 px, .int .i64 py, .int .i64 pz, .string pt, .slice pg pn pc, .int .i64 po, .int .i64 pm, .int .i64 pe]] wx (GivesS 2 R2 wx)))
    {K : Act → World → Prop} {Q : Exit → Act → World → Prop} (hK : ∀ (v143 v144 v145 v146 v147 : Value) (x1 : Option Addr) (y1 : Nat) (x2 : Option Addr) (y2 : Nat) (bx : Nat) (wx : World), wx.heap[bx]? = some (.cells #[.slice x1 2 y1, .slice x2 2 y2] 23 (0, 0)) → w.heap.size ≤ bx → R1 x1 y1 wx → R2 x2 y2 wx → Below w.heap.size w wx → K ⟨#[u0, u1, u2, u3, u4, u5, u6, u7, u8, .pointer (some ⟨b9, 0, none⟩), u10, .pointer (some ⟨b11, 0, none⟩), u12, u13, u14, u15, u16, u17, u18, .slice (some ⟨bx, 0, none⟩) 2 2, u20, u21, u22, u23, u24, u25, u26, u27, u28, u29, u30, u31, u32, u33, u34, u35, u36, u37, u38, u39, u40, u41, u42, u43, u44, u45, u46, u47, u48, u49, u50, u51, u52, u53, u54, u55, u56, u57, u58, u59, u60, u61, u62, u63, u64, u65, u66, u67, u68, u69, u70, u71, u72, u73, u74, u75, u76, u77, u78, u79, u80, u81, u82, u83, u84, u85, u86, u87, u88, u89, u90, u91, u92, u93, u94, u95, u96, u97, u98, u99, u100, u101, u102, u103, u104, u105, u106, u107, u108, u109, u110, u111, u112, u113, u114, u115, u116, u117, u118, u119, u120, u121, u122, u123, u124, u125, u126, u127, u128, u129, u130, u131, u132, u133, u134, u135, u136, u137, u138, u139, u140, u141, u142, v143, v144, v145, v146, v147, u148, u149, u150, u151, u152, u153, u154, u155, u156, u157, u158, u159, u160, u161, u162, u163, u164, u165, u166, u167, u168, u169, u170, u171, u172, u173, u174, u175, u176, u177, u178, u179, u180, u181, u182, u183, u184, u185, u186, u187, u188, u189, u190, u191, u192, u193, u194, u195, u196, u197, u198, u199, u200], []⟩ wx) :
    Code.wp Tryz.prog (regRc 24) (Exit.then K Q) ⟨#[u0, u1, u2, u3, u4, u5, u6, u7, u8, .pointer (some ⟨b9, 0, none⟩), u10, .pointer (some ⟨b11, 0, none⟩), u12, u13, u14, u15, u16, u17, u18, u19, u20, u21, u22, u23, u24, u25, u26, u27, u28, u29, u30, u31, u32, u33, u34, u35, u36, u37, u38, u39, u40, u41, u42, u43, u44, u45, u46, u47, u48, u49, u50, u51, u52, u53, u54, u55, u56, u57, u58, u59, u60, u61, u62, u63, u64, u65, u66, u67, u68, u69, u70, u71, u72, u73, u74, u75, u76, u77, u78, u79, u80, u81, u82, u83, u84, u85, u86, u87, u88, u89, u90, u91, u92, u93, u94, u95, u96, u97, u98, u99, u100, u101, u102, u103, u104, u105, u106, u107, u108, u109, u110, u111, u112, u113, u114, u115, u116, u117, u118, u119, u120, u121, u122, u123, u124, u125, u126, u127, u128, u129, u130, u131, u132, u133, u134, u135, u136, u137, u138, u139, u140, u141, u142, u143, u144, u145, u146, u147, u148, u149, u150, u151, u152, u153, u154, u155, u156, u157, u158, u159, u160, u161, u162, u163, u164, u165, u166, u167, u168, u169, u170, u171, u172, u173, u174, u175, u176, u177, u178, u179, u180, u181, u182, u183, u184, u185, u186, u187, u188, u189, u190, u191, u192, u193, u194, u195, u196, u197, u198, u199, u200], []⟩ w := by
  have HK := Lib.hid hK
  clear hK
  unfold GivesS at H1 H2
  conv => arg 2; whnf
  have hb0 := (Below.refl w.heap.size w).drew
  obtain ⟨k0, k1, k2, k3, k4, k5, k6, k7, k8, k9, ka⟩ := HA.out w (Below.refl _ _)
  obtain ⟨l0, l1, l2, l3, l4, l5, l6, l7, l8, l9, la⟩ := HB.out w (Below.refl _ _)
  go_region_held3 (fun w' => w'.cell? ⟨b9, 0, none⟩ = some (.int .i64 js) ∧ w'.cell? ⟨b9, 1, none⟩ = some (.int .i64 jq) ∧ w'.cell? ⟨b9, 2, none⟩ = some (.int .i64 jk) ∧ w'.cell? ⟨b9, 3, none⟩ = some (.int .i64 jx) ∧ w'.cell? ⟨b9, 4, none⟩ = some (.int .i64 jy) ∧ w'.cell? ⟨b9, 5, none⟩ = some (.int .i64 jz) ∧ w'.cell? ⟨b9, 6, none⟩ = some (.string jt) ∧ w'.cell? ⟨b9, 7, none⟩ = some (.slice jg jn jc) ∧ w'.cell? ⟨b9, 8, none⟩ = some (.int .i64 jo) ∧ w'.cell? ⟨b9, 9, none⟩ = some (.int .i64 jm) ∧ w'.cell? ⟨b9, 10, none⟩ = some (.int .i64 je) ∧ w'.cell? ⟨b11, 0, none⟩ = some (.int .i64 ps) ∧ w'.cell? ⟨b11, 1, none⟩ = some (.int .i64 pq) ∧ w'.cell? ⟨b11, 2, none⟩ = some (.int .i64 pk) ∧ w'.cell? ⟨b11, 3, none⟩ = some (.int .i64 px) ∧ w'.cell? ⟨b11, 4, none⟩ = some (.int .i64 py) ∧ w'.cell? ⟨b11, 5, none⟩ = some (.int .i64 pz) ∧ w'.cell? ⟨b11, 6, none⟩ = some (.string pt) ∧ w'.cell? ⟨b11, 7, none⟩ = some (.slice pg pn pc) ∧ w'.cell? ⟨b11, 8, none⟩ = some (.int .i64 po) ∧ w'.cell? ⟨b11, 9, none⟩ = some (.int .i64 pm) ∧ w'.cell? ⟨b11, 10, none⟩ = some (.int .i64 pe)) (first | exact and22 (HA.out _ hb0) (HB.out _ hb0) | exact and22 (HA.out _ hb1) (HB.out _ hb1) | exact and22 (HA.out _ hb2) (HB.out _ hb2) | exact and22 (HA.out _ (hb2.alloc hb2.size _)) (HB.out _ (hb2.alloc hb2.size _))) (first
    | (go_at_call 11; refine (H2.out w1 hb1).mono ?_; rintro e2 w2 ⟨x2, y2, rfl, r2, hb2'⟩; have hb2 := hb1.trans (hb2'.mono hb1.size); have r1' := HP1.out _ _ _ _ r1 hb2')
    | (go_at_call 11; refine (H1.out w.drew (Below.refl _ w).drew).mono ?_; rintro e1 w1 ⟨x1, y1, rfl, r1, hb1'⟩; have hb1 := (Below.refl w.heap.size w).drew.trans (hb1'.mono (Nat.le_refl _)))
    | fail)
  exact HK.out _ _ _ _ _ x1 y1 x2 y2 _ _ (heap_alloc_new _ _) hb2.size (HP1.out _ _ _ _ r1' ((Below.refl _ _).alloc (Nat.le_refl _) _)) (HP2.out _ _ _ _ r2 ((Below.refl _ _).alloc (Nat.le_refl _) _)) (hb2.alloc hb2.size _)

set_option maxRecDepth 100000 in
set_option maxHeartbeats 8000000 in
theorem rc_r28 {u0 u1 u2 u3 u4 u5 u6 u7 u8 u9 u10 u11 u12 u13 u14 u16 u18 u21 u22 u23 u24 u25 u26 u27 u28 u29 u30 u31 u32 u33 u34 u35 u36 u37 u38 u39 u40 u41 u42 u43 u44 u45 u46 u47 u48 u49 u50 u51 u52 u53 u54 u55 u56 u57 u58 u59 u60 u61 u62 u63 u64 u65 u66 u67 u68 u69 u70 u71 u72 u73 u74 u75 u76 u77 u78 u79 u80 u81 u82 u83 u84 u85 u86 u87 u88 u89 u90 u91 u92 u93 u94 u95 u96 u97 u98 u99 u100 u101 u102 u103 u104 u105 u106 u107 u108 u109 u110 u111 u112 u113 u114 u115 u116 u117 u118 u119 u120 u121 u122 u123 u124 u125 u126 u127 u128 u129 u130 u131 u132 u133 u134 u135 u136 u137 u138 u139 u140 u141 u142 u143 u144 u145 u146 u147 u148 u149 u150 u151 u152 u153 u154 u155 u156 u157 u158 u159 u160 u161 u162 u163 u164 u165 u166 u167 u168 u169 u170 u171 u172 u173 u174 u175 u176 u177 u178 u179 u180 u181 u182 u183 u184 u185 u186 u187 u188 u189 u190 u191 u192 u193 u194 u195 u196 u197 u198 u199 u200 : Value}
    {sa ta : Option Addr} {ns sc nt tc b19 q ge oe ce : Nat} {es eq A1 A2 : Int} (w : World)
    (hq : q < 2)
    (HD : RowKit.Hid (∀ wx : World, Below w.heap.size w wx → wx.cell? ⟨b19, q, none⟩ = some (.slice (some ⟨ge, oe, none⟩) 2 ce) ∧ wx.cell? ⟨ge, oe, none⟩ = some (.int .i64 es) ∧ wx.cell? ⟨ge, oe + 1, none⟩ = some (.int .i64 eq) ∧ wx.cell? ⟨ge, oe + 2, none⟩ = some (.int .i64 0) ∧ wx.cell? ⟨ge, oe + 3, none⟩ = some (.int .i64 es) ∧ wx.cell? ⟨ge, oe + 4, none⟩ = some (.int .i64 eq) ∧ wx.cell? ⟨ge, oe + 5, none⟩ = some (.int .i64 1) ∧ b19 < wx.heap.size ∧ ge < wx.heap.size))
    (H1 : RowKit.Hid (∀ wx : World, Below w.heap.size w wx → Calls Tryz.prog 12 #[.slice sa ns sc, .agg #[.int .i64 es, .int .i64 eq, .int .i64 0]] wx (IntB A1 wx)))
    (H2 : RowKit.Hid (∀ wx : World, Below w.heap.size w wx → Calls Tryz.prog 12 #[.slice ta nt tc, .agg #[.int .i64 es, .int .i64 eq, .int .i64 0]] wx (IntB A2 wx)))
    {K : Act → World → Prop} {Q : Exit → Act → World → Prop} (hK : ∀ (v152 v153 v154 v155 v156 v157 v158 v159 v160 v161 v162 v163 v164 v165 v166 v167 : Value) (wx : World), Below w.heap.size w wx → K ⟨#[u0, u1, u2, u3, u4, u5, u6, u7, u8, u9, u10, u11, u12, u13, u14, .slice sa ns sc, u16, .slice ta nt tc, u18, .slice (some ⟨b19, 0, none⟩) 2 2, .int .i64 (q : Int), .int .i64 A1, .int .i64 A2, u23, u24, u25, u26, u27, u28, u29, u30, u31, u32, u33, u34, u35, u36, u37, u38, u39, u40, u41, u42, u43, u44, u45, u46, u47, u48, u49, u50, u51, u52, u53, u54, u55, u56, u57, u58, u59, u60, u61, u62, u63, u64, u65, u66, u67, u68, u69, u70, u71, u72, u73, u74, u75, u76, u77, u78, u79, u80, u81, u82, u83, u84, u85, u86, u87, u88, u89, u90, u91, u92, u93, u94, u95, u96, u97, u98, u99, u100, u101, u102, u103, u104, u105, u106, u107, u108, u109, u110, u111, u112, u113, u114, u115, u116, u117, u118, u119, u120, u121, u122, u123, u124, u125, u126, u127, u128, u129, u130, u131, u132, u133, u134, u135, u136, u137, u138, u139, u140, u141, u142, u143, u144, u145, u146, u147, u148, u149, u150, u151, v152, v153, v154, v155, v156, v157, v158, v159, v160, v161, v162, v163, v164, v165, v166, v167, u168, u169, u170, u171, u172, u173, u174, u175, u176, u177, u178, u179, u180, u181, u182, u183, u184, u185, u186, u187, u188, u189, u190, u191, u192, u193, u194, u195, u196, u197, u198, u199, u200], []⟩ wx) :
    Code.wp Tryz.prog (regRc 28) (Exit.then K Q) ⟨#[u0, u1, u2, u3, u4, u5, u6, u7, u8, u9, u10, u11, u12, u13, u14, .slice sa ns sc, u16, .slice ta nt tc, u18, .slice (some ⟨b19, 0, none⟩) 2 2, .int .i64 (q : Int), u21, u22, u23, u24, u25, u26, u27, u28, u29, u30, u31, u32, u33, u34, u35, u36, u37, u38, u39, u40, u41, u42, u43, u44, u45, u46, u47, u48, u49, u50, u51, u52, u53, u54, u55, u56, u57, u58, u59, u60, u61, u62, u63, u64, u65, u66, u67, u68, u69, u70, u71, u72, u73, u74, u75, u76, u77, u78, u79, u80, u81, u82, u83, u84, u85, u86, u87, u88, u89, u90, u91, u92, u93, u94, u95, u96, u97, u98, u99, u100, u101, u102, u103, u104, u105, u106, u107, u108, u109, u110, u111, u112, u113, u114, u115, u116, u117, u118, u119, u120, u121, u122, u123, u124, u125, u126, u127, u128, u129, u130, u131, u132, u133, u134, u135, u136, u137, u138, u139, u140, u141, u142, u143, u144, u145, u146, u147, u148, u149, u150, u151, u152, u153, u154, u155, u156, u157, u158, u159, u160, u161, u162, u163, u164, u165, u166, u167, u168, u169, u170, u171, u172, u173, u174, u175, u176, u177, u178, u179, u180, u181, u182, u183, u184, u185, u186, u187, u188, u189, u190, u191, u192, u193, u194, u195, u196, u197, u198, u199, u200], []⟩ w := by
  have HK := Lib.hid hK
  clear hK
  unfold IntB at H1 H2
  have hk1 : (q : Int) < 2 := by omega
  have hk0 : (0 : Int) ≤ (q : Int) := by omega
  obtain ⟨z0, z1, z2, z3, z4, z5, z6, zl, zg⟩ := HD.out w (Below.refl _ _)
  conv => arg 2; whnf
  have r0 := cell_regrown z0
  have r1 := cell_regrown z1
  have r2 := cell_regrown z2
  have r3 := cell_regrown z3
  have hq1 := fun d os => H1.out (Sort.grow (redrawn w d) os) (below_regrown w d os)
  have hq2 := fun d os => H2.out (Sort.grow (redrawn w d) os) (below_regrown w d os)
  refine wp_region_quiet_below (by kernel_rfl) (by kernel_rfl) ?_
  repeat (first | go_big_quiet_step (first | with_reducible exact Calls.regrown_of (hq1 _ _) | with_reducible exact Calls.regrown_of (hq2 _ _)) | quiet_step (first | with_reducible exact Calls.regrown_of (hq1 _ _) | with_reducible exact Calls.regrown_of (hq2 _ _)))
  refine wpQuiet_nil ?_
  intro _ hw'
  obtain ⟨⟨dq, osq⟩, hw''⟩ := hw'
  subst hw''
  exact HK.out _ _ _ _ _ _ _ _ _ _ _ _ _ _ _ _ _ (below_regrown w dq osq)

set_option maxRecDepth 100000 in
set_option maxHeartbeats 8000000 in
theorem rc_r29 {u0 u1 u2 u3 u4 u5 u6 u7 u8 u9 u10 u11 u12 u13 u14 u16 u18 u23 u24 u25 u26 u27 u28 u29 u30 u31 u32 u33 u34 u35 u36 u37 u38 u39 u40 u41 u42 u43 u44 u45 u46 u47 u48 u49 u50 u51 u52 u53 u54 u55 u56 u57 u58 u59 u60 u61 u62 u63 u64 u65 u66 u67 u68 u69 u70 u71 u72 u73 u74 u75 u76 u77 u78 u79 u80 u81 u82 u83 u84 u85 u86 u87 u88 u89 u90 u91 u92 u93 u94 u95 u96 u97 u98 u99 u100 u101 u102 u103 u104 u105 u106 u107 u108 u109 u110 u111 u112 u113 u114 u115 u116 u117 u118 u119 u120 u121 u122 u123 u124 u125 u126 u127 u128 u129 u130 u131 u132 u133 u134 u135 u136 u137 u138 u139 u140 u141 u142 u143 u144 u145 u146 u147 u148 u149 u150 u151 u152 u153 u154 u155 u156 u157 u158 u159 u160 u161 u162 u163 u164 u165 u166 u167 u168 u169 u170 u171 u172 u173 u174 u175 u176 u177 u178 u179 u180 u181 u182 u183 u184 u185 u186 u187 u188 u189 u190 u191 u192 u193 u194 u195 u196 u197 u198 u199 u200 : Value}
    {sa ta : Option Addr} {ns sc nt tc b19 q ge oe ce : Nat} {es eq A1 A2 : Int} (w : World)
    (hq : q < 2)
    (HD : RowKit.Hid (∀ wx : World, Below w.heap.size w wx → wx.cell? ⟨b19, q, none⟩ = some (.slice (some ⟨ge, oe, none⟩) 2 ce) ∧ wx.cell? ⟨ge, oe, none⟩ = some (.int .i64 es) ∧ wx.cell? ⟨ge, oe + 1, none⟩ = some (.int .i64 eq) ∧ wx.cell? ⟨ge, oe + 2, none⟩ = some (.int .i64 0) ∧ wx.cell? ⟨ge, oe + 3, none⟩ = some (.int .i64 es) ∧ wx.cell? ⟨ge, oe + 4, none⟩ = some (.int .i64 eq) ∧ wx.cell? ⟨ge, oe + 5, none⟩ = some (.int .i64 1) ∧ b19 < wx.heap.size ∧ ge < wx.heap.size))
    (ha1 : 0 ≤ A1 ∧ A1 ≤ 100000) (ha2 : 0 ≤ A2 ∧ A2 ≤ 100000)
    (H1 : RowKit.Hid (∀ wx : World, Below w.heap.size w wx → Calls Tryz.prog 12 #[.slice sa ns sc, .agg #[.int .i64 es, .int .i64 eq, .int .i64 1]] wx (IntB (A1 + 1) wx)))
    (H2 : RowKit.Hid (∀ wx : World, Below w.heap.size w wx → Calls Tryz.prog 12 #[.slice ta nt tc, .agg #[.int .i64 es, .int .i64 eq, .int .i64 1]] wx (IntB (A2 + 1) wx)))
    {K : Act → World → Prop} {Q : Exit → Act → World → Prop} (hK : ∀ (v168 v169 v170 v171 v172 v173 v174 v175 v176 v177 v178 v179 v180 v181 v182 v183 v184 v185 v186 v187 v188 v189 v190 v191 v192 v193 v194 v195 v196 v197 v198 : Value) (wx : World), Below w.heap.size w wx → K ⟨#[u0, u1, u2, u3, u4, u5, u6, u7, u8, u9, u10, u11, u12, u13, u14, .slice sa ns sc, u16, .slice ta nt tc, u18, .slice (some ⟨b19, 0, none⟩) 2 2, .int .i64 (q : Int), .int .i64 A1, .int .i64 A2, u23, u24, u25, u26, u27, u28, u29, u30, u31, u32, u33, u34, u35, u36, u37, u38, u39, u40, u41, u42, u43, u44, u45, u46, u47, u48, u49, u50, u51, u52, u53, u54, u55, u56, u57, u58, u59, u60, u61, u62, u63, u64, u65, u66, u67, u68, u69, u70, u71, u72, u73, u74, u75, u76, u77, u78, u79, u80, u81, u82, u83, u84, u85, u86, u87, u88, u89, u90, u91, u92, u93, u94, u95, u96, u97, u98, u99, u100, u101, u102, u103, u104, u105, u106, u107, u108, u109, u110, u111, u112, u113, u114, u115, u116, u117, u118, u119, u120, u121, u122, u123, u124, u125, u126, u127, u128, u129, u130, u131, u132, u133, u134, u135, u136, u137, u138, u139, u140, u141, u142, u143, u144, u145, u146, u147, u148, u149, u150, u151, u152, u153, u154, u155, u156, u157, u158, u159, u160, u161, u162, u163, u164, u165, u166, u167, v168, v169, v170, v171, v172, v173, v174, v175, v176, v177, v178, v179, v180, v181, v182, v183, v184, v185, v186, v187, v188, v189, v190, v191, v192, v193, v194, v195, v196, v197, v198, .bool false, u200], []⟩ wx) :
    Code.wp Tryz.prog (regRc 29) (Exit.then K Q) ⟨#[u0, u1, u2, u3, u4, u5, u6, u7, u8, u9, u10, u11, u12, u13, u14, .slice sa ns sc, u16, .slice ta nt tc, u18, .slice (some ⟨b19, 0, none⟩) 2 2, .int .i64 (q : Int), .int .i64 A1, .int .i64 A2, u23, u24, u25, u26, u27, u28, u29, u30, u31, u32, u33, u34, u35, u36, u37, u38, u39, u40, u41, u42, u43, u44, u45, u46, u47, u48, u49, u50, u51, u52, u53, u54, u55, u56, u57, u58, u59, u60, u61, u62, u63, u64, u65, u66, u67, u68, u69, u70, u71, u72, u73, u74, u75, u76, u77, u78, u79, u80, u81, u82, u83, u84, u85, u86, u87, u88, u89, u90, u91, u92, u93, u94, u95, u96, u97, u98, u99, u100, u101, u102, u103, u104, u105, u106, u107, u108, u109, u110, u111, u112, u113, u114, u115, u116, u117, u118, u119, u120, u121, u122, u123, u124, u125, u126, u127, u128, u129, u130, u131, u132, u133, u134, u135, u136, u137, u138, u139, u140, u141, u142, u143, u144, u145, u146, u147, u148, u149, u150, u151, u152, u153, u154, u155, u156, u157, u158, u159, u160, u161, u162, u163, u164, u165, u166, u167, u168, u169, u170, u171, u172, u173, u174, u175, u176, u177, u178, u179, u180, u181, u182, u183, u184, u185, u186, u187, u188, u189, u190, u191, u192, u193, u194, u195, u196, u197, u198, u199, u200], []⟩ w := by
  have HK := Lib.hid hK
  clear hK
  unfold IntB at H1 H2
  have hk1 : (q : Int) < 2 := by omega
  have hk0 : (0 : Int) ≤ (q : Int) := by omega
  have f1 : decide (A1 < 0) = false := decide_eq_false (by omega)
  have f2 : decide (A2 < 0) = false := decide_eq_false (by omega)
  obtain ⟨ha10, ha11⟩ := ha1
  obtain ⟨ha20, ha21⟩ := ha2
  have hz := HD.out w (Below.refl _ _)
  obtain ⟨z0, z1, z2, z3, z4, z5, z6, zl, zg⟩ := hz
  conv => arg 2; whnf
  go_wp2_with (first
    | (go_at_call_has 12 (Value.slice sa ns sc); refine (H1.out w (Below.refl _ _)).mono ?_; rintro e1 w1 ⟨rfl, hb1⟩; obtain ⟨y0, y1, y2, y3, y4, y5, y6, yl, yg⟩ := HD.out w1 hb1)
    | (go_at_call_has 12 (Value.slice ta nt tc); refine (H2.out w1 hb1).mono ?_; rintro e2 w2 ⟨rfl, hb2'⟩; have hb2 := hb1.trans (hb2'.mono hb1.size))
    | fail)
  exact HK.out _ _ _ _ _ _ _ _ _ _ _ _ _ _ _ _ _ _ _ _ _ _ _ _ _ _ _ _ _ _ _ _ hb2
end Go.Proofs.YtpoajofpbgjgaaaGreatDoor
/- EditRaces: what each callee gives, in the form that its regions want -/
namespace Go.Proofs.YtpoajofpbgjgaaaGreatDoor
open Go.RowKit Go.Lib Go.Sort

theorem cells11c {w : World} {b : Nat} {t : TypeId} {c0 c1 c2 c3 c4 c5 c6 c7 c8 c9 ca : Value} (h : w.heap[b]? = some (.cells #[c0, c1, c2, c3, c4, c5, c6, c7, c8, c9, ca] t (0, 0))) :
    w.cell? ⟨b, 0, none⟩ = some c0 ∧ w.cell? ⟨b, 1, none⟩ = some c1 ∧ w.cell? ⟨b, 2, none⟩ = some c2 ∧ w.cell? ⟨b, 3, none⟩ = some c3 ∧ w.cell? ⟨b, 4, none⟩ = some c4 ∧ w.cell? ⟨b, 5, none⟩ = some c5 ∧ w.cell? ⟨b, 6, none⟩ = some c6 ∧ w.cell? ⟨b, 7, none⟩ = some c7 ∧ w.cell? ⟨b, 8, none⟩ = some c8 ∧ w.cell? ⟨b, 9, none⟩ = some c9 ∧ w.cell? ⟨b, 10, none⟩ = some ca := by
  obtain ⟨h0, h1, h2, h3, h4, h5, h6, h7, h8, h9, ha, _⟩ := cells11 h
  exact ⟨h0, h1, h2, h3, h4, h5, h6, h7, h8, h9, ha⟩
/-- a row in memory -/
def BehR (m : Nat) (E : List OpD) (v : Value) (wx : World) : Prop := ∃ (a : Option Addr) (c : Nat) (L : List OpR), v = .slice a m c ∧ OpsAt wx a L ∧ L.length = m ∧ OpR.os L = E ∧ m ≤ c
theorem beh_keeps (m : Nat) (E : List OpD) : Keeps (BehR m E) := by
  rintro v w1 w2 ⟨a, c, L, rfl, h, hl, he, hc⟩ hb
  exact ⟨a, c, L, rfl, h.below hb, hl, he, hc⟩
theorem gone_ok_row {D : List OpD} (hr : okRow D) : ∀ q ∈ D, q.gone.length ≤ 1000000 := fun q hq => by
  have := (gone_ok (row_ok hr q hq)).1
  omega
theorem gones_of {L : List OpR} {D : List OpD} (hd : OpR.os L = D) (hg : ∀ q ∈ D, q.gone.length ≤ 1000000) : ∀ r ∈ L, r.o.gone.length ≤ 1000000 := fun r hr => hg r.o (by rw [← hd]; exact List.mem_map_of_mem hr)
theorem beh_gives {a : Option Addr} {cap m : Nat} {L : List OpR} {D : List OpD} {o : OpD} {oa : Option Addr} {oc : Nat} (w : World) (h : OpsAt w a L) (hl : L.length = m) (hd : OpR.os L = D) (hm : m ≤ 1000) (hg : ∀ q ∈ D, q.gone.length ≤ 1000000) (ho : ElemsAt w oa o.gone) (hgl : o.gone.length ≤ 1000000) (hts : o.text.size ≤ BIG) :
    Calls Tryz.prog 9 #[.slice a m cap, o.v oa oc] w (Gives (BehR (m + 1) (D ++ [o])) w) := by
  subst hl
  refine (rBehind_any a cap L o oa oc w h (gones_of hd hg) (by omega) ho hgl hts).mono ?_
  rintro e w' ⟨v, L2, rfl, hown, hos, hb⟩
  have hlen : L2.length = L.length + 1 := by
    have h9 := congrArg List.length hos
    rw [os_len, List.length_append, os_len] at h9
    exact h9
  obtain ⟨a2, c2, hv, hops, hc⟩ := hown.ops (by rw [hlen]; unfold BIG; omega)
  rw [hlen] at hv hc
  exact ⟨v, rfl, ⟨a2, c2, L2, hv, hops, hlen, by rw [hos, hd], hc⟩, hb⟩
theorem beh_more {m : Nat} {D : List OpD} {o : OpD} {oa : Option Addr} {oc : Nat} (w : World) (v : Value) (h : BehR m D v w) (hm : m ≤ 1000) (hg : ∀ q ∈ D, q.gone.length ≤ 1000000) (ho : ElemsAt w oa o.gone) (hgl : o.gone.length ≤ 1000000) (hts : o.text.size ≤ BIG) :
    Calls Tryz.prog 9 #[v, o.v oa oc] w (Gives (BehR (m + 1) (D ++ [o])) w) := by
  obtain ⟨a, c, L, rfl, hops, hl, hd, hc⟩ := h
  exact beh_gives w hops hl hd hm hg ho hgl hts
/-- an edit's two elements, in memory -/
def ElsR (e0 e1 : El) (g : Option Addr) (_c : Nat) (wx : World) : Prop := ∃ (b off : Nat), g = some ⟨b, off, none⟩ ∧ b < wx.heap.size ∧ wx.cell? ⟨b, off, none⟩ = some (.int .i64 e0.s) ∧ wx.cell? ⟨b, off + 1, none⟩ = some (.int .i64 e0.q) ∧ wx.cell? ⟨b, off + 2, none⟩ = some (.int .i64 e0.i) ∧ wx.cell? ⟨b, off + 3, none⟩ = some (.int .i64 e1.s) ∧ wx.cell? ⟨b, off + 4, none⟩ = some (.int .i64 e1.q) ∧ wx.cell? ⟨b, off + 5, none⟩ = some (.int .i64 e1.i)
theorem els_keeps (e0 e1 : El) : KeepsS (ElsR e0 e1) := by
  rintro g c w1 w2 ⟨b, off, rfl, hb, h0, h1, h2, h3, h4, h5⟩ hx
  exact ⟨b, off, rfl, Nat.lt_of_lt_of_le hb hx.size, (hx.cell (p := ⟨b, off, none⟩) hb).trans h0, (hx.cell (p := ⟨b, off + 1, none⟩) hb).trans h1, (hx.cell (p := ⟨b, off + 2, none⟩) hb).trans h2, (hx.cell (p := ⟨b, off + 3, none⟩) hb).trans h3, (hx.cell (p := ⟨b, off + 4, none⟩) hb).trans h4, (hx.cell (p := ⟨b, off + 5, none⟩) hb).trans h5⟩
theorem els_gives {o : OpD} {oa : Option Addr} {oc : Nat} (w : World) (hT : Tabs w) (hs : o.text.size ≤ 60000) (hn : nR o.text = 2) : Calls Tryz.prog 11 #[o.v oa oc] w (GivesS 2 (ElsR ⟨o.site, o.seq, 0⟩ ⟨o.site, o.seq, 1⟩) w) := by
  refine (Elems4_any o oa oc w hT hs).mono ?_
  rintro e w' ⟨v, rfl, hown, hb⟩
  rw [hn, mine_two] at hown
  obtain ⟨a, c, hv, he, _, _, _⟩ := elems_own (l := [⟨o.site, o.seq, 0⟩, ⟨o.site, o.seq, 1⟩]) hown
  obtain ⟨b, off, ha, hb1, x0, x1, x2⟩ := he.cell 0 (by simp)
  obtain ⟨b', off', ha', _, y0, y1, y2⟩ := he.cell 1 (by simp)
  rw [ha] at ha'
  simp only [Option.some.injEq, Addr.mk.injEq] at ha'
  obtain ⟨rfl, rfl, _⟩ := ha'
  exact ⟨a, c, by rw [hv]; rfl, ⟨b, off, ha, hb1, x0, x1, x2, y0, y1, y2⟩, hb⟩
/-- what Replace gives: the op and no error, or none and the error -/
def zeroD : OpD := ⟨0, 0, 0, ⟨0, 0, 0⟩, ⟨#[]⟩, [], 0, 0, 0⟩
def pick (b : Bool) (o : OpD) : OpD := if b then o else zeroD
def errF (b : Bool) : Int := if b then 0 else 6
def GoneR (o : OpD) (g : Option Addr) (_c : Nat) (wx : World) : Prop := ElemsAt wx g o.gone
theorem gone_keeps (o : OpD) : ∀ g c w1 w2, GoneR o g c w1 → Below w1.heap.size w1 w2 → GoneR o g c w2 := fun _ _ _ _ h hb => ElemsAt.below h hb
theorem rep_gives {a : Option Addr} {cap nl : Nat} {l : List OpR} {D : List OpD} {site : Int} {at_ n nv : Nat} {s : ByteArray} (w : World) (h : OpsAt w a l) (hl : l.length = nl) (hd : OpR.os l = D) (hc : nl ≤ cap) (hr : rowP D) (hv : (visE D).length = nv) (hs : 1 ≤ site ∧ site ≤ 8) (hk : okT s = true) (hsz : s.size ≤ 60000) (hrc : Lib.runeCount s ≤ 12) (hat : at_ ≤ nv) (hn : n ≤ nv - at_) (h1 : n ≤ 1) (hne : s.toList ≠ []) (b : Bool) (hb : rowB (D ++ [repOp D site at_ n s]) = b) :
    Calls Tryz.prog 7 #[.slice a nl cap, .int .i64 site, .int .i64 at_, .int .i64 n, .string s] w (fun e w' => ∃ (g : Option Addr) (c : Nat), e = .returned (.tuple #[(pick b (repOp D site at_ n s)).v g c, .int .i64 (errF b)]) ∧ GoneR (pick b (repOp D site at_ n s)) g c w' ∧ Below w.heap.size w w') := by
  subst hl hd hv
  refine (eRep_tiny a cap l site at_ n s w h hc hr hs hk hsz hrc hat hn h1 hne).mono ?_
  rintro e w' ⟨ga, gc, rfl, hel, _, hbw⟩
  rw [hb]
  cases b
  · exact ⟨none, 0, rfl, ElemsAt.nil none, hbw⟩
  · exact ⟨ga, gc, rfl, hel, hbw⟩
theorem pq_ok : okT ⟨#[112, 113]⟩ = true := by kernel_rfl
theorem pq_rc : Lib.runeCount ⟨#[112, 113]⟩ = 2 := by kernel_rfl
theorem pq_nR : nR ⟨#[112, 113]⟩ = 2 := by kernel_rfl
theorem rs_ok : okT ⟨#[114, 115]⟩ = true := by kernel_rfl
theorem rs_rc : Lib.runeCount ⟨#[114, 115]⟩ = 2 := by kernel_rfl
theorem rs_nR : nR ⟨#[114, 115]⟩ = 2 := by kernel_rfl
theorem two_ne (x y : UInt8) : (⟨#[x, y]⟩ : ByteArray).toList ≠ [] := fun h => by
  have := (toList_nil_iff_emptyBytes _).1 h
  cases this
/-- what is visible, or none and the error -/
def VisSome (w : World) (e : Ending) (w' : World) : Prop := ∃ (a : Option Addr) (n c : Nat) (er : Int), e = .returned (.tuple #[.slice a n c, .int .i64 er]) ∧ Below w.heap.size w w'
theorem vis_some {m : Nat} {a : Option Addr} {c : Nat} {L : List OpR} (w : World) (h : OpsAt w a L) (hl : L.length = m) : Calls Tryz.prog 10 #[.slice a m c] w (VisSome w) := by
  subst hl
  by_cases hr : rowP (OpR.os L)
  · refine (dVis_ok a c L w h hr).mono ?_
    rintro e w' ⟨v, rfl, hown, hb⟩
    obtain ⟨a2, c2, hv, _⟩ := elems_own hown
    exact ⟨a2, _, c2, 0, by rw [hv], hb⟩
  · refine (dVis_bad a c L w h hr).mono ?_
    rintro e w' ⟨rfl, hb⟩
    exact ⟨none, 0, 0, 1, rfl, hb⟩
theorem vis_is {m nx : Nat} {E : List OpD} {a : Option Addr} {c : Nat} {L : List OpR} (w : World) (h : OpsAt w a L) (hl : L.length = m) (he : OpR.os L = E) (hr : rowP E) (hn : (visE E).length = nx) : Calls Tryz.prog 10 #[.slice a m c] w (fun e w' => ∃ (a2 : Option Addr) (c2 : Nat), e = .returned (.tuple #[.slice a2 nx c2, .int .i64 0]) ∧ ElemsAt w' a2 (visE E) ∧ Below w.heap.size w w') := by
  subst hl he hn
  refine (dVis_ok a c L w h hr).mono ?_
  rintro e w' ⟨v, rfl, hown, hb⟩
  obtain ⟨a2, c2, hv, hel, _⟩ := elems_own hown
  exact ⟨a2, c2, by rw [hv], hel, hb⟩
theorem row_is {m : Nat} {E : List OpD} {a : Option Addr} {c : Nat} {L : List OpR} (w : World) (hT : Tabs w) (h : OpsAt w a L) (hl : L.length = m) (he : OpR.os L = E) (hc : m ≤ c) (hs : ∀ q ∈ E, q.text.size ≤ 60000) (b : Bool) (hb : rowB E = b) : Calls Tryz.prog 5 #[.slice a m c] w (BoB b w) := by
  subst hl he hb
  exact rRow_any a c L w hT (fun r hr => hs r.o (List.mem_map_of_mem hr)) h hc
theorem at_is {a : Option Addr} {c nx : Nat} {l : List El} {e : El} (w : World) (h : ElemsAt w a l) (hl : l.length = nx) (hn : nx ≤ 1000) (x : Int) (hx : atI l e = x) : Calls Tryz.prog 12 #[.slice a nx c, .agg #[.int .i64 e.s, .int .i64 e.q, .int .i64 e.i]] w (IntB x w) := by
  subst hl hx
  exact At_any a c l e w h (by omega)
theorem eatI_le (l : List El) (e : El) : atI l e ≤ l.length := by
  unfold atI
  split
  · have := List.findIdx_le_length (p := fun x => decide (x = e)) (xs := l)
    omega
  · omega
theorem mod_nv (x nv : Nat) : ((x : Nat) : Int).tmod ((nv : Int) + 1) = ((x % (nv + 1) : Nat) : Int) := by
  rw [Int.tmod_eq_emod_of_nonneg (by omega)]
  rfl
end Go.Proofs.YtpoajofpbgjgaaaGreatDoor
/- EditRaces: the loop over both own edits as a theorem of its own -/
namespace Go.Proofs.YtpoajofpbgjgaaaGreatDoor
open Go.RowKit Go.Lib Go.Sort

def blkOfE (n : Nat) : Code → Option Code
  | .seq a b => match blkOfE n a with
    | some c => some c
    | none => blkOfE n b
  | .cond _ a b => match blkOfE n a with
    | some c => some c
    | none => blkOfE n b
  | .block m c => if m == n then some (.block m c) else blkOfE n c
  | .loop c => blkOfE n c
  | .scope c => blkOfE n c
  | _ => none
noncomputable def blkRc (n : Nat) : Code := ((Tryz.f3.body.bind (blkOfE n)).getD .skip)
def OwnAt (sa : Option Addr) (ns sc : Nat) (ta : Option Addr) (nt tc b19 q : Nat) (w : World) : Prop := (∃ (ge oe ce : Nat) (es eq A1 A2 : Int), (∀ wx : World, Below w.heap.size w wx → wx.cell? ⟨b19, q, none⟩ = some (.slice (some ⟨ge, oe, none⟩) 2 ce) ∧ wx.cell? ⟨ge, oe, none⟩ = some (.int .i64 es) ∧ wx.cell? ⟨ge, oe + 1, none⟩ = some (.int .i64 eq) ∧ wx.cell? ⟨ge, oe + 2, none⟩ = some (.int .i64 0) ∧ wx.cell? ⟨ge, oe + 3, none⟩ = some (.int .i64 es) ∧ wx.cell? ⟨ge, oe + 4, none⟩ = some (.int .i64 eq) ∧ wx.cell? ⟨ge, oe + 5, none⟩ = some (.int .i64 1) ∧ b19 < wx.heap.size ∧ ge < wx.heap.size) ∧ (0 ≤ A1 ∧ A1 ≤ 100000) ∧ (0 ≤ A2 ∧ A2 ≤ 100000) ∧ (∀ wx : World, Below w.heap.size w wx → Calls Tryz.prog 12 #[.slice sa ns sc, .agg #[.int .i64 es, .int .i64 eq, .int .i64 0]] wx (IntB A1 wx)) ∧ (∀ wx : World, Below w.heap.size w wx → Calls Tryz.prog 12 #[.slice ta nt tc, .agg #[.int .i64 es, .int .i64 eq, .int .i64 0]] wx (IntB A2 wx)) ∧ (∀ wx : World, Below w.heap.size w wx → Calls Tryz.prog 12 #[.slice sa ns sc, .agg #[.int .i64 es, .int .i64 eq, .int .i64 1]] wx (IntB (A1 + 1) wx)) ∧ (∀ wx : World, Below w.heap.size w wx → Calls Tryz.prog 12 #[.slice ta nt tc, .agg #[.int .i64 es, .int .i64 eq, .int .i64 1]] wx (IntB (A2 + 1) wx)))
set_option maxRecDepth 100000 in
theorem race_own {sa ta : Option Addr} {nx sc tc b19 q ge oe ce : Nat} {es eq : Int} {l1 l2 : List El} (w : World)
    (hd : ∀ wx : World, Below w.heap.size w wx → wx.cell? ⟨b19, q, none⟩ = some (.slice (some ⟨ge, oe, none⟩) 2 ce) ∧ wx.cell? ⟨ge, oe, none⟩ = some (.int .i64 es) ∧ wx.cell? ⟨ge, oe + 1, none⟩ = some (.int .i64 eq) ∧ wx.cell? ⟨ge, oe + 2, none⟩ = some (.int .i64 0) ∧ wx.cell? ⟨ge, oe + 3, none⟩ = some (.int .i64 es) ∧ wx.cell? ⟨ge, oe + 4, none⟩ = some (.int .i64 eq) ∧ wx.cell? ⟨ge, oe + 5, none⟩ = some (.int .i64 1) ∧ b19 < wx.heap.size ∧ ge < wx.heap.size) (he1 : ∀ wx : World, Below w.heap.size w wx → ElemsAt wx sa l1) (he2 : ∀ wx : World, Below w.heap.size w wx → ElemsAt wx ta l2) (hl1 : l1.length = nx) (hl2 : l2.length = nx) (hn : nx ≤ 1000)
    (g : (0 ≤ atI l1 ⟨es, eq, 0⟩ ∧ atI l1 ⟨es, eq, 1⟩ = atI l1 ⟨es, eq, 0⟩ + 1) ∧ (0 ≤ atI l2 ⟨es, eq, 0⟩ ∧ atI l2 ⟨es, eq, 1⟩ = atI l2 ⟨es, eq, 0⟩ + 1)) : OwnAt sa nx sc ta nx tc b19 q w := by
  obtain ⟨⟨g0, g1⟩, ⟨g2, g3⟩⟩ := g
  have hb1 := eatI_le l1 ⟨es, eq, 0⟩
  have hb2 := eatI_le l2 ⟨es, eq, 0⟩
  have h1 := fun (wx : World) (hx : Below w.heap.size w wx) => at_is (c := sc) (e := ⟨es, eq, 0⟩) wx (he1 wx hx) hl1 hn (atI l1 ⟨es, eq, 0⟩) rfl
  have h2 := fun (wx : World) (hx : Below w.heap.size w wx) => at_is (c := tc) (e := ⟨es, eq, 0⟩) wx (he2 wx hx) hl2 hn (atI l2 ⟨es, eq, 0⟩) rfl
  have h3 := fun (wx : World) (hx : Below w.heap.size w wx) => at_is (c := sc) (e := ⟨es, eq, 1⟩) wx (he1 wx hx) hl1 hn (atI l1 ⟨es, eq, 0⟩ + 1) g1
  have h4 := fun (wx : World) (hx : Below w.heap.size w wx) => at_is (c := tc) (e := ⟨es, eq, 1⟩) wx (he2 wx hx) hl2 hn (atI l2 ⟨es, eq, 0⟩ + 1) g3
  generalize atI l1 ⟨es, eq, 0⟩ = A1 at *
  generalize atI l2 ⟨es, eq, 0⟩ = A2 at *
  exact ⟨ge, oe, ce, es, eq, A1, A2, hd, ⟨g0, by omega⟩, ⟨g2, by omega⟩, h1, h2, h3, h4⟩
set_option maxRecDepth 100000 in
set_option maxHeartbeats 8000000 in
theorem rc_b4 {u0 u1 u2 u3 u4 u5 u6 u7 u8 u9 u10 u11 u12 u13 u14 u16 u18 u21 u22 u23 u24 u25 u26 u27 u28 u29 u30 u31 u32 u33 u34 u35 u36 u37 u38 u39 u40 u41 u42 u43 u44 u45 u46 u47 u48 u49 u50 u51 u52 u53 u54 u55 u56 u57 u58 u59 u60 u61 u62 u63 u64 u65 u66 u67 u68 u69 u70 u71 u72 u73 u74 u75 u76 u77 u78 u79 u80 u81 u82 u83 u84 u85 u86 u87 u88 u89 u90 u91 u92 u93 u94 u95 u96 u97 u98 u99 u100 u101 u102 u103 u104 u105 u106 u107 u108 u109 u110 u111 u112 u113 u114 u115 u116 u117 u118 u119 u120 u121 u122 u123 u124 u125 u126 u127 u128 u129 u130 u131 u132 u133 u134 u135 u136 u137 u138 u139 u140 u141 u142 u143 u144 u145 u146 u147 u148 u149 u150 u151 u152 u153 u154 u155 u156 u157 u158 u159 u160 u161 u162 u163 u164 u165 u166 u167 u168 u169 u170 u171 u172 u173 u174 u175 u176 u177 u178 u179 u180 u181 u182 u183 u184 u185 u186 u187 u188 u189 u190 u191 u192 u193 u194 u195 u196 u197 u198 u199 u200 : Value}
    {sa ta : Option Addr} {ns sc nt tc b19 : Nat} (w : World)
    (HX : RowKit.Hid (∀ q, q < 2 → OwnAt sa ns sc ta nt tc b19 q w))
    {K : Act → World → Prop} {Q : Exit → Act → World → Prop} (hK : ∀ (v2 v20 v21 v22 v148 v149 v150 v151 v152 v153 v154 v155 v156 v157 v158 v159 v160 v161 v162 v163 v164 v165 v166 v167 v168 v169 v170 v171 v172 v173 v174 v175 v176 v177 v178 v179 v180 v181 v182 v183 v184 v185 v186 v187 v188 v189 v190 v191 v192 v193 v194 v195 v196 v197 v198 v199 : Value) (wx : World), Below w.heap.size w wx → K ⟨#[u0, u1, v2, u3, u4, u5, u6, u7, u8, u9, u10, u11, u12, u13, u14, .slice sa ns sc, u16, .slice ta nt tc, u18, .slice (some ⟨b19, 0, none⟩) 2 2, v20, v21, v22, u23, u24, u25, u26, u27, u28, u29, u30, u31, u32, u33, u34, u35, u36, u37, u38, u39, u40, u41, u42, u43, u44, u45, u46, u47, u48, u49, u50, u51, u52, u53, u54, u55, u56, u57, u58, u59, u60, u61, u62, u63, u64, u65, u66, u67, u68, u69, u70, u71, u72, u73, u74, u75, u76, u77, u78, u79, u80, u81, u82, u83, u84, u85, u86, u87, u88, u89, u90, u91, u92, u93, u94, u95, u96, u97, u98, u99, u100, u101, u102, u103, u104, u105, u106, u107, u108, u109, u110, u111, u112, u113, u114, u115, u116, u117, u118, u119, u120, u121, u122, u123, u124, u125, u126, u127, u128, u129, u130, u131, u132, u133, u134, u135, u136, u137, u138, u139, u140, u141, u142, u143, u144, u145, u146, u147, v148, v149, v150, v151, v152, v153, v154, v155, v156, v157, v158, v159, v160, v161, v162, v163, v164, v165, v166, v167, v168, v169, v170, v171, v172, v173, v174, v175, v176, v177, v178, v179, v180, v181, v182, v183, v184, v185, v186, v187, v188, v189, v190, v191, v192, v193, v194, v195, v196, v197, v198, v199, u200], []⟩ wx) :
    Code.wp Tryz.prog (blkRc 4) (Exit.inBlock 3 (Exit.then K Q)) ⟨#[u0, u1, u2, u3, u4, u5, u6, u7, u8, u9, u10, u11, u12, u13, u14, .slice sa ns sc, u16, .slice ta nt tc, u18, .slice (some ⟨b19, 0, none⟩) 2 2, .int .i64 0, u21, u22, u23, u24, u25, u26, u27, u28, u29, u30, u31, u32, u33, u34, u35, u36, u37, u38, u39, u40, u41, u42, u43, u44, u45, u46, u47, u48, u49, u50, u51, u52, u53, u54, u55, u56, u57, u58, u59, u60, u61, u62, u63, u64, u65, u66, u67, u68, u69, u70, u71, u72, u73, u74, u75, u76, u77, u78, u79, u80, u81, u82, u83, u84, u85, u86, u87, u88, u89, u90, u91, u92, u93, u94, u95, u96, u97, u98, u99, u100, u101, u102, u103, u104, u105, u106, u107, u108, u109, u110, u111, u112, u113, u114, u115, u116, u117, u118, u119, u120, u121, u122, u123, u124, u125, u126, u127, u128, u129, u130, u131, u132, u133, u134, u135, u136, u137, u138, u139, u140, u141, u142, u143, u144, u145, u146, u147, u148, u149, u150, u151, u152, u153, u154, u155, u156, u157, u158, u159, u160, u161, u162, u163, u164, u165, u166, u167, u168, u169, u170, u171, u172, u173, u174, u175, u176, u177, u178, u179, u180, u181, u182, u183, u184, u185, u186, u187, u188, u189, u190, u191, u192, u193, u194, u195, u196, u197, u198, u199, u200], []⟩ w := by
  have HK := Lib.hid hK
  clear hK
  conv => arg 2; whnf
  go_wp2_with fail
  go_loopw [20] (fun s20 wr => ∃ q : Nat, s20 = .int .i64 q ∧ q ≤ 2 ∧ Below w.heap.size w wr) (fun s20 _ => 2 - (RowKit.intOf s20).toNat)
  case atStart => exact ⟨0, rfl, Nat.zero_le _, Below.refl _ _⟩
  case round =>
    obtain ⟨q, rfl, hq, hbq⟩ := hrel
    have HBQ := Lib.hid hbq
    clear hbq
    by_cases hq2 : (q : Int) < 2
    · have hdq : decide ((q : Int) < 2) = true := decide_eq_true hq2
      obtain ⟨ge, oe, ce, es, eq, A1, A2, hd, hb1, hb2, h1, h2, h3, h4⟩ := HX.out q (by omega)
      have HDq := Lib.hid (fun (wx : World) (hx : Below wr.heap.size wr wx) => hd wx (HBQ.out.trans (hx.mono HBQ.out.size)))
      have HI1 := Lib.hid (fun (wx : World) (hx : Below wr.heap.size wr wx) => h1 wx (HBQ.out.trans (hx.mono HBQ.out.size)))
      have HI2 := Lib.hid (fun (wx : World) (hx : Below wr.heap.size wr wx) => h2 wx (HBQ.out.trans (hx.mono HBQ.out.size)))
      have HJ1 := Lib.hid (fun (wx : World) (hx : Below wr.heap.size wr wx) => h3 wx (HBQ.out.trans (hx.mono HBQ.out.size)))
      have HJ2 := Lib.hid (fun (wx : World) (hx : Below wr.heap.size wr wx) => h4 wx (HBQ.out.trans (hx.mono HBQ.out.size)))
      clear hd h1 h2 h3 h4
      go_upto_region 28 with fail
      refine rc_r28 wr (by omega) HDq HI1 HI2 ?_
      intro v152 v153 v154 v155 v156 v157 v158 v159 v160 v161 v162 v163 v164 v165 v166 v167 w14 hb14
      have HB14 := Lib.hid hb14
      clear hb14
      go_upto_region 29 with fail
      refine rc_r29 w14 (by omega) (Lib.hid (fun wx hx => HDq.out wx (HB14.out.trans (hx.mono HB14.out.size)))) hb1 hb2 (Lib.hid (fun wx hx => HJ1.out wx (HB14.out.trans (hx.mono HB14.out.size)))) (Lib.hid (fun wx hx => HJ2.out wx (HB14.out.trans (hx.mono HB14.out.size)))) ?_
      intro v168 v169 v170 v171 v172 v173 v174 v175 v176 v177 v178 v179 v180 v181 v182 v183 v184 v185 v186 v187 v188 v189 v190 v191 v192 v193 v194 v195 v196 v197 v198 w15 hb15
      have HB15 := Lib.hid (HBQ.out.trans ((HB14.out.trans (hb15.mono HB14.out.size)).mono HBQ.out.size))
      clear hb15
      go_wp2_with fail
      go_roundw
      case rel => exact ⟨q + 1, by go_num, by omega, HB15.out⟩
      case measure => simp [RowKit.intOf]; omega
    · have hdq : decide ((q : Int) < 2) = false := decide_eq_false hq2
      go_wp2_with fail
      exact HK.out _ _ _ _ _ _ _ _ _ _ _ _ _ _ _ _ _ _ _ _ _ _ _ _ _ _ _ _ _ _ _ _ _ _ _ _ _ _ _ _ _ _ _ _ _ _ _ _ _ _ _ _ _ _ _ _ _ HBQ.out

set_option maxRecDepth 100000 in
set_option maxHeartbeats 8000000 in
theorem rc_r11 {u0 u1 u2 u3 u4 u5 u7 u8 u9 u10 u11 u12 u13 u14 u15 u16 u17 u18 u19 u20 u21 u22 u23 u24 u25 u26 u27 u28 u29 u30 u31 u32 u33 u34 u35 u36 u37 u38 u39 u40 u41 u42 u43 u44 u45 u46 u47 u48 u49 u50 u51 u52 u53 u54 u55 u56 u57 u58 u59 u60 u61 u62 u63 u64 u65 u66 u67 u68 u69 u70 u71 u72 u73 u74 u75 u76 u77 u78 u79 u80 u81 u82 u83 u84 u85 u86 u87 u88 u89 u90 u91 u92 u93 u94 u95 u96 u97 u98 u99 u100 u101 u102 u103 u104 u105 u106 u107 u108 u109 u110 u111 u112 u113 u114 u115 u116 u117 u118 u119 u120 u121 u122 u123 u124 u125 u126 u127 u128 u129 u130 u131 u132 u133 u134 u135 u136 u137 u138 u139 u140 u141 u142 u143 u144 u145 u146 u147 u148 u149 u150 u151 u152 u153 u154 u155 u156 u157 u158 u159 u160 u161 u162 u163 u164 u165 u166 u167 u168 u169 u170 u171 u172 u173 u174 u175 u176 u177 u178 u179 u180 u181 u182 u183 u184 u185 u186 u187 u188 u189 u190 u191 u192 u193 u194 u195 u196 u197 u198 u199 u200 : Value}
    {k : Nat} (hk : k ≤ 6) (w : World)
    {K : Act → World → Prop} {Q : Exit → Act → World → Prop} (hK : ∀ (v48 v49 : Value) (v6 : Value), v6 = .int .i64 ((k + 1 : Nat) : Int) → K ⟨#[u0, u1, u2, u3, u4, u5, v6, u7, u8, u9, u10, u11, u12, u13, u14, u15, u16, u17, u18, u19, u20, u21, u22, u23, u24, u25, u26, u27, u28, u29, u30, u31, u32, u33, u34, u35, u36, u37, u38, u39, u40, u41, u42, u43, u44, u45, u46, u47, v48, v49, u50, u51, u52, u53, u54, u55, u56, u57, u58, u59, u60, u61, u62, u63, u64, u65, u66, u67, u68, u69, u70, u71, u72, u73, u74, u75, u76, u77, u78, u79, u80, u81, u82, u83, u84, u85, u86, u87, u88, u89, u90, u91, u92, u93, u94, u95, u96, u97, u98, u99, u100, u101, u102, u103, u104, u105, u106, u107, u108, u109, u110, u111, u112, u113, u114, u115, u116, u117, u118, u119, u120, u121, u122, u123, u124, u125, u126, u127, u128, u129, u130, u131, u132, u133, u134, u135, u136, u137, u138, u139, u140, u141, u142, u143, u144, u145, u146, u147, u148, u149, u150, u151, u152, u153, u154, u155, u156, u157, u158, u159, u160, u161, u162, u163, u164, u165, u166, u167, u168, u169, u170, u171, u172, u173, u174, u175, u176, u177, u178, u179, u180, u181, u182, u183, u184, u185, u186, u187, u188, u189, u190, u191, u192, u193, u194, u195, u196, u197, u198, u199, u200], []⟩ w) :
    Code.wp Tryz.prog (regRc 11) (Exit.then K Q) ⟨#[u0, u1, u2, u3, u4, u5, .int .i64 (k : Int), u7, u8, u9, u10, u11, u12, u13, u14, u15, u16, u17, u18, u19, u20, u21, u22, u23, u24, u25, u26, u27, u28, u29, u30, u31, u32, u33, u34, u35, u36, u37, u38, u39, u40, u41, u42, u43, u44, u45, u46, u47, u48, u49, u50, u51, u52, u53, u54, u55, u56, u57, u58, u59, u60, u61, u62, u63, u64, u65, u66, u67, u68, u69, u70, u71, u72, u73, u74, u75, u76, u77, u78, u79, u80, u81, u82, u83, u84, u85, u86, u87, u88, u89, u90, u91, u92, u93, u94, u95, u96, u97, u98, u99, u100, u101, u102, u103, u104, u105, u106, u107, u108, u109, u110, u111, u112, u113, u114, u115, u116, u117, u118, u119, u120, u121, u122, u123, u124, u125, u126, u127, u128, u129, u130, u131, u132, u133, u134, u135, u136, u137, u138, u139, u140, u141, u142, u143, u144, u145, u146, u147, u148, u149, u150, u151, u152, u153, u154, u155, u156, u157, u158, u159, u160, u161, u162, u163, u164, u165, u166, u167, u168, u169, u170, u171, u172, u173, u174, u175, u176, u177, u178, u179, u180, u181, u182, u183, u184, u185, u186, u187, u188, u189, u190, u191, u192, u193, u194, u195, u196, u197, u198, u199, u200], []⟩ w := by
  have HK := Lib.hid hK
  clear hK
  have hw1 : (k : Int) ≤ 6 := by omega
  conv => arg 2; whnf
  go_wp2_with fail
  exact HK.out _ _ _ (by go_num)
end Go.Proofs.YtpoajofpbgjgaaaGreatDoor
