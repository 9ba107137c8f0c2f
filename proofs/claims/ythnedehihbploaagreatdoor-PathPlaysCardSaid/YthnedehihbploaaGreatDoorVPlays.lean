/- PathPlays: regions as theorems of their own -/
import Derived.Test.YthnedehihbploaaGreatDoorQLoop
import Derived.Test.YthnedehihbploaaGreatDoorQRef
import Derived.Test.YthnedehihbploaaGreatDoorYNear
import Derived.Deep.DeepCutAuto
import Derived.Deep.CutBlock
import Derived.Deep.RegionHeld3
import Derived.Deep.AppendLies
import Derived.Lib.QuietBelow
import Derived.Deep.QuietTactic
import Derived.BigQuiet
import Derived.IntWalk
import Derived.Test.YthnedehihbploaaGreatDoorVArgs
namespace Go.Proofs.YthnedehihbploaaGreatDoor
open Go.RowKit Go.Lib Go.Sort

def vpReg (n : Nat) : Code → Option Code
  | .region m ops d => if m = n then some (.region m ops d) else none
  | .seq a b => (vpReg n a).or (vpReg n b)
  | .cond _ a b => (vpReg n a).or (vpReg n b)
  | .block _ c => vpReg n c
  | .loop c => vpReg n c
  | .scope c => vpReg n c
  | _ => none
noncomputable def regVp (n : Nat) : Code := ((Tryz.f3.body.bind (vpReg n)).getD .skip)
theorem runs_first (wu : World) : Below wu.heap.size wu wu.drew := (Below.refl _ wu).drew
theorem runs_second (wu : World) (o : Obj) : Below wu.heap.size wu (wu.drew.alloc o) := ((Below.refl _ wu).drew).alloc (Nat.le_refl _) o
theorem runs_third (wu : World) (o : Obj) : Below wu.heap.size wu (wu.alloc o).drew := ((Below.refl _ wu).alloc (Nat.le_refl _) o).drew
theorem rv_len (l : List Int) : (rv l).length = l.length := by simp [rv]
theorem rv_app (a b : List Int) : rv (a ++ b) = rv a ++ rv b := by simp [rv]
/-- a copy of runes, in new memory -/
def CprPost (wB : World) (l : List Int) (n : Nat) (w : World) (x : Ending) (w' : World) : Prop := ∃ a c, x = .returned (.slice a n c) ∧ n ≤ c ∧ w'.ownsRow wB.heap.size 21 1 (.slice a n c) n (rv l) ∧ Below w.heap.size w w' ∧ Below wB.heap.size wB w'
theorem CopyRunes_b (a : Option Addr) (ca n : Nat) (l : List Int) (wB w : World) (ha : RunesAt w a l) (hn : l.length = n) (hl : n ≤ 100000) (hb : Below wB.heap.size wB w) : Calls Tryz.prog 15 #[.slice a n ca] w (CprPost wB l n w) := by
  subst hn
  refine (CopyRunes_any a ca l w ha hl).mono ?_
  rintro x w' ⟨v, rfl, hown, hb2⟩
  rcases hown.2 with ⟨hv, h0⟩ | ⟨g, cap, cur, hv, hg, hh, hc, hm, hcs, ht⟩
  · exact ⟨none, 0, by rw [hv, h0], by omega, by rw [hv, h0] at hown; rw [h0]; exact owns_base hown hb.size, hb2, hb.trans (hb2.mono hb.size)⟩
  · exact ⟨_, cap, by rw [hv], hc, by rw [hv] at hown; exact owns_base hown hb.size, hb2, hb.trans (hb2.mono hb.size)⟩
/-- a copy of some runes -/
def CprSome (wB : World) (l : List Int) (n : Nat) (w : World) (x : Ending) (w' : World) : Prop := ∃ g c, x = .returned (.slice (some ⟨g, 0, none⟩) n c) ∧ n ≤ c ∧ w'.ownsRow wB.heap.size 21 1 (.slice (some ⟨g, 0, none⟩) n c) n (rv l) ∧ Below w.heap.size w w' ∧ Below wB.heap.size wB w'
theorem CopyRunes_s (a : Option Addr) (ca n : Nat) (l : List Int) (wB w : World) (ha : RunesAt w a l) (hn : l.length = n) (h0 : 0 < n) (hl : n ≤ 100000) (hb : Below wB.heap.size wB w) : Calls Tryz.prog 15 #[.slice a n ca] w (CprSome wB l n w) := by
  subst hn
  refine (CopyRunes_any a ca l w ha hl).mono ?_
  rintro x w' ⟨v, rfl, hown, hb2⟩
  rcases hown.2 with ⟨hv, h9⟩ | ⟨g, cap, cur, hv, hg, hh, hc, hm, hcs, ht⟩
  · omega
  · exact ⟨g, cap, by rw [hv], hc, by rw [hv] at hown; exact owns_base hown hb.size, hb2, hb.trans (hb2.mono hb.size)⟩
set_option maxRecDepth 100000 in
set_option maxHeartbeats 1000000 in
theorem CopyRunes_z (a : Option Addr) (ca : Nat) (w : World) : Calls Tryz.prog 15 #[.slice a 0 ca] w (fun e w' => e = .returned (.slice none 0 0) ∧ Below w.heap.size w w') := by
  go_enter Tryz.func15, Tryz.ntmps15
  go_wp2
  go_loopw [3, 4] (fun v i wr => v = .slice none 0 0 ∧ i = .int .i64 0 ∧ wr = w) (fun _ _ _ => 0)
  case atStart => exact ⟨rfl, rfl, rfl⟩
  case round =>
    obtain ⟨rfl, rfl, rfl⟩ := hrel
    go_wp2
    go_ret
    exact ⟨rfl, Below.refl _ _⟩
theorem runes_cut {w : World} {a : Option Addr} {l : List Int} (h : RunesAt w a l) (k : Nat) : RunesAt w a (l.take k) :=
  ⟨fun j hj => by
    have h1 : j < l.length := by rw [List.length_take] at hj; omega
    rw [List.getElem_take]
    exact h.cell j h1, fun r hr => h.i32 r (List.mem_of_mem_take hr)⟩
theorem runes_tail {w : World} {br ro : Nat} {l : List Int} (h : RunesAt w (some ⟨br, ro, none⟩) l) (k : Nat) : ∀ j u, (rv (l.drop k))[j]? = some u → w.cell? ((⟨br, ro + k, none⟩ : Addr).add j) = some u := by
  intro j u hu
  have hj : j < (l.drop k).length := by
    have := (List.getElem?_eq_some_iff.1 hu).1
    rwa [rv_len] at this
  have hk : k + j < l.length := by rw [List.length_drop] at hj; omega
  obtain ⟨b, off, h1, h2, h3⟩ := h.cell (k + j) hk
  simp only [Option.some.injEq, Addr.mk.injEq] at h1
  obtain ⟨rfl, rfl, -⟩ := h1
  rw [Addr.add_lit, Nat.add_assoc, h3, ← hu]
  simp [rv, hk]
theorem own_capR {w : World} {base g cap n : Nat} {t : TypeId} {size : Nat} {xs : List Value} (h : w.ownsRow base t size (.slice (some ⟨g, 0, none⟩) n cap) n xs) : n ≤ cap := by
  rcases h.2 with ⟨h', _⟩ | ⟨g', cap', cur, h', _, _, hnc, _⟩
  · simp at h'
  · simp only [Value.slice.injEq] at h'
    rw [h'.2.2]; exact hnc
theorem news_one {w w3 : World} {v : Value} {t : TypeId} (h : Below (w.drew.alloc (.cells #[v] t)).heap.size (w.drew.alloc (.cells #[v] t)) w3) : ∀ j u, ([v])[j]? = some u → w3.cell? ((⟨w.heap.size, 0, none⟩ : Addr).add j) = some u := by
  intro j u hu
  have h1 := cell_one_new w.drew v t j u hu
  rw [Addr.add_lit] at h1 ⊢
  exact (h.cell (p := ⟨w.heap.size, 0 + j, none⟩) (by show w.drew.heap.size < _; simp)).trans h1
theorem run_fin {w : World} {base n at_ : Nat} {v : Value} {F : List Int} (hl : n - (at_ + 1) = F.length - (at_ + 1)) (h : w.ownsRow base 21 1 v (at_ + (n - (at_ + 1))) (rv (F.take at_) ++ rv (F.drop (at_ + 1)))) : w.ownsRow base 21 1 v (F.take at_ ++ F.drop (at_ + 1)).length (rv (F.take at_ ++ F.drop (at_ + 1))) := by
  have h1 := h.1
  rw [← rv_app] at h h1
  have h2 : (F.take at_ ++ F.drop (at_ + 1)).length = at_ + (n - (at_ + 1)) := by
    rw [rv_len] at h1
    omega
  rw [h2]
  exact h
theorem run_fin0 {w : World} {base at_ : Nat} {v : Value} {F : List Int} (hd : F.drop (at_ + 1) = []) (h : w.ownsRow base 21 1 v at_ (rv (F.take at_))) : w.ownsRow base 21 1 v (F.take at_ ++ F.drop (at_ + 1)).length (rv (F.take at_ ++ F.drop (at_ + 1))) := by
  have h1 := h.1
  rw [hd, List.append_nil]
  rw [rv_len, Nat.mul_one] at h1
  rw [h1]
  exact h
theorem run_ins {w : World} {base n at_ : Nat} {v : Value} {F : List Int} {rr : Int} (hl : n - at_ = F.length - at_) (ha : at_ ≤ F.length) (h : w.ownsRow base 21 1 v (at_ + 1 + (n - at_)) (rv (F.take at_) ++ [.int .i32 rr] ++ rv (F.drop at_))) : w.ownsRow base 21 1 v (F.take at_ ++ [rr] ++ F.drop at_).length (rv (F.take at_ ++ [rr] ++ F.drop at_)) := by
  have h2 : (F.take at_ ++ [rr] ++ F.drop at_).length = at_ + 1 + (n - at_) := by simp; omega
  rw [h2, rv_app, rv_app]
  exact h
theorem run_ins0 {w : World} {base at_ : Nat} {v : Value} {F : List Int} {rr : Int} (hd : F.drop at_ = []) (ha : at_ ≤ F.length) (h : w.ownsRow base 21 1 v (at_ + 1) (rv (F.take at_) ++ [.int .i32 rr])) : w.ownsRow base 21 1 v (F.take at_ ++ [rr] ++ F.drop at_).length (rv (F.take at_ ++ [rr] ++ F.drop at_)) := by
  have h2 : (F.take at_ ++ [rr] ++ F.drop at_).length = at_ + 1 := by rw [hd]; simp; omega
  rw [h2, hd, List.append_nil, rv_app]
  exact h
set_option maxRecDepth 100000 in
set_option maxHeartbeats 8000000 in
theorem vp_r14 {u0 u1 u2 u3 u5 u6 u7 u8 u9 u10 u11 u12 u13 u14 u15 u16 u17 u18 u19 u20 u21 u22 u23 u24 u25 u26 u27 u28 u29 u30 u31 u32 u33 u34 u35 u36 u37 u38 u39 u40 u41 u42 u43 u44 u45 u46 u47 u48 u49 u50 u51 u52 u53 u54 u55 u56 u57 u58 u59 u60 u61 u62 u63 u64 u65 u66 u67 u68 u69 u70 u71 u72 u73 u74 u75 u76 u77 u78 u79 u80 u81 u82 u83 u84 u85 u86 u87 u88 u89 u90 u91 u92 u93 u94 u95 u96 u97 u98 u99 u100 u101 u102 u103 u104 u105 u106 u107 u108 u109 u110 u111 u112 u113 u114 u115 u116 u117 u118 u119 u120 u121 u122 u123 u124 u125 u126 u127 u128 u129 u130 u131 u132 u133 u134 u135 u136 u137 u138 u139 u140 u141 u142 u143 u144 u145 u146 u147 u148 u149 u150 u151 u152 u153 u154 u155 u156 u157 u158 u159 u160 u161 u162 u163 u164 u165 u166 u167 u168 u169 u170 u171 u172 u173 u174 u175 u176 u177 u178 u179 u180 u181 u182 u183 u184 u185 u186 u187 u188 u189 u190 u191 u192 u193 : Value}
    {b2 off2 nr rc m mp gl oc : Nat} {es eq ek ex ey ez ef em en : Int} {et : ByteArray} {oa : Option Addr} (w : World)
    (HA : RowKit.Hid (∀ wx : World, Below w.heap.size w wx → b2 < wx.heap.size ∧ wx.cell? ⟨b2, off2 + m * 11, none⟩ = some (.int .i64 es) ∧ wx.cell? ⟨b2, off2 + m * 11 + 1, none⟩ = some (.int .i64 eq) ∧ wx.cell? ⟨b2, off2 + m * 11 + 2, none⟩ = some (.int .i64 ek) ∧ wx.cell? ⟨b2, off2 + m * 11 + 3, none⟩ = some (.int .i64 ex) ∧ wx.cell? ⟨b2, off2 + m * 11 + 4, none⟩ = some (.int .i64 ey) ∧ wx.cell? ⟨b2, off2 + m * 11 + 5, none⟩ = some (.int .i64 ez) ∧ wx.cell? ⟨b2, off2 + m * 11 + 6, none⟩ = some (.string et) ∧ wx.cell? ⟨b2, off2 + m * 11 + 7, none⟩ = some (.slice oa gl oc) ∧ wx.cell? ⟨b2, off2 + m * 11 + 8, none⟩ = some (.int .i64 ef) ∧ wx.cell? ⟨b2, off2 + m * 11 + 9, none⟩ = some (.int .i64 em) ∧ wx.cell? ⟨b2, off2 + m * 11 + 10, none⟩ = some (.int .i64 en)))
    {R : Option Addr → World → Prop}
    (H : RowKit.Hid (∀ wx : World, Below w.heap.size w wx → Calls Tryz.prog 12 #[.slice (some ⟨b2, off2, none⟩) m rc, .agg #[.int .i64 es, .int .i64 eq, .int .i64 ek, .int .i64 ex, .int .i64 ey, .int .i64 ez, .string et, .slice oa gl oc, .int .i64 ef, .int .i64 em, .int .i64 en]] wx (fun e w' => ∃ a c, e = .returned (.tuple #[.slice a mp c, .int .i64 0]) ∧ R a w' ∧ Below wx.heap.size wx w')))
    (hm : nr = m + 1) (h40 : nr ≤ 40) (hrc : nr ≤ rc)
    {K : Act → World → Prop} {Q : Exit → Act → World → Prop} (hK : ∀ (v67 v68 v69 v70 v71 v72 v73 v74 v75 v76 v77 v78 v79 v80 v81 : Value) (a : Option Addr) (c : Nat) (wx : World), R a wx → Below w.heap.size w wx → K ⟨#[u0, u1, u2, u3, .slice (some ⟨b2, off2, none⟩) nr rc, u5, u6, u7, u8, u9, u10, .slice a mp c, .int .i64 0, u13, u14, u15, u16, u17, u18, u19, u20, u21, u22, u23, u24, u25, u26, u27, u28, u29, u30, u31, u32, u33, u34, u35, u36, u37, u38, u39, u40, u41, u42, u43, u44, u45, u46, u47, u48, u49, u50, u51, u52, u53, u54, u55, u56, u57, u58, u59, u60, u61, u62, u63, u64, u65, u66, v67, v68, v69, v70, v71, v72, v73, v74, v75, v76, v77, v78, v79, v80, v81, u82, u83, u84, u85, u86, u87, u88, u89, u90, u91, u92, u93, u94, u95, u96, u97, u98, u99, u100, u101, u102, u103, u104, u105, u106, u107, u108, u109, u110, u111, u112, u113, u114, u115, u116, u117, u118, u119, u120, u121, u122, u123, u124, u125, u126, u127, u128, u129, u130, u131, u132, u133, u134, u135, u136, u137, u138, u139, u140, u141, u142, u143, u144, u145, u146, u147, u148, u149, u150, u151, u152, u153, u154, u155, u156, u157, u158, u159, u160, u161, u162, u163, u164, u165, u166, u167, u168, u169, u170, u171, u172, u173, u174, u175, u176, u177, u178, u179, u180, u181, u182, u183, u184, u185, u186, u187, u188, u189, u190, u191, u192, u193], []⟩ wx) :
    Code.wp Tryz.prog (regVp 14) (Exit.then K Q) ⟨#[u0, u1, u2, u3, .slice (some ⟨b2, off2, none⟩) nr rc, u5, u6, u7, u8, u9, u10, u11, u12, u13, u14, u15, u16, u17, u18, u19, u20, u21, u22, u23, u24, u25, u26, u27, u28, u29, u30, u31, u32, u33, u34, u35, u36, u37, u38, u39, u40, u41, u42, u43, u44, u45, u46, u47, u48, u49, u50, u51, u52, u53, u54, u55, u56, u57, u58, u59, u60, u61, u62, u63, u64, u65, u66, u67, u68, u69, u70, u71, u72, u73, u74, u75, u76, u77, u78, u79, u80, u81, u82, u83, u84, u85, u86, u87, u88, u89, u90, u91, u92, u93, u94, u95, u96, u97, u98, u99, u100, u101, u102, u103, u104, u105, u106, u107, u108, u109, u110, u111, u112, u113, u114, u115, u116, u117, u118, u119, u120, u121, u122, u123, u124, u125, u126, u127, u128, u129, u130, u131, u132, u133, u134, u135, u136, u137, u138, u139, u140, u141, u142, u143, u144, u145, u146, u147, u148, u149, u150, u151, u152, u153, u154, u155, u156, u157, u158, u159, u160, u161, u162, u163, u164, u165, u166, u167, u168, u169, u170, u171, u172, u173, u174, u175, u176, u177, u178, u179, u180, u181, u182, u183, u184, u185, u186, u187, u188, u189, u190, u191, u192, u193], []⟩ w := by
  have HK := Lib.hid hK
  clear hK
  have HSUB : (nr : Int) - 1 = (m : Int) := by omega
  have g2 : (m : Int) < (nr : Int) := by omega
  have g3 : (nr : Int) ≤ 40 := by omega
  have g4 : (0 : Int) ≤ (m : Int) := by omega
  have g5 : (m : Int) ≤ (rc : Int) := by omega
  have g6 : m ≤ rc := by omega
  have hw1 : IntKind.i64.wrap (m : Int) = (m : Int) := by rw [IntKind.wrap_i64]; omega
  clear hm h40
  have hb0 := (Below.refl w.heap.size w).drew
  obtain ⟨kl, k0, k1, k2, k3, k4, k5, k6, k7, k8, k9, ka⟩ := HA.out w (Below.refl _ _)
  conv => arg 2; whnf
  go_region_held3 (fun w' => w'.cell? ⟨b2, off2 + m * 11, none⟩ = some (.int .i64 es) ∧ w'.cell? ⟨b2, off2 + m * 11 + 1, none⟩ = some (.int .i64 eq) ∧ w'.cell? ⟨b2, off2 + m * 11 + 2, none⟩ = some (.int .i64 ek) ∧ w'.cell? ⟨b2, off2 + m * 11 + 3, none⟩ = some (.int .i64 ex) ∧ w'.cell? ⟨b2, off2 + m * 11 + 4, none⟩ = some (.int .i64 ey) ∧ w'.cell? ⟨b2, off2 + m * 11 + 5, none⟩ = some (.int .i64 ez) ∧ w'.cell? ⟨b2, off2 + m * 11 + 6, none⟩ = some (.string et) ∧ w'.cell? ⟨b2, off2 + m * 11 + 7, none⟩ = some (.slice oa gl oc) ∧ w'.cell? ⟨b2, off2 + m * 11 + 8, none⟩ = some (.int .i64 ef) ∧ w'.cell? ⟨b2, off2 + m * 11 + 9, none⟩ = some (.int .i64 em) ∧ w'.cell? ⟨b2, off2 + m * 11 + 10, none⟩ = some (.int .i64 en)) (first | exact (HA.out _ hb0).2 | exact (HA.out _ hb1).2) (first
    | (go_at_call 12; refine (H.out w.drew hb0).mono ?_; rintro e1 w1 ⟨a, c, rfl, hr, hb1'⟩; have hb1 := hb0.trans (hb1'.mono (Nat.le_refl _)))
    | fail)
  all_goals
    exact HK.out _ _ _ _ _ _ _ _ _ _ _ _ _ _ _ a c _ hr hb1

set_option maxRecDepth 100000 in
set_option maxHeartbeats 8000000 in
theorem vp_r28 {u0 u1 u2 u3 u4 u5 u6 u7 u8 u9 u10 u12 u14 u16 u17 u18 u19 u20 u21 u22 u23 u24 u25 u26 u27 u28 u29 u30 u31 u32 u33 u34 u35 u36 u37 u38 u39 u40 u41 u42 u43 u44 u45 u46 u47 u48 u49 u50 u51 u52 u53 u54 u55 u56 u57 u58 u59 u60 u61 u62 u63 u64 u65 u66 u67 u68 u69 u70 u71 u72 u73 u74 u75 u76 u77 u78 u79 u80 u81 u82 u83 u84 u85 u86 u87 u88 u89 u90 u91 u92 u93 u94 u95 u96 u97 u98 u99 u100 u101 u102 u103 u104 u105 u106 u107 u108 u109 u110 u111 u112 u113 u114 u115 u116 u117 u118 u119 u120 u121 u122 u123 u124 u125 u126 u127 u128 u129 u130 u131 u132 u133 u134 u135 u136 u137 u138 u139 u140 u141 u142 u143 u144 u145 u146 u147 u148 u149 u150 u151 u152 u153 u154 u155 u156 u157 u158 u159 u160 u161 u162 u163 u164 u165 u166 u167 u168 u169 u170 u171 u172 u173 u174 u175 u176 u177 u178 u179 u180 u181 u182 u183 u184 u185 u186 u187 u188 u189 u190 u191 u192 u193 : Value}
    {bp po mp pc br ro n rc k at_ : Nat} {rr : Int} (w : World)
    (HP : RowKit.Hid (∀ wx : World, Below w.heap.size w wx → wx.cell? ⟨bp, po + k * 4 + 1, none⟩ = some (.int .i64 (at_ : Int)) ∧ wx.cell? ⟨bp, po + k * 4 + 2, none⟩ = some (.int .i32 rr) ∧ bp < wx.heap.size)) (hk : k < mp) (hmp : mp ≤ 400)
    (hat : at_ < n) (hn : n ≤ 1000) (HR : RowKit.Hid (∀ wx : World, Below w.heap.size w wx → wx.cell? ⟨br, ro + at_, none⟩ = some (.int .i32 rr) ∧ br < wx.heap.size))
    (HN : RowKit.Hid (∀ wx : World, Below w.heap.size w wx → Calls Tryz.prog 14 #[.int .i64 (at_ : Int), .int .i64 ((n : Int) - 1)] wx (BoB true wx)))
    {K : Act → World → Prop} {Q : Exit → Act → World → Prop} (hK : ∀ (v146 v147 v148 v149 v150 v151 v152 v153 v154 v155 v156 v157 v158 v159 v160 v161 v162 v163 v164 v165 v166 v167 v168 v169 v170 : Value) (wx : World), Below w.heap.size w wx → K ⟨#[u0, u1, u2, u3, u4, u5, u6, u7, u8, u9, u10, .slice (some ⟨bp, po, none⟩) mp pc, u12, .slice (some ⟨br, ro, none⟩) n rc, u14, .int .i64 (k : Int), u16, u17, u18, u19, u20, u21, u22, u23, u24, u25, u26, u27, u28, u29, u30, u31, u32, u33, u34, u35, u36, u37, u38, u39, u40, u41, u42, u43, u44, u45, u46, u47, u48, u49, u50, u51, u52, u53, u54, u55, u56, u57, u58, u59, u60, u61, u62, u63, u64, u65, u66, u67, u68, u69, u70, u71, u72, u73, u74, u75, u76, u77, u78, u79, u80, u81, u82, u83, u84, u85, u86, u87, u88, u89, u90, u91, u92, u93, u94, u95, u96, u97, u98, u99, u100, u101, u102, u103, u104, u105, u106, u107, u108, u109, u110, u111, u112, u113, u114, u115, u116, u117, u118, u119, u120, u121, u122, u123, u124, u125, u126, u127, u128, u129, u130, u131, u132, u133, u134, u135, u136, u137, u138, u139, u140, u141, u142, u143, u144, u145, v146, v147, v148, v149, v150, v151, v152, v153, v154, v155, v156, v157, v158, v159, v160, v161, v162, v163, v164, v165, v166, v167, v168, v169, v170, .bool false, u172, u173, u174, u175, u176, u177, u178, u179, u180, u181, u182, u183, u184, u185, u186, u187, u188, u189, u190, u191, u192, u193], []⟩ wx) :
    Code.wp Tryz.prog (regVp 28) (Exit.then K Q) ⟨#[u0, u1, u2, u3, u4, u5, u6, u7, u8, u9, u10, .slice (some ⟨bp, po, none⟩) mp pc, u12, .slice (some ⟨br, ro, none⟩) n rc, u14, .int .i64 (k : Int), u16, u17, u18, u19, u20, u21, u22, u23, u24, u25, u26, u27, u28, u29, u30, u31, u32, u33, u34, u35, u36, u37, u38, u39, u40, u41, u42, u43, u44, u45, u46, u47, u48, u49, u50, u51, u52, u53, u54, u55, u56, u57, u58, u59, u60, u61, u62, u63, u64, u65, u66, u67, u68, u69, u70, u71, u72, u73, u74, u75, u76, u77, u78, u79, u80, u81, u82, u83, u84, u85, u86, u87, u88, u89, u90, u91, u92, u93, u94, u95, u96, u97, u98, u99, u100, u101, u102, u103, u104, u105, u106, u107, u108, u109, u110, u111, u112, u113, u114, u115, u116, u117, u118, u119, u120, u121, u122, u123, u124, u125, u126, u127, u128, u129, u130, u131, u132, u133, u134, u135, u136, u137, u138, u139, u140, u141, u142, u143, u144, u145, u146, u147, u148, u149, u150, u151, u152, u153, u154, u155, u156, u157, u158, u159, u160, u161, u162, u163, u164, u165, u166, u167, u168, u169, u170, u171, u172, u173, u174, u175, u176, u177, u178, u179, u180, u181, u182, u183, u184, u185, u186, u187, u188, u189, u190, u191, u192, u193], []⟩ w := by
  have HK := Lib.hid hK
  clear hK
  unfold BoB at HN
  have g1 : (k : Int) < (mp : Int) := by omega
  have g2 : (0 : Int) ≤ (k : Int) := by omega
  have g3 : (at_ : Int) < (n : Int) := by omega
  have g4 : (0 : Int) ≤ (at_ : Int) := by omega
  have g5 : (n : Int) ≤ 1000 := by omega
  have g6 : (mp : Int) ≤ 400 := by omega
  have hw1 : IntKind.i64.wrap ((n : Int) - 1) = (n : Int) - 1 := by rw [IntKind.wrap_i64]; omega
  obtain ⟨z0, z1, zl⟩ := HP.out w (Below.refl _ _)
  obtain ⟨y0, yl⟩ := HR.out w (Below.refl _ _)
  clear hk hmp hat hn
  conv => arg 2; whnf
  have r0 := cell_regrown z0
  have r1 := cell_regrown z1
  have r2 := cell_regrown y0
  have hq1 := fun d os => HN.out (Sort.grow (redrawn w d) os) (below_regrown w d os)
  refine wp_region_quiet_below (by kernel_rfl) (by kernel_rfl) ?_
  repeat (first | go_big_quiet_step (exact Calls.regrown_of (hq1 _ _)) | quiet_step (exact Calls.regrown_of (hq1 _ _)))
  refine wpQuiet_nil ?_
  intro _ hw'
  obtain ⟨⟨dq, osq⟩, hw''⟩ := hw'
  subst hw''
  exact HK.out _ _ _ _ _ _ _ _ _ _ _ _ _ _ _ _ _ _ _ _ _ _ _ _ _ _ (below_regrown w dq osq)

set_option maxRecDepth 100000 in
set_option maxHeartbeats 8000000 in
theorem vp_r30a {u0 u1 u2 u3 u4 u5 u6 u7 u8 u9 u10 u12 u14 u16 u17 u18 u19 u20 u21 u22 u23 u24 u25 u26 u27 u28 u29 u30 u31 u32 u33 u34 u35 u36 u37 u38 u39 u40 u41 u42 u43 u44 u45 u46 u47 u48 u49 u50 u51 u52 u53 u54 u55 u56 u57 u58 u59 u60 u61 u62 u63 u64 u65 u66 u67 u68 u69 u70 u71 u72 u73 u74 u75 u76 u77 u78 u79 u80 u81 u82 u83 u84 u85 u86 u87 u88 u89 u90 u91 u92 u93 u94 u95 u96 u97 u98 u99 u100 u101 u102 u103 u104 u105 u106 u107 u108 u109 u110 u111 u112 u113 u114 u115 u116 u117 u118 u119 u120 u121 u122 u123 u124 u125 u126 u127 u128 u129 u130 u131 u132 u133 u134 u135 u136 u137 u138 u139 u140 u141 u142 u143 u144 u145 u146 u147 u148 u149 u150 u151 u152 u153 u154 u155 u156 u157 u158 u159 u160 u161 u162 u163 u164 u165 u166 u167 u168 u169 u170 u171 u172 u173 u174 u175 u176 u177 u178 u179 u180 u181 u182 u183 u184 u185 u186 u187 u188 u189 u190 u191 u192 u193 : Value}
    {bp po mp pc br ro n rc k at_ : Nat} {rr : Int} (w : World)
    (HP : RowKit.Hid (∀ wx : World, Below w.heap.size w wx → wx.cell? ⟨bp, po + k * 4 + 1, none⟩ = some (.int .i64 (at_ : Int)) ∧ wx.cell? ⟨bp, po + k * 4 + 2, none⟩ = some (.int .i32 rr) ∧ bp < wx.heap.size)) (hk : k < mp) (hmp : mp ≤ 400)
    (hat : at_ + 1 < n) (hnc : n ≤ rc) (hn : n ≤ 1000) {F : List Int} (hF : F.length = n) (HS : RowKit.Hid (∀ wx : World, Below w.heap.size w wx → RunesAt wx (some ⟨br, ro, none⟩) F))
    (HC : RowKit.Hid (∀ wx : World, Below w.heap.size w wx → Calls Tryz.prog 15 #[.slice (some ⟨br, ro, none⟩) at_ rc] wx (CprPost w (F.take at_) at_ wx)))
    {K : Act → World → Prop} {Q : Exit → Act → World → Prop} (hK : ∀ (v172 v173 v174 v175 v176 v177 v178 v179 v180 v181 v182 v183 v184 v185 v186 v187 v188 : Value) (r8 : Value) (wx : World), wx.ownsRow w.heap.size 21 1 r8 (F.take at_ ++ F.drop (at_ + 1)).length (rv (F.take at_ ++ F.drop (at_ + 1))) → Below w.heap.size w wx → K ⟨#[u0, u1, u2, u3, u4, u5, u6, u7, u8, u9, u10, .slice (some ⟨bp, po, none⟩) mp pc, u12, r8, u14, .int .i64 (k : Int), u16, u17, u18, u19, u20, u21, u22, u23, u24, u25, u26, u27, u28, u29, u30, u31, u32, u33, u34, u35, u36, u37, u38, u39, u40, u41, u42, u43, u44, u45, u46, u47, u48, u49, u50, u51, u52, u53, u54, u55, u56, u57, u58, u59, u60, u61, u62, u63, u64, u65, u66, u67, u68, u69, u70, u71, u72, u73, u74, u75, u76, u77, u78, u79, u80, u81, u82, u83, u84, u85, u86, u87, u88, u89, u90, u91, u92, u93, u94, u95, u96, u97, u98, u99, u100, u101, u102, u103, u104, u105, u106, u107, u108, u109, u110, u111, u112, u113, u114, u115, u116, u117, u118, u119, u120, u121, u122, u123, u124, u125, u126, u127, u128, u129, u130, u131, u132, u133, u134, u135, u136, u137, u138, u139, u140, u141, u142, u143, u144, u145, u146, u147, u148, u149, u150, u151, u152, u153, u154, u155, u156, u157, u158, u159, u160, u161, u162, u163, u164, u165, u166, u167, u168, u169, u170, u171, v172, v173, v174, v175, v176, v177, v178, v179, v180, v181, v182, v183, v184, v185, v186, v187, v188, u189, u190, u191, u192, u193], []⟩ wx) :
    Code.wp Tryz.prog (regVp 30) (Exit.then K Q) ⟨#[u0, u1, u2, u3, u4, u5, u6, u7, u8, u9, u10, .slice (some ⟨bp, po, none⟩) mp pc, u12, .slice (some ⟨br, ro, none⟩) n rc, u14, .int .i64 (k : Int), u16, u17, u18, u19, u20, u21, u22, u23, u24, u25, u26, u27, u28, u29, u30, u31, u32, u33, u34, u35, u36, u37, u38, u39, u40, u41, u42, u43, u44, u45, u46, u47, u48, u49, u50, u51, u52, u53, u54, u55, u56, u57, u58, u59, u60, u61, u62, u63, u64, u65, u66, u67, u68, u69, u70, u71, u72, u73, u74, u75, u76, u77, u78, u79, u80, u81, u82, u83, u84, u85, u86, u87, u88, u89, u90, u91, u92, u93, u94, u95, u96, u97, u98, u99, u100, u101, u102, u103, u104, u105, u106, u107, u108, u109, u110, u111, u112, u113, u114, u115, u116, u117, u118, u119, u120, u121, u122, u123, u124, u125, u126, u127, u128, u129, u130, u131, u132, u133, u134, u135, u136, u137, u138, u139, u140, u141, u142, u143, u144, u145, u146, u147, u148, u149, u150, u151, u152, u153, u154, u155, u156, u157, u158, u159, u160, u161, u162, u163, u164, u165, u166, u167, u168, u169, u170, u171, u172, u173, u174, u175, u176, u177, u178, u179, u180, u181, u182, u183, u184, u185, u186, u187, u188, u189, u190, u191, u192, u193], []⟩ w := by
  have HK := Lib.hid hK
  clear hK
  obtain ⟨i0, hi, hz0, hz1, hz2⟩ := info_parts Tryz.info21
  unfold CprPost at HC
  have g1 : (k : Int) < (mp : Int) := by omega
  have g2 : (0 : Int) ≤ (k : Int) := by omega
  have g3 : (at_ : Int) ≤ (n : Int) := by omega
  have g4 : (0 : Int) ≤ (at_ : Int) := by omega
  have g5 : (n : Int) ≤ 1000 := by omega
  have g6 : (mp : Int) ≤ 400 := by omega
  have g7 : (n : Int) ≤ (rc : Int) := by omega
  have g8_ : at_ ≤ rc := by omega
  have g9 : (at_ : Int) + 1 ≤ (n : Int) := by omega
  have g10 : (0 : Int) ≤ (at_ : Int) + 1 := by omega
  have g11 : (at_ : Int) + 1 ≤ (rc : Int) := by omega
  have g12 : at_ + 1 ≤ rc := by omega
  have hw1 : IntKind.i64.wrap ((at_ : Int) + 1) = (at_ : Int) + 1 := by rw [IntKind.wrap_i64]; omega
  obtain ⟨z0, z1, zl⟩ := HP.out w (Below.refl _ _)
  have HM1 := Lib.hid (show at_ + (n - (at_ + 1)) ≤ maxLen from by unfold maxLen; omega)
  have HM2 := Lib.hid (show (at_ + (n - (at_ + 1))) * 4 ≤ 140737488355328 from by omega)
  have HDL := Lib.hid (show (rv (F.drop (at_ + 1))).length = (n - (at_ + 1)) * 1 from by rw [rv_len, List.length_drop]; omega)
  have HLF := Lib.hid (show n - (at_ + 1) = F.length - (at_ + 1) from by omega)
  have HP0 := Lib.hid (show 0 < n - (at_ + 1) from by omega)
  have hcc : ¬ rc = at_ + 1 := by omega
  have hw0 : at_ + 1 ≤ n := by omega
  clear hk hmp hat hn
  conv => arg 2; whnf
  go_region_held3 (fun w' => w'.cell? ⟨bp, po + k * 4 + 1, none⟩ = some (.int .i64 (at_ : Int)) ∧ w'.cell? ⟨bp, po + k * 4 + 2, none⟩ = some (.int .i32 rr)) (first | exact ⟨(HP.out _ (by first | exact hb9 | exact hb8 | exact hb3 | exact runs_first w | exact runs_second w _ | exact runs_third w _ | exact hb3.alloc hb3.size _ | exact hb3.drew | exact (hb3.alloc hb3.size _).drew | exact hb8.drew)).1, (HP.out _ (by first | exact hb9 | exact hb8 | exact hb3 | exact runs_first w | exact runs_second w _ | exact runs_third w _ | exact hb3.alloc hb3.size _ | exact hb3.drew | exact (hb3.alloc hb3.size _).drew | exact hb8.drew)).2.1⟩ | fail) (first
    | (go_at_call 15; refine (HC.out _ (by first | exact runs_first w | exact runs_second w _ | exact runs_third w _)).mono ?_; rintro x3 w3 ⟨a3, c3, rfl, hc3, hown3, hb3', hb3⟩)
    | (refine step_append_lies _ (by rfl) _ _ _ (by rfl) w.heap.size 21 i0 (.int .i32 0) 1 4 Tryz.underlying40 hi hz0 hz1 hz2 (by rfl) (by decide) (.slice a3 at_ c3) at_ _ (by rfl) hown3 ⟨br, ro + (at_ + 1), none⟩ (n - (at_ + 1)) (rc - (at_ + 1)) (rv (F.drop (at_ + 1))) (by rfl) HDL.out (runes_tail (HS.out w3 hb3) (at_ + 1)) (ints_oneCell .i32 _) HP0.out HM1.out HM2.out hb3.size _ rfl ?_; intro g8 c8 w8 hown8 hgrow8 hat8 hlt8; have hb8 := hb3.grown hgrow8 hb3.size (fun q hq => own_ge hown3 q hq))
    | fail)
  all_goals
    first | exact HK.out _ _ _ _ _ _ _ _ _ _ _ _ _ _ _ _ _ _ _ (run_fin HLF.out hown8) hb8 | (go_wp2_with fail; exact HK.out _ _ _ _ _ _ _ _ _ _ _ _ _ _ _ _ _ _ _ (run_fin HLF.out hown8) hb8)

set_option maxRecDepth 100000 in
set_option maxHeartbeats 8000000 in
theorem vp_r30bp {u0 u1 u2 u3 u4 u5 u6 u7 u8 u9 u10 u12 u14 u16 u17 u18 u19 u20 u21 u22 u23 u24 u25 u26 u27 u28 u29 u30 u31 u32 u33 u34 u35 u36 u37 u38 u39 u40 u41 u42 u43 u44 u45 u46 u47 u48 u49 u50 u51 u52 u53 u54 u55 u56 u57 u58 u59 u60 u61 u62 u63 u64 u65 u66 u67 u68 u69 u70 u71 u72 u73 u74 u75 u76 u77 u78 u79 u80 u81 u82 u83 u84 u85 u86 u87 u88 u89 u90 u91 u92 u93 u94 u95 u96 u97 u98 u99 u100 u101 u102 u103 u104 u105 u106 u107 u108 u109 u110 u111 u112 u113 u114 u115 u116 u117 u118 u119 u120 u121 u122 u123 u124 u125 u126 u127 u128 u129 u130 u131 u132 u133 u134 u135 u136 u137 u138 u139 u140 u141 u142 u143 u144 u145 u146 u147 u148 u149 u150 u151 u152 u153 u154 u155 u156 u157 u158 u159 u160 u161 u162 u163 u164 u165 u166 u167 u168 u169 u170 u171 u172 u173 u174 u175 u176 u177 u178 u179 u180 u181 u182 u183 u184 u185 u186 u187 u188 u189 u190 u191 u192 u193 : Value}
    {bp po mp pc br ro n rc k at_ : Nat} {rr : Int} (w : World)
    (HP : RowKit.Hid (∀ wx : World, Below w.heap.size w wx → wx.cell? ⟨bp, po + k * 4 + 1, none⟩ = some (.int .i64 (at_ : Int)) ∧ wx.cell? ⟨bp, po + k * 4 + 2, none⟩ = some (.int .i32 rr) ∧ bp < wx.heap.size)) (hk : k < mp) (hmp : mp ≤ 400)
    (hat : at_ + 1 = n) (hcn : n = rc) (hnc : n ≤ rc) (hn : n ≤ 1000) {F : List Int} (hF : F.length = n) (_HS : RowKit.Hid (∀ wx : World, Below w.heap.size w wx → RunesAt wx (some ⟨br, ro, none⟩) F))
    (HC : RowKit.Hid (∀ wx : World, Below w.heap.size w wx → Calls Tryz.prog 15 #[.slice (some ⟨br, ro, none⟩) at_ rc] wx (CprSome w (F.take at_) at_ wx)))
    {K : Act → World → Prop} {Q : Exit → Act → World → Prop} (hK : ∀ (v172 v173 v174 v175 v176 v177 v178 v179 v180 v181 v182 v183 v184 v185 v186 v187 v188 : Value) (r8 : Value) (wx : World), wx.ownsRow w.heap.size 21 1 r8 (F.take at_ ++ F.drop (at_ + 1)).length (rv (F.take at_ ++ F.drop (at_ + 1))) → Below w.heap.size w wx → K ⟨#[u0, u1, u2, u3, u4, u5, u6, u7, u8, u9, u10, .slice (some ⟨bp, po, none⟩) mp pc, u12, r8, u14, .int .i64 (k : Int), u16, u17, u18, u19, u20, u21, u22, u23, u24, u25, u26, u27, u28, u29, u30, u31, u32, u33, u34, u35, u36, u37, u38, u39, u40, u41, u42, u43, u44, u45, u46, u47, u48, u49, u50, u51, u52, u53, u54, u55, u56, u57, u58, u59, u60, u61, u62, u63, u64, u65, u66, u67, u68, u69, u70, u71, u72, u73, u74, u75, u76, u77, u78, u79, u80, u81, u82, u83, u84, u85, u86, u87, u88, u89, u90, u91, u92, u93, u94, u95, u96, u97, u98, u99, u100, u101, u102, u103, u104, u105, u106, u107, u108, u109, u110, u111, u112, u113, u114, u115, u116, u117, u118, u119, u120, u121, u122, u123, u124, u125, u126, u127, u128, u129, u130, u131, u132, u133, u134, u135, u136, u137, u138, u139, u140, u141, u142, u143, u144, u145, u146, u147, u148, u149, u150, u151, u152, u153, u154, u155, u156, u157, u158, u159, u160, u161, u162, u163, u164, u165, u166, u167, u168, u169, u170, u171, v172, v173, v174, v175, v176, v177, v178, v179, v180, v181, v182, v183, v184, v185, v186, v187, v188, u189, u190, u191, u192, u193], []⟩ wx) :
    Code.wp Tryz.prog (regVp 30) (Exit.then K Q) ⟨#[u0, u1, u2, u3, u4, u5, u6, u7, u8, u9, u10, .slice (some ⟨bp, po, none⟩) mp pc, u12, .slice (some ⟨br, ro, none⟩) n rc, u14, .int .i64 (k : Int), u16, u17, u18, u19, u20, u21, u22, u23, u24, u25, u26, u27, u28, u29, u30, u31, u32, u33, u34, u35, u36, u37, u38, u39, u40, u41, u42, u43, u44, u45, u46, u47, u48, u49, u50, u51, u52, u53, u54, u55, u56, u57, u58, u59, u60, u61, u62, u63, u64, u65, u66, u67, u68, u69, u70, u71, u72, u73, u74, u75, u76, u77, u78, u79, u80, u81, u82, u83, u84, u85, u86, u87, u88, u89, u90, u91, u92, u93, u94, u95, u96, u97, u98, u99, u100, u101, u102, u103, u104, u105, u106, u107, u108, u109, u110, u111, u112, u113, u114, u115, u116, u117, u118, u119, u120, u121, u122, u123, u124, u125, u126, u127, u128, u129, u130, u131, u132, u133, u134, u135, u136, u137, u138, u139, u140, u141, u142, u143, u144, u145, u146, u147, u148, u149, u150, u151, u152, u153, u154, u155, u156, u157, u158, u159, u160, u161, u162, u163, u164, u165, u166, u167, u168, u169, u170, u171, u172, u173, u174, u175, u176, u177, u178, u179, u180, u181, u182, u183, u184, u185, u186, u187, u188, u189, u190, u191, u192, u193], []⟩ w := by
  have HK := Lib.hid hK
  clear hK
  obtain ⟨i0, hi, hz0, hz1, hz2⟩ := info_parts Tryz.info21
  unfold CprSome at HC
  have g1 : (k : Int) < (mp : Int) := by omega
  have g2 : (0 : Int) ≤ (k : Int) := by omega
  have g3 : (at_ : Int) ≤ (n : Int) := by omega
  have g4 : (0 : Int) ≤ (at_ : Int) := by omega
  have g5 : (n : Int) ≤ 1000 := by omega
  have g6 : (mp : Int) ≤ 400 := by omega
  have g7 : (n : Int) ≤ (rc : Int) := by omega
  have g8_ : at_ ≤ rc := by omega
  have g9 : (at_ : Int) + 1 ≤ (n : Int) := by omega
  have g10 : (0 : Int) ≤ (at_ : Int) + 1 := by omega
  have g11 : (at_ : Int) + 1 ≤ (rc : Int) := by omega
  have g12 : at_ + 1 ≤ rc := by omega
  have hw1 : IntKind.i64.wrap ((at_ : Int) + 1) = (at_ : Int) + 1 := by rw [IntKind.wrap_i64]; omega
  obtain ⟨z0, z1, zl⟩ := HP.out w (Below.refl _ _)
  have HM1 := Lib.hid (show at_ + (n - (at_ + 1)) ≤ maxLen from by unfold maxLen; omega)
  have HM2 := Lib.hid (show (at_ + (n - (at_ + 1))) * 4 ≤ 140737488355328 from by omega)
  have HDL := Lib.hid (show (rv (F.drop (at_ + 1))).length = (n - (at_ + 1)) * 1 from by rw [rv_len, List.length_drop]; omega)
  have HLF := Lib.hid (show n - (at_ + 1) = F.length - (at_ + 1) from by omega)
  have hd0 : F.drop (at_ + 1) = [] := List.drop_eq_nil_of_le (by omega)
  have HD0 := Lib.hid hd0
  have HRC := Lib.hid (show n = at_ + 1 ∧ rc = at_ + 1 from by omega)
  have q1 : (at_ : Int) ≤ (at_ : Int) + 1 := by omega
  have q2 : at_ ≤ at_ + 1 := by omega
  have q3 : (at_ : Int) < (at_ : Int) + 1 := by omega
  obtain ⟨rfl, rfl⟩ := HRC.out
  clear hk hmp hat hn hd0
  conv => arg 2; whnf
  go_region_held3 (fun w' => w'.cell? ⟨bp, po + k * 4 + 1, none⟩ = some (.int .i64 (at_ : Int)) ∧ w'.cell? ⟨bp, po + k * 4 + 2, none⟩ = some (.int .i32 rr)) (first | exact ⟨(HP.out _ (by first | exact hb9 | exact hb8 | exact hb3 | exact runs_first w | exact runs_second w _ | exact runs_third w _ | exact hb3.alloc hb3.size _ | exact hb3.drew | exact (hb3.alloc hb3.size _).drew | exact hb8.drew)).1, (HP.out _ (by first | exact hb9 | exact hb8 | exact hb3 | exact runs_first w | exact runs_second w _ | exact runs_third w _ | exact hb3.alloc hb3.size _ | exact hb3.drew | exact (hb3.alloc hb3.size _).drew | exact hb8.drew)).2.1⟩ | fail) (first
    | (go_at_call 15; refine (HC.out _ (by first | exact runs_first w | exact runs_second w _ | exact runs_third w _)).mono ?_; rintro x3 w3 ⟨g3, c3, rfl, hc3, hown3, hb3', hb3⟩)
    | fail)
  all_goals
    first | exact HK.out _ _ _ _ _ _ _ _ _ _ _ _ _ _ _ _ _ _ _ (run_fin0 HD0.out hown3) hb3 | (go_wp2_with fail; exact HK.out _ _ _ _ _ _ _ _ _ _ _ _ _ _ _ _ _ _ _ (run_fin0 HD0.out hown3) hb3)

set_option maxRecDepth 100000 in
set_option maxHeartbeats 8000000 in
theorem vp_r30cp {u0 u1 u2 u3 u4 u5 u6 u7 u8 u9 u10 u12 u14 u16 u17 u18 u19 u20 u21 u22 u23 u24 u25 u26 u27 u28 u29 u30 u31 u32 u33 u34 u35 u36 u37 u38 u39 u40 u41 u42 u43 u44 u45 u46 u47 u48 u49 u50 u51 u52 u53 u54 u55 u56 u57 u58 u59 u60 u61 u62 u63 u64 u65 u66 u67 u68 u69 u70 u71 u72 u73 u74 u75 u76 u77 u78 u79 u80 u81 u82 u83 u84 u85 u86 u87 u88 u89 u90 u91 u92 u93 u94 u95 u96 u97 u98 u99 u100 u101 u102 u103 u104 u105 u106 u107 u108 u109 u110 u111 u112 u113 u114 u115 u116 u117 u118 u119 u120 u121 u122 u123 u124 u125 u126 u127 u128 u129 u130 u131 u132 u133 u134 u135 u136 u137 u138 u139 u140 u141 u142 u143 u144 u145 u146 u147 u148 u149 u150 u151 u152 u153 u154 u155 u156 u157 u158 u159 u160 u161 u162 u163 u164 u165 u166 u167 u168 u169 u170 u171 u172 u173 u174 u175 u176 u177 u178 u179 u180 u181 u182 u183 u184 u185 u186 u187 u188 u189 u190 u191 u192 u193 : Value}
    {bp po mp pc br ro n rc k at_ : Nat} {rr : Int} (w : World)
    (HP : RowKit.Hid (∀ wx : World, Below w.heap.size w wx → wx.cell? ⟨bp, po + k * 4 + 1, none⟩ = some (.int .i64 (at_ : Int)) ∧ wx.cell? ⟨bp, po + k * 4 + 2, none⟩ = some (.int .i32 rr) ∧ bp < wx.heap.size)) (hk : k < mp) (hmp : mp ≤ 400)
    (hat : at_ + 1 = n) (hcn : n < rc) (hnc : n ≤ rc) (hn : n ≤ 1000) {F : List Int} (hF : F.length = n) (_HS : RowKit.Hid (∀ wx : World, Below w.heap.size w wx → RunesAt wx (some ⟨br, ro, none⟩) F))
    (HC : RowKit.Hid (∀ wx : World, Below w.heap.size w wx → Calls Tryz.prog 15 #[.slice (some ⟨br, ro, none⟩) at_ rc] wx (CprSome w (F.take at_) at_ wx)))
    {K : Act → World → Prop} {Q : Exit → Act → World → Prop} (hK : ∀ (v172 v173 v174 v175 v176 v177 v178 v179 v180 v181 v182 v183 v184 v185 v186 v187 v188 : Value) (r8 : Value) (wx : World), wx.ownsRow w.heap.size 21 1 r8 (F.take at_ ++ F.drop (at_ + 1)).length (rv (F.take at_ ++ F.drop (at_ + 1))) → Below w.heap.size w wx → K ⟨#[u0, u1, u2, u3, u4, u5, u6, u7, u8, u9, u10, .slice (some ⟨bp, po, none⟩) mp pc, u12, r8, u14, .int .i64 (k : Int), u16, u17, u18, u19, u20, u21, u22, u23, u24, u25, u26, u27, u28, u29, u30, u31, u32, u33, u34, u35, u36, u37, u38, u39, u40, u41, u42, u43, u44, u45, u46, u47, u48, u49, u50, u51, u52, u53, u54, u55, u56, u57, u58, u59, u60, u61, u62, u63, u64, u65, u66, u67, u68, u69, u70, u71, u72, u73, u74, u75, u76, u77, u78, u79, u80, u81, u82, u83, u84, u85, u86, u87, u88, u89, u90, u91, u92, u93, u94, u95, u96, u97, u98, u99, u100, u101, u102, u103, u104, u105, u106, u107, u108, u109, u110, u111, u112, u113, u114, u115, u116, u117, u118, u119, u120, u121, u122, u123, u124, u125, u126, u127, u128, u129, u130, u131, u132, u133, u134, u135, u136, u137, u138, u139, u140, u141, u142, u143, u144, u145, u146, u147, u148, u149, u150, u151, u152, u153, u154, u155, u156, u157, u158, u159, u160, u161, u162, u163, u164, u165, u166, u167, u168, u169, u170, u171, v172, v173, v174, v175, v176, v177, v178, v179, v180, v181, v182, v183, v184, v185, v186, v187, v188, u189, u190, u191, u192, u193], []⟩ wx) :
    Code.wp Tryz.prog (regVp 30) (Exit.then K Q) ⟨#[u0, u1, u2, u3, u4, u5, u6, u7, u8, u9, u10, .slice (some ⟨bp, po, none⟩) mp pc, u12, .slice (some ⟨br, ro, none⟩) n rc, u14, .int .i64 (k : Int), u16, u17, u18, u19, u20, u21, u22, u23, u24, u25, u26, u27, u28, u29, u30, u31, u32, u33, u34, u35, u36, u37, u38, u39, u40, u41, u42, u43, u44, u45, u46, u47, u48, u49, u50, u51, u52, u53, u54, u55, u56, u57, u58, u59, u60, u61, u62, u63, u64, u65, u66, u67, u68, u69, u70, u71, u72, u73, u74, u75, u76, u77, u78, u79, u80, u81, u82, u83, u84, u85, u86, u87, u88, u89, u90, u91, u92, u93, u94, u95, u96, u97, u98, u99, u100, u101, u102, u103, u104, u105, u106, u107, u108, u109, u110, u111, u112, u113, u114, u115, u116, u117, u118, u119, u120, u121, u122, u123, u124, u125, u126, u127, u128, u129, u130, u131, u132, u133, u134, u135, u136, u137, u138, u139, u140, u141, u142, u143, u144, u145, u146, u147, u148, u149, u150, u151, u152, u153, u154, u155, u156, u157, u158, u159, u160, u161, u162, u163, u164, u165, u166, u167, u168, u169, u170, u171, u172, u173, u174, u175, u176, u177, u178, u179, u180, u181, u182, u183, u184, u185, u186, u187, u188, u189, u190, u191, u192, u193], []⟩ w := by
  have HK := Lib.hid hK
  clear hK
  obtain ⟨i0, hi, hz0, hz1, hz2⟩ := info_parts Tryz.info21
  unfold CprSome at HC
  have g1 : (k : Int) < (mp : Int) := by omega
  have g2 : (0 : Int) ≤ (k : Int) := by omega
  have g3 : (at_ : Int) ≤ (n : Int) := by omega
  have g4 : (0 : Int) ≤ (at_ : Int) := by omega
  have g5 : (n : Int) ≤ 1000 := by omega
  have g6 : (mp : Int) ≤ 400 := by omega
  have g7 : (n : Int) ≤ (rc : Int) := by omega
  have g8_ : at_ ≤ rc := by omega
  have g9 : (at_ : Int) + 1 ≤ (n : Int) := by omega
  have g10 : (0 : Int) ≤ (at_ : Int) + 1 := by omega
  have g11 : (at_ : Int) + 1 ≤ (rc : Int) := by omega
  have g12 : at_ + 1 ≤ rc := by omega
  have hw1 : IntKind.i64.wrap ((at_ : Int) + 1) = (at_ : Int) + 1 := by rw [IntKind.wrap_i64]; omega
  obtain ⟨z0, z1, zl⟩ := HP.out w (Below.refl _ _)
  have HM1 := Lib.hid (show at_ + (n - (at_ + 1)) ≤ maxLen from by unfold maxLen; omega)
  have HM2 := Lib.hid (show (at_ + (n - (at_ + 1))) * 4 ≤ 140737488355328 from by omega)
  have HDL := Lib.hid (show (rv (F.drop (at_ + 1))).length = (n - (at_ + 1)) * 1 from by rw [rv_len, List.length_drop]; omega)
  have HLF := Lib.hid (show n - (at_ + 1) = F.length - (at_ + 1) from by omega)
  have hd0 : F.drop (at_ + 1) = [] := List.drop_eq_nil_of_le (by omega)
  have HD0 := Lib.hid hd0
  have HRC := Lib.hid (show n = at_ + 1 from by omega)
  obtain rfl := HRC.out
  have hcc : ¬ rc = at_ + 1 := by omega
  clear hk hmp hat hn hd0
  conv => arg 2; whnf
  go_region_held3 (fun w' => w'.cell? ⟨bp, po + k * 4 + 1, none⟩ = some (.int .i64 (at_ : Int)) ∧ w'.cell? ⟨bp, po + k * 4 + 2, none⟩ = some (.int .i32 rr)) (first | exact ⟨(HP.out _ (by first | exact hb9 | exact hb8 | exact hb3 | exact runs_first w | exact runs_second w _ | exact runs_third w _ | exact hb3.alloc hb3.size _ | exact hb3.drew | exact (hb3.alloc hb3.size _).drew | exact hb8.drew)).1, (HP.out _ (by first | exact hb9 | exact hb8 | exact hb3 | exact runs_first w | exact runs_second w _ | exact runs_third w _ | exact hb3.alloc hb3.size _ | exact hb3.drew | exact (hb3.alloc hb3.size _).drew | exact hb8.drew)).2.1⟩ | fail) (first
    | (go_at_call 15; refine (HC.out _ (by first | exact runs_first w | exact runs_second w _ | exact runs_third w _)).mono ?_; rintro x3 w3 ⟨g3, c3, rfl, hc3, hown3, hb3', hb3⟩)
    | fail)
  all_goals
    first | exact HK.out _ _ _ _ _ _ _ _ _ _ _ _ _ _ _ _ _ _ _ (run_fin0 HD0.out hown3) hb3 | (go_wp2_with fail; exact HK.out _ _ _ _ _ _ _ _ _ _ _ _ _ _ _ _ _ _ _ (run_fin0 HD0.out hown3) hb3)

set_option maxRecDepth 100000 in
set_option maxHeartbeats 8000000 in
theorem vp_r30bz {u0 u1 u2 u3 u4 u5 u6 u7 u8 u9 u10 u12 u14 u16 u17 u18 u19 u20 u21 u22 u23 u24 u25 u26 u27 u28 u29 u30 u31 u32 u33 u34 u35 u36 u37 u38 u39 u40 u41 u42 u43 u44 u45 u46 u47 u48 u49 u50 u51 u52 u53 u54 u55 u56 u57 u58 u59 u60 u61 u62 u63 u64 u65 u66 u67 u68 u69 u70 u71 u72 u73 u74 u75 u76 u77 u78 u79 u80 u81 u82 u83 u84 u85 u86 u87 u88 u89 u90 u91 u92 u93 u94 u95 u96 u97 u98 u99 u100 u101 u102 u103 u104 u105 u106 u107 u108 u109 u110 u111 u112 u113 u114 u115 u116 u117 u118 u119 u120 u121 u122 u123 u124 u125 u126 u127 u128 u129 u130 u131 u132 u133 u134 u135 u136 u137 u138 u139 u140 u141 u142 u143 u144 u145 u146 u147 u148 u149 u150 u151 u152 u153 u154 u155 u156 u157 u158 u159 u160 u161 u162 u163 u164 u165 u166 u167 u168 u169 u170 u171 u172 u173 u174 u175 u176 u177 u178 u179 u180 u181 u182 u183 u184 u185 u186 u187 u188 u189 u190 u191 u192 u193 : Value}
    {bp po mp pc br ro k : Nat} {rr : Int} (w : World)
    (HP : RowKit.Hid (∀ wx : World, Below w.heap.size w wx → wx.cell? ⟨bp, po + k * 4 + 1, none⟩ = some (.int .i64 0) ∧ wx.cell? ⟨bp, po + k * 4 + 2, none⟩ = some (.int .i32 rr) ∧ bp < wx.heap.size)) (hk : k < mp) (hmp : mp ≤ 400)
    (HC : RowKit.Hid (∀ wx : World, Below w.heap.size w wx → Calls Tryz.prog 15 #[.slice (some ⟨br, ro, none⟩) 0 1] wx (fun e w' => e = .returned (.slice none 0 0) ∧ Below wx.heap.size wx w')))
    {K : Act → World → Prop} {Q : Exit → Act → World → Prop} (hK : ∀ (v172 v173 v174 v175 v176 v177 v178 v179 v180 v181 v182 v183 v184 v185 v186 v187 v188 : Value) (r8 : Value) (wx : World), wx.ownsRow w.heap.size 21 1 r8 0 [] → Below w.heap.size w wx → K ⟨#[u0, u1, u2, u3, u4, u5, u6, u7, u8, u9, u10, .slice (some ⟨bp, po, none⟩) mp pc, u12, r8, u14, .int .i64 (k : Int), u16, u17, u18, u19, u20, u21, u22, u23, u24, u25, u26, u27, u28, u29, u30, u31, u32, u33, u34, u35, u36, u37, u38, u39, u40, u41, u42, u43, u44, u45, u46, u47, u48, u49, u50, u51, u52, u53, u54, u55, u56, u57, u58, u59, u60, u61, u62, u63, u64, u65, u66, u67, u68, u69, u70, u71, u72, u73, u74, u75, u76, u77, u78, u79, u80, u81, u82, u83, u84, u85, u86, u87, u88, u89, u90, u91, u92, u93, u94, u95, u96, u97, u98, u99, u100, u101, u102, u103, u104, u105, u106, u107, u108, u109, u110, u111, u112, u113, u114, u115, u116, u117, u118, u119, u120, u121, u122, u123, u124, u125, u126, u127, u128, u129, u130, u131, u132, u133, u134, u135, u136, u137, u138, u139, u140, u141, u142, u143, u144, u145, u146, u147, u148, u149, u150, u151, u152, u153, u154, u155, u156, u157, u158, u159, u160, u161, u162, u163, u164, u165, u166, u167, u168, u169, u170, u171, v172, v173, v174, v175, v176, v177, v178, v179, v180, v181, v182, v183, v184, v185, v186, v187, v188, u189, u190, u191, u192, u193], []⟩ wx) :
    Code.wp Tryz.prog (regVp 30) (Exit.then K Q) ⟨#[u0, u1, u2, u3, u4, u5, u6, u7, u8, u9, u10, .slice (some ⟨bp, po, none⟩) mp pc, u12, .slice (some ⟨br, ro, none⟩) 1 1, u14, .int .i64 (k : Int), u16, u17, u18, u19, u20, u21, u22, u23, u24, u25, u26, u27, u28, u29, u30, u31, u32, u33, u34, u35, u36, u37, u38, u39, u40, u41, u42, u43, u44, u45, u46, u47, u48, u49, u50, u51, u52, u53, u54, u55, u56, u57, u58, u59, u60, u61, u62, u63, u64, u65, u66, u67, u68, u69, u70, u71, u72, u73, u74, u75, u76, u77, u78, u79, u80, u81, u82, u83, u84, u85, u86, u87, u88, u89, u90, u91, u92, u93, u94, u95, u96, u97, u98, u99, u100, u101, u102, u103, u104, u105, u106, u107, u108, u109, u110, u111, u112, u113, u114, u115, u116, u117, u118, u119, u120, u121, u122, u123, u124, u125, u126, u127, u128, u129, u130, u131, u132, u133, u134, u135, u136, u137, u138, u139, u140, u141, u142, u143, u144, u145, u146, u147, u148, u149, u150, u151, u152, u153, u154, u155, u156, u157, u158, u159, u160, u161, u162, u163, u164, u165, u166, u167, u168, u169, u170, u171, u172, u173, u174, u175, u176, u177, u178, u179, u180, u181, u182, u183, u184, u185, u186, u187, u188, u189, u190, u191, u192, u193], []⟩ w := by
  have HK := Lib.hid hK
  clear hK
  have g1 : (k : Int) < (mp : Int) := by omega
  have g2 : (0 : Int) ≤ (k : Int) := by omega
  have g6 : (mp : Int) ≤ 400 := by omega
  have hw1 : IntKind.i64.wrap ((0 : Int) + 1) = 1 := by decide
  have hw2 : IntKind.i64.wrap (1 : Int) = 1 := by decide
  obtain ⟨z0, z1, zl⟩ := HP.out w (Below.refl _ _)
  clear hk hmp
  conv => arg 2; whnf
  go_region_held3 (fun w' => w'.cell? ⟨bp, po + k * 4 + 1, none⟩ = some (.int .i64 0) ∧ w'.cell? ⟨bp, po + k * 4 + 2, none⟩ = some (.int .i32 rr)) (first | exact ⟨(HP.out _ (by first | exact hb9 | exact hb8 | exact hb3 | exact runs_first w | exact runs_second w _ | exact runs_third w _ | exact hb3.alloc hb3.size _ | exact hb3.drew | exact (hb3.alloc hb3.size _).drew | exact hb8.drew)).1, (HP.out _ (by first | exact hb9 | exact hb8 | exact hb3 | exact runs_first w | exact runs_second w _ | exact runs_third w _ | exact hb3.alloc hb3.size _ | exact hb3.drew | exact (hb3.alloc hb3.size _).drew | exact hb8.drew)).2.1⟩ | fail) (first
    | (go_at_call 15; refine (HC.out _ (by first | exact runs_first w | exact runs_second w _ | exact runs_third w _)).mono ?_; rintro x3 w3 ⟨rfl, hb3'⟩; have hb3 := (Below.refl w.heap.size w).drew.trans (hb3'.mono (Nat.le_refl _)))
    | fail)
  all_goals
    first | exact HK.out _ _ _ _ _ _ _ _ _ _ _ _ _ _ _ _ _ _ _ (World.ownsRow_nil _ _ _ _) hb3 | (go_wp2_with fail; exact HK.out _ _ _ _ _ _ _ _ _ _ _ _ _ _ _ _ _ _ _ (World.ownsRow_nil _ _ _ _) hb3)

set_option maxRecDepth 100000 in
set_option maxHeartbeats 8000000 in
theorem vp_r30cz {u0 u1 u2 u3 u4 u5 u6 u7 u8 u9 u10 u12 u14 u16 u17 u18 u19 u20 u21 u22 u23 u24 u25 u26 u27 u28 u29 u30 u31 u32 u33 u34 u35 u36 u37 u38 u39 u40 u41 u42 u43 u44 u45 u46 u47 u48 u49 u50 u51 u52 u53 u54 u55 u56 u57 u58 u59 u60 u61 u62 u63 u64 u65 u66 u67 u68 u69 u70 u71 u72 u73 u74 u75 u76 u77 u78 u79 u80 u81 u82 u83 u84 u85 u86 u87 u88 u89 u90 u91 u92 u93 u94 u95 u96 u97 u98 u99 u100 u101 u102 u103 u104 u105 u106 u107 u108 u109 u110 u111 u112 u113 u114 u115 u116 u117 u118 u119 u120 u121 u122 u123 u124 u125 u126 u127 u128 u129 u130 u131 u132 u133 u134 u135 u136 u137 u138 u139 u140 u141 u142 u143 u144 u145 u146 u147 u148 u149 u150 u151 u152 u153 u154 u155 u156 u157 u158 u159 u160 u161 u162 u163 u164 u165 u166 u167 u168 u169 u170 u171 u172 u173 u174 u175 u176 u177 u178 u179 u180 u181 u182 u183 u184 u185 u186 u187 u188 u189 u190 u191 u192 u193 : Value}
    {bp po mp pc br ro rc k : Nat} {rr : Int} (w : World)
    (HP : RowKit.Hid (∀ wx : World, Below w.heap.size w wx → wx.cell? ⟨bp, po + k * 4 + 1, none⟩ = some (.int .i64 0) ∧ wx.cell? ⟨bp, po + k * 4 + 2, none⟩ = some (.int .i32 rr) ∧ bp < wx.heap.size)) (hk : k < mp) (hmp : mp ≤ 400) (hrc : 1 < rc)
    (HC : RowKit.Hid (∀ wx : World, Below w.heap.size w wx → Calls Tryz.prog 15 #[.slice (some ⟨br, ro, none⟩) 0 rc] wx (fun e w' => e = .returned (.slice none 0 0) ∧ Below wx.heap.size wx w')))
    {K : Act → World → Prop} {Q : Exit → Act → World → Prop} (hK : ∀ (v172 v173 v174 v175 v176 v177 v178 v179 v180 v181 v182 v183 v184 v185 v186 v187 v188 : Value) (r8 : Value) (wx : World), wx.ownsRow w.heap.size 21 1 r8 0 [] → Below w.heap.size w wx → K ⟨#[u0, u1, u2, u3, u4, u5, u6, u7, u8, u9, u10, .slice (some ⟨bp, po, none⟩) mp pc, u12, r8, u14, .int .i64 (k : Int), u16, u17, u18, u19, u20, u21, u22, u23, u24, u25, u26, u27, u28, u29, u30, u31, u32, u33, u34, u35, u36, u37, u38, u39, u40, u41, u42, u43, u44, u45, u46, u47, u48, u49, u50, u51, u52, u53, u54, u55, u56, u57, u58, u59, u60, u61, u62, u63, u64, u65, u66, u67, u68, u69, u70, u71, u72, u73, u74, u75, u76, u77, u78, u79, u80, u81, u82, u83, u84, u85, u86, u87, u88, u89, u90, u91, u92, u93, u94, u95, u96, u97, u98, u99, u100, u101, u102, u103, u104, u105, u106, u107, u108, u109, u110, u111, u112, u113, u114, u115, u116, u117, u118, u119, u120, u121, u122, u123, u124, u125, u126, u127, u128, u129, u130, u131, u132, u133, u134, u135, u136, u137, u138, u139, u140, u141, u142, u143, u144, u145, u146, u147, u148, u149, u150, u151, u152, u153, u154, u155, u156, u157, u158, u159, u160, u161, u162, u163, u164, u165, u166, u167, u168, u169, u170, u171, v172, v173, v174, v175, v176, v177, v178, v179, v180, v181, v182, v183, v184, v185, v186, v187, v188, u189, u190, u191, u192, u193], []⟩ wx) :
    Code.wp Tryz.prog (regVp 30) (Exit.then K Q) ⟨#[u0, u1, u2, u3, u4, u5, u6, u7, u8, u9, u10, .slice (some ⟨bp, po, none⟩) mp pc, u12, .slice (some ⟨br, ro, none⟩) 1 rc, u14, .int .i64 (k : Int), u16, u17, u18, u19, u20, u21, u22, u23, u24, u25, u26, u27, u28, u29, u30, u31, u32, u33, u34, u35, u36, u37, u38, u39, u40, u41, u42, u43, u44, u45, u46, u47, u48, u49, u50, u51, u52, u53, u54, u55, u56, u57, u58, u59, u60, u61, u62, u63, u64, u65, u66, u67, u68, u69, u70, u71, u72, u73, u74, u75, u76, u77, u78, u79, u80, u81, u82, u83, u84, u85, u86, u87, u88, u89, u90, u91, u92, u93, u94, u95, u96, u97, u98, u99, u100, u101, u102, u103, u104, u105, u106, u107, u108, u109, u110, u111, u112, u113, u114, u115, u116, u117, u118, u119, u120, u121, u122, u123, u124, u125, u126, u127, u128, u129, u130, u131, u132, u133, u134, u135, u136, u137, u138, u139, u140, u141, u142, u143, u144, u145, u146, u147, u148, u149, u150, u151, u152, u153, u154, u155, u156, u157, u158, u159, u160, u161, u162, u163, u164, u165, u166, u167, u168, u169, u170, u171, u172, u173, u174, u175, u176, u177, u178, u179, u180, u181, u182, u183, u184, u185, u186, u187, u188, u189, u190, u191, u192, u193], []⟩ w := by
  have HK := Lib.hid hK
  clear hK
  have g1 : (k : Int) < (mp : Int) := by omega
  have g2 : (0 : Int) ≤ (k : Int) := by omega
  have g6 : (mp : Int) ≤ 400 := by omega
  have hw1 : IntKind.i64.wrap ((0 : Int) + 1) = 1 := by decide
  have hw2 : IntKind.i64.wrap (1 : Int) = 1 := by decide
  have g7 : (1 : Int) ≤ (rc : Int) := by omega
  have g8 : 1 ≤ rc := by omega
  have g9 : ¬ rc = 1 := by omega
  clear hrc
  obtain ⟨z0, z1, zl⟩ := HP.out w (Below.refl _ _)
  clear hk hmp
  conv => arg 2; whnf
  go_region_held3 (fun w' => w'.cell? ⟨bp, po + k * 4 + 1, none⟩ = some (.int .i64 0) ∧ w'.cell? ⟨bp, po + k * 4 + 2, none⟩ = some (.int .i32 rr)) (first | exact ⟨(HP.out _ (by first | exact hb9 | exact hb8 | exact hb3 | exact runs_first w | exact runs_second w _ | exact runs_third w _ | exact hb3.alloc hb3.size _ | exact hb3.drew | exact (hb3.alloc hb3.size _).drew | exact hb8.drew)).1, (HP.out _ (by first | exact hb9 | exact hb8 | exact hb3 | exact runs_first w | exact runs_second w _ | exact runs_third w _ | exact hb3.alloc hb3.size _ | exact hb3.drew | exact (hb3.alloc hb3.size _).drew | exact hb8.drew)).2.1⟩ | fail) (first
    | (go_at_call 15; refine (HC.out _ (by first | exact runs_first w | exact runs_second w _ | exact runs_third w _)).mono ?_; rintro x3 w3 ⟨rfl, hb3'⟩; have hb3 := (Below.refl w.heap.size w).drew.trans (hb3'.mono (Nat.le_refl _)))
    | fail)
  all_goals
    first | exact HK.out _ _ _ _ _ _ _ _ _ _ _ _ _ _ _ _ _ _ _ (World.ownsRow_nil _ _ _ _) hb3 | (go_wp2_with fail; exact HK.out _ _ _ _ _ _ _ _ _ _ _ _ _ _ _ _ _ _ _ (World.ownsRow_nil _ _ _ _) hb3)

set_option maxRecDepth 100000 in
set_option maxHeartbeats 8000000 in
theorem vp_r26n {u0 u1 u2 u3 u4 u5 u6 u7 u8 u9 u10 u12 u14 u16 u17 u18 u19 u20 u21 u22 u23 u24 u25 u26 u27 u28 u29 u30 u31 u32 u33 u34 u35 u36 u37 u38 u39 u40 u41 u42 u43 u44 u45 u46 u47 u48 u49 u50 u51 u52 u53 u54 u55 u56 u57 u58 u59 u60 u61 u62 u63 u64 u65 u66 u67 u68 u69 u70 u71 u72 u73 u74 u75 u76 u77 u78 u79 u80 u81 u82 u83 u84 u85 u86 u87 u88 u89 u90 u91 u92 u93 u94 u95 u96 u97 u98 u99 u100 u101 u102 u103 u104 u105 u106 u107 u108 u109 u110 u111 u112 u113 u114 u115 u116 u117 u118 u119 u120 u121 u122 u123 u124 u125 u126 u127 u128 u129 u130 u131 u132 u133 u134 u135 u136 u137 u138 u139 u140 u141 u142 u143 u144 u145 u146 u147 u148 u149 u150 u151 u152 u153 u154 u155 u156 u157 u158 u159 u160 u161 u162 u163 u164 u165 u166 u167 u168 u169 u170 u171 u172 u173 u174 u175 u176 u177 u178 u179 u180 u181 u182 u183 u184 u185 u186 u187 u188 u189 u190 u191 u192 u193 : Value}
    {bp po mp pc k : Nat} {rr : Int} (w : World)
    (HP : RowKit.Hid (∀ wx : World, Below w.heap.size w wx → wx.cell? ⟨bp, po + k * 4 + 1, none⟩ = some (.int .i64 ((0 : Nat) : Int)) ∧ wx.cell? ⟨bp, po + k * 4 + 2, none⟩ = some (.int .i32 rr) ∧ bp < wx.heap.size)) (hk : k < mp) (hmp : mp ≤ 400)
    (HC : RowKit.Hid (∀ wx : World, Below w.heap.size w wx → Calls Tryz.prog 15 #[.slice none 0 0] wx (CprPost w [] 0 wx)))
    {K : Act → World → Prop} {Q : Exit → Act → World → Prop} (hK : ∀ (v121 v122 v123 v124 v125 v126 v127 v128 v129 v130 v131 v132 v133 v134 v135 v136 v137 v138 v139 v140 v141 v142 v143 : Value) (r8 : Value) (wx : World), wx.ownsRow w.heap.size 21 1 r8 1 (rv [rr]) → Below w.heap.size w wx → K ⟨#[u0, u1, u2, u3, u4, u5, u6, u7, u8, u9, u10, .slice (some ⟨bp, po, none⟩) mp pc, u12, r8, u14, .int .i64 (k : Int), u16, u17, u18, u19, u20, u21, u22, u23, u24, u25, u26, u27, u28, u29, u30, u31, u32, u33, u34, u35, u36, u37, u38, u39, u40, u41, u42, u43, u44, u45, u46, u47, u48, u49, u50, u51, u52, u53, u54, u55, u56, u57, u58, u59, u60, u61, u62, u63, u64, u65, u66, u67, u68, u69, u70, u71, u72, u73, u74, u75, u76, u77, u78, u79, u80, u81, u82, u83, u84, u85, u86, u87, u88, u89, u90, u91, u92, u93, u94, u95, u96, u97, u98, u99, u100, u101, u102, u103, u104, u105, u106, u107, u108, u109, u110, u111, u112, u113, u114, u115, u116, u117, u118, u119, u120, v121, v122, v123, v124, v125, v126, v127, v128, v129, v130, v131, v132, v133, v134, v135, v136, v137, v138, v139, v140, v141, v142, v143, u144, u145, u146, u147, u148, u149, u150, u151, u152, u153, u154, u155, u156, u157, u158, u159, u160, u161, u162, u163, u164, u165, u166, u167, u168, u169, u170, u171, u172, u173, u174, u175, u176, u177, u178, u179, u180, u181, u182, u183, u184, u185, u186, u187, u188, u189, u190, u191, u192, u193], []⟩ wx) :
    Code.wp Tryz.prog (regVp 26) (Exit.then K Q) ⟨#[u0, u1, u2, u3, u4, u5, u6, u7, u8, u9, u10, .slice (some ⟨bp, po, none⟩) mp pc, u12, .slice none 0 0, u14, .int .i64 (k : Int), u16, u17, u18, u19, u20, u21, u22, u23, u24, u25, u26, u27, u28, u29, u30, u31, u32, u33, u34, u35, u36, u37, u38, u39, u40, u41, u42, u43, u44, u45, u46, u47, u48, u49, u50, u51, u52, u53, u54, u55, u56, u57, u58, u59, u60, u61, u62, u63, u64, u65, u66, u67, u68, u69, u70, u71, u72, u73, u74, u75, u76, u77, u78, u79, u80, u81, u82, u83, u84, u85, u86, u87, u88, u89, u90, u91, u92, u93, u94, u95, u96, u97, u98, u99, u100, u101, u102, u103, u104, u105, u106, u107, u108, u109, u110, u111, u112, u113, u114, u115, u116, u117, u118, u119, u120, u121, u122, u123, u124, u125, u126, u127, u128, u129, u130, u131, u132, u133, u134, u135, u136, u137, u138, u139, u140, u141, u142, u143, u144, u145, u146, u147, u148, u149, u150, u151, u152, u153, u154, u155, u156, u157, u158, u159, u160, u161, u162, u163, u164, u165, u166, u167, u168, u169, u170, u171, u172, u173, u174, u175, u176, u177, u178, u179, u180, u181, u182, u183, u184, u185, u186, u187, u188, u189, u190, u191, u192, u193], []⟩ w := by
  have HK := Lib.hid hK
  clear hK
  obtain ⟨i0, hi, hz0, hz1, hz2⟩ := info_parts Tryz.info21
  unfold CprPost at HC
  have g1 : (k : Int) < (mp : Int) := by omega
  have g2 : (0 : Int) ≤ (k : Int) := by omega
  have g6 : (mp : Int) ≤ 400 := by omega
  obtain ⟨z0, z1, zl⟩ := HP.out w (Below.refl _ _)
  have HM1 := Lib.hid (show 0 + 1 ≤ maxLen from by unfold maxLen; omega)
  have HM2 := Lib.hid (show (0 + 1) * 4 ≤ 140737488355328 from by omega)
  clear hk hmp
  conv => arg 2; whnf
  go_region_held3 (fun w' => w'.cell? ⟨bp, po + k * 4 + 1, none⟩ = some (.int .i64 ((0 : Nat) : Int)) ∧ w'.cell? ⟨bp, po + k * 4 + 2, none⟩ = some (.int .i32 rr)) (first | exact ⟨(HP.out _ (by first | exact hb9 | exact hb8 | exact hb3 | exact runs_first w | exact runs_second w _ | exact runs_third w _ | exact hb3.alloc hb3.size _ | exact hb3.drew | exact (hb3.alloc hb3.size _).drew | exact hb8.drew)).1, (HP.out _ (by first | exact hb9 | exact hb8 | exact hb3 | exact runs_first w | exact runs_second w _ | exact runs_third w _ | exact hb3.alloc hb3.size _ | exact hb3.drew | exact (hb3.alloc hb3.size _).drew | exact hb8.drew)).2.1⟩ | fail) (first
    | (go_at_call 15; refine (HC.out _ (by first | exact runs_first w | exact runs_second w _ | exact runs_third w _)).mono ?_; rintro x3 w3 ⟨a3, c3, rfl, hc3, hown3, hb3', hb3⟩)
    | (refine step_append_lies _ (by rfl) _ _ _ (by rfl) w.heap.size 21 i0 (.int .i32 0) 1 4 Tryz.underlying40 hi hz0 hz1 hz2 (by rfl) (by decide) (.slice a3 0 c3) 0 _ (by rfl) (hown3.alloc _) ⟨w3.heap.size, 0, none⟩ 1 1 [.int .i32 rr] (by rfl) (by rfl) (cell_one_new _ _ _) (oneInt _ _) (by omega) HM1.out HM2.out (by have := hb3.size; simp; omega) _ rfl ?_; intro g8 c8 w8 hown8 hgrow8 hat8 hlt8; have hcap8 := own_capR hown8; have hb8 := (hb3.alloc hb3.size _).grown hgrow8 (by have := hb3.size; simp; omega) (fun q hq => own_ge hown3 q hq))
    | (refine step_append_lies _ (by rfl) _ _ _ (by rfl) w.heap.size 21 i0 (.int .i32 0) 1 4 Tryz.underlying40 hi hz0 hz1 hz2 (by rfl) (by decide) (.slice a3 0 c3) 0 _ (by rfl) hown3 ⟨w.heap.size, 0, none⟩ 1 1 [.int .i32 rr] (by rfl) (by rfl) (news_one hb3') (oneInt _ _) (by omega) HM1.out HM2.out hb3.size _ rfl ?_; intro g8 c8 w8 hown8 hgrow8 hat8 hlt8; have hcap8 := own_capR hown8; have hb8 := hb3.grown hgrow8 hb3.size (fun q hq => own_ge hown3 q hq))
    | fail)
  all_goals
    first | exact HK.out _ _ _ _ _ _ _ _ _ _ _ _ _ _ _ _ _ _ _ _ _ _ _ _ _ (by simpa [rv] using hown8) hb8 | (go_wp2_with fail; exact HK.out _ _ _ _ _ _ _ _ _ _ _ _ _ _ _ _ _ _ _ _ _ _ _ _ _ (by simpa [rv] using hown8) hb8)

set_option maxRecDepth 100000 in
set_option maxHeartbeats 8000000 in
theorem vp_r26a {u0 u1 u2 u3 u4 u5 u6 u7 u8 u9 u10 u12 u14 u16 u17 u18 u19 u20 u21 u22 u23 u24 u25 u26 u27 u28 u29 u30 u31 u32 u33 u34 u35 u36 u37 u38 u39 u40 u41 u42 u43 u44 u45 u46 u47 u48 u49 u50 u51 u52 u53 u54 u55 u56 u57 u58 u59 u60 u61 u62 u63 u64 u65 u66 u67 u68 u69 u70 u71 u72 u73 u74 u75 u76 u77 u78 u79 u80 u81 u82 u83 u84 u85 u86 u87 u88 u89 u90 u91 u92 u93 u94 u95 u96 u97 u98 u99 u100 u101 u102 u103 u104 u105 u106 u107 u108 u109 u110 u111 u112 u113 u114 u115 u116 u117 u118 u119 u120 u121 u122 u123 u124 u125 u126 u127 u128 u129 u130 u131 u132 u133 u134 u135 u136 u137 u138 u139 u140 u141 u142 u143 u144 u145 u146 u147 u148 u149 u150 u151 u152 u153 u154 u155 u156 u157 u158 u159 u160 u161 u162 u163 u164 u165 u166 u167 u168 u169 u170 u171 u172 u173 u174 u175 u176 u177 u178 u179 u180 u181 u182 u183 u184 u185 u186 u187 u188 u189 u190 u191 u192 u193 : Value}
    {bp po mp pc br ro n rc k at_ : Nat} {rr : Int} (w : World)
    (HP : RowKit.Hid (∀ wx : World, Below w.heap.size w wx → wx.cell? ⟨bp, po + k * 4 + 1, none⟩ = some (.int .i64 (at_ : Int)) ∧ wx.cell? ⟨bp, po + k * 4 + 2, none⟩ = some (.int .i32 rr) ∧ bp < wx.heap.size)) (hk : k < mp) (hmp : mp ≤ 400)
    (hat : at_ < n) (hnc : n ≤ rc) (hn : n ≤ 1000) {F : List Int} (hF : F.length = n) (HS : RowKit.Hid (∀ wx : World, Below w.heap.size w wx → RunesAt wx (some ⟨br, ro, none⟩) F))
    (HC : RowKit.Hid (∀ wx : World, Below w.heap.size w wx → Calls Tryz.prog 15 #[.slice (some ⟨br, ro, none⟩) at_ rc] wx (CprPost w (F.take at_) at_ wx)))
    {K : Act → World → Prop} {Q : Exit → Act → World → Prop} (hK : ∀ (v121 v122 v123 v124 v125 v126 v127 v128 v129 v130 v131 v132 v133 v134 v135 v136 v137 v138 v139 v140 v141 v142 v143 : Value) (r8 : Value) (wx : World), wx.ownsRow w.heap.size 21 1 r8 (F.take at_ ++ [rr] ++ F.drop at_).length (rv (F.take at_ ++ [rr] ++ F.drop at_)) → Below w.heap.size w wx → K ⟨#[u0, u1, u2, u3, u4, u5, u6, u7, u8, u9, u10, .slice (some ⟨bp, po, none⟩) mp pc, u12, r8, u14, .int .i64 (k : Int), u16, u17, u18, u19, u20, u21, u22, u23, u24, u25, u26, u27, u28, u29, u30, u31, u32, u33, u34, u35, u36, u37, u38, u39, u40, u41, u42, u43, u44, u45, u46, u47, u48, u49, u50, u51, u52, u53, u54, u55, u56, u57, u58, u59, u60, u61, u62, u63, u64, u65, u66, u67, u68, u69, u70, u71, u72, u73, u74, u75, u76, u77, u78, u79, u80, u81, u82, u83, u84, u85, u86, u87, u88, u89, u90, u91, u92, u93, u94, u95, u96, u97, u98, u99, u100, u101, u102, u103, u104, u105, u106, u107, u108, u109, u110, u111, u112, u113, u114, u115, u116, u117, u118, u119, u120, v121, v122, v123, v124, v125, v126, v127, v128, v129, v130, v131, v132, v133, v134, v135, v136, v137, v138, v139, v140, v141, v142, v143, u144, u145, u146, u147, u148, u149, u150, u151, u152, u153, u154, u155, u156, u157, u158, u159, u160, u161, u162, u163, u164, u165, u166, u167, u168, u169, u170, u171, u172, u173, u174, u175, u176, u177, u178, u179, u180, u181, u182, u183, u184, u185, u186, u187, u188, u189, u190, u191, u192, u193], []⟩ wx) :
    Code.wp Tryz.prog (regVp 26) (Exit.then K Q) ⟨#[u0, u1, u2, u3, u4, u5, u6, u7, u8, u9, u10, .slice (some ⟨bp, po, none⟩) mp pc, u12, .slice (some ⟨br, ro, none⟩) n rc, u14, .int .i64 (k : Int), u16, u17, u18, u19, u20, u21, u22, u23, u24, u25, u26, u27, u28, u29, u30, u31, u32, u33, u34, u35, u36, u37, u38, u39, u40, u41, u42, u43, u44, u45, u46, u47, u48, u49, u50, u51, u52, u53, u54, u55, u56, u57, u58, u59, u60, u61, u62, u63, u64, u65, u66, u67, u68, u69, u70, u71, u72, u73, u74, u75, u76, u77, u78, u79, u80, u81, u82, u83, u84, u85, u86, u87, u88, u89, u90, u91, u92, u93, u94, u95, u96, u97, u98, u99, u100, u101, u102, u103, u104, u105, u106, u107, u108, u109, u110, u111, u112, u113, u114, u115, u116, u117, u118, u119, u120, u121, u122, u123, u124, u125, u126, u127, u128, u129, u130, u131, u132, u133, u134, u135, u136, u137, u138, u139, u140, u141, u142, u143, u144, u145, u146, u147, u148, u149, u150, u151, u152, u153, u154, u155, u156, u157, u158, u159, u160, u161, u162, u163, u164, u165, u166, u167, u168, u169, u170, u171, u172, u173, u174, u175, u176, u177, u178, u179, u180, u181, u182, u183, u184, u185, u186, u187, u188, u189, u190, u191, u192, u193], []⟩ w := by
  have HK := Lib.hid hK
  clear hK
  obtain ⟨i0, hi, hz0, hz1, hz2⟩ := info_parts Tryz.info21
  unfold CprPost at HC
  have g1 : (k : Int) < (mp : Int) := by omega
  have g2 : (0 : Int) ≤ (k : Int) := by omega
  have g6 : (mp : Int) ≤ 400 := by omega
  have g3 : (at_ : Int) ≤ (n : Int) := by omega
  have g4 : (0 : Int) ≤ (at_ : Int) := by omega
  have g5 : (n : Int) ≤ 1000 := by omega
  have g7 : (n : Int) ≤ (rc : Int) := by omega
  have g8_ : at_ ≤ rc := by omega
  obtain ⟨z0, z1, zl⟩ := HP.out w (Below.refl _ _)
  have HM1 := Lib.hid (show at_ + 1 ≤ maxLen from by unfold maxLen; omega)
  have HM2 := Lib.hid (show (at_ + 1) * 4 ≤ 140737488355328 from by omega)
  have HM3 := Lib.hid (show at_ + 1 + (n - at_) ≤ maxLen from by unfold maxLen; omega)
  have HM4 := Lib.hid (show (at_ + 1 + (n - at_)) * 4 ≤ 140737488355328 from by omega)
  have HDL := Lib.hid (show (rv (F.drop at_)).length = (n - at_) * 1 from by rw [rv_len, List.length_drop]; omega)
  have HLF := Lib.hid (show n - at_ = F.length - at_ from by omega)
  have HLA := Lib.hid (show at_ ≤ F.length from by omega)
  have HP0 := Lib.hid (show 0 < n - at_ from by omega)
  have hcc : ¬ rc = at_ := by omega
  have hw0 : at_ ≤ n := by omega
  clear hk hmp hat hn
  conv => arg 2; whnf
  go_region_held3 (fun w' => w'.cell? ⟨bp, po + k * 4 + 1, none⟩ = some (.int .i64 (at_ : Int)) ∧ w'.cell? ⟨bp, po + k * 4 + 2, none⟩ = some (.int .i32 rr)) (first | exact ⟨(HP.out _ (by first | exact hb9 | exact hb8 | exact hb3 | exact runs_first w | exact runs_second w _ | exact runs_third w _ | exact hb3.alloc hb3.size _ | exact hb3.drew | exact (hb3.alloc hb3.size _).drew | exact hb8.drew)).1, (HP.out _ (by first | exact hb9 | exact hb8 | exact hb3 | exact runs_first w | exact runs_second w _ | exact runs_third w _ | exact hb3.alloc hb3.size _ | exact hb3.drew | exact (hb3.alloc hb3.size _).drew | exact hb8.drew)).2.1⟩ | fail) (first
    | (go_at_call 15; refine (HC.out _ (by first | exact runs_first w | exact runs_second w _ | exact runs_third w _)).mono ?_; rintro x3 w3 ⟨a3, c3, rfl, hc3, hown3, hb3', hb3⟩)
    | (refine step_append_lies _ (by rfl) _ _ _ (by rfl) w.heap.size 21 i0 (.int .i32 0) 1 4 Tryz.underlying40 hi hz0 hz1 hz2 (by rfl) (by decide) (.slice a3 at_ c3) at_ _ (by rfl) (hown3.alloc _) ⟨w3.heap.size, 0, none⟩ 1 1 [.int .i32 rr] (by rfl) (by rfl) (cell_one_new _ _ _) (oneInt _ _) (by omega) HM1.out HM2.out (by have := hb3.size; simp; omega) _ rfl ?_; intro g8 c8 w8 hown8 hgrow8 hat8 hlt8; have hcap8 := own_capR hown8; have hb8 := (hb3.alloc hb3.size _).grown hgrow8 (by have := hb3.size; simp; omega) (fun q hq => own_ge hown3 q hq))
    | (refine step_append_lies _ (by rfl) _ _ _ (by rfl) w.heap.size 21 i0 (.int .i32 0) 1 4 Tryz.underlying40 hi hz0 hz1 hz2 (by rfl) (by decide) (.slice a3 at_ c3) at_ _ (by rfl) hown3 ⟨w.heap.size, 0, none⟩ 1 1 [.int .i32 rr] (by rfl) (by rfl) (news_one hb3') (oneInt _ _) (by omega) HM1.out HM2.out hb3.size _ rfl ?_; intro g8 c8 w8 hown8 hgrow8 hat8 hlt8; have hcap8 := own_capR hown8; have hb8 := hb3.grown hgrow8 hb3.size (fun q hq => own_ge hown3 q hq))
    | (refine step_append_lies _ (by rfl) _ _ _ (by rfl) w.heap.size 21 i0 (.int .i32 0) 1 4 Tryz.underlying40 hi hz0 hz1 hz2 (by rfl) (by decide) (.slice (some ⟨g8, 0, none⟩) (at_ + 1) c8) (at_ + 1) _ (by rfl) hown8 ⟨br, ro + at_, none⟩ (n - at_) (rc - at_) (rv (F.drop at_)) (by rfl) HDL.out (runes_tail (HS.out w8 hb8) at_) (ints_oneCell .i32 _) HP0.out HM3.out HM4.out hb8.size _ rfl ?_; intro g9 c9 w9 hown9 hgrow9 hat9 hlt9; have hb9 := hb8.grown hgrow9 hb8.size (fun q hq => own_ge hown8 q hq))
    | fail)
  all_goals
    first | exact HK.out _ _ _ _ _ _ _ _ _ _ _ _ _ _ _ _ _ _ _ _ _ _ _ _ _ (run_ins HLF.out HLA.out hown9) hb9 | (go_wp2_with fail; exact HK.out _ _ _ _ _ _ _ _ _ _ _ _ _ _ _ _ _ _ _ _ _ _ _ _ _ (run_ins HLF.out HLA.out hown9) hb9)

set_option maxRecDepth 100000 in
set_option maxHeartbeats 8000000 in
theorem vp_r26b {u0 u1 u2 u3 u4 u5 u6 u7 u8 u9 u10 u12 u14 u16 u17 u18 u19 u20 u21 u22 u23 u24 u25 u26 u27 u28 u29 u30 u31 u32 u33 u34 u35 u36 u37 u38 u39 u40 u41 u42 u43 u44 u45 u46 u47 u48 u49 u50 u51 u52 u53 u54 u55 u56 u57 u58 u59 u60 u61 u62 u63 u64 u65 u66 u67 u68 u69 u70 u71 u72 u73 u74 u75 u76 u77 u78 u79 u80 u81 u82 u83 u84 u85 u86 u87 u88 u89 u90 u91 u92 u93 u94 u95 u96 u97 u98 u99 u100 u101 u102 u103 u104 u105 u106 u107 u108 u109 u110 u111 u112 u113 u114 u115 u116 u117 u118 u119 u120 u121 u122 u123 u124 u125 u126 u127 u128 u129 u130 u131 u132 u133 u134 u135 u136 u137 u138 u139 u140 u141 u142 u143 u144 u145 u146 u147 u148 u149 u150 u151 u152 u153 u154 u155 u156 u157 u158 u159 u160 u161 u162 u163 u164 u165 u166 u167 u168 u169 u170 u171 u172 u173 u174 u175 u176 u177 u178 u179 u180 u181 u182 u183 u184 u185 u186 u187 u188 u189 u190 u191 u192 u193 : Value}
    {bp po mp pc br ro n rc k at_ : Nat} {rr : Int} (w : World)
    (HP : RowKit.Hid (∀ wx : World, Below w.heap.size w wx → wx.cell? ⟨bp, po + k * 4 + 1, none⟩ = some (.int .i64 (at_ : Int)) ∧ wx.cell? ⟨bp, po + k * 4 + 2, none⟩ = some (.int .i32 rr) ∧ bp < wx.heap.size)) (hk : k < mp) (hmp : mp ≤ 400)
    (hat : at_ = n) (hcn : n = rc) (hnc : n ≤ rc) (hn : n ≤ 1000) {F : List Int} (hF : F.length = n) (_HS : RowKit.Hid (∀ wx : World, Below w.heap.size w wx → RunesAt wx (some ⟨br, ro, none⟩) F))
    (HC : RowKit.Hid (∀ wx : World, Below w.heap.size w wx → Calls Tryz.prog 15 #[.slice (some ⟨br, ro, none⟩) at_ rc] wx (CprPost w (F.take at_) at_ wx)))
    {K : Act → World → Prop} {Q : Exit → Act → World → Prop} (hK : ∀ (v121 v122 v123 v124 v125 v126 v127 v128 v129 v130 v131 v132 v133 v134 v135 v136 v137 v138 v139 v140 v141 v142 v143 : Value) (r8 : Value) (wx : World), wx.ownsRow w.heap.size 21 1 r8 (F.take at_ ++ [rr] ++ F.drop at_).length (rv (F.take at_ ++ [rr] ++ F.drop at_)) → Below w.heap.size w wx → K ⟨#[u0, u1, u2, u3, u4, u5, u6, u7, u8, u9, u10, .slice (some ⟨bp, po, none⟩) mp pc, u12, r8, u14, .int .i64 (k : Int), u16, u17, u18, u19, u20, u21, u22, u23, u24, u25, u26, u27, u28, u29, u30, u31, u32, u33, u34, u35, u36, u37, u38, u39, u40, u41, u42, u43, u44, u45, u46, u47, u48, u49, u50, u51, u52, u53, u54, u55, u56, u57, u58, u59, u60, u61, u62, u63, u64, u65, u66, u67, u68, u69, u70, u71, u72, u73, u74, u75, u76, u77, u78, u79, u80, u81, u82, u83, u84, u85, u86, u87, u88, u89, u90, u91, u92, u93, u94, u95, u96, u97, u98, u99, u100, u101, u102, u103, u104, u105, u106, u107, u108, u109, u110, u111, u112, u113, u114, u115, u116, u117, u118, u119, u120, v121, v122, v123, v124, v125, v126, v127, v128, v129, v130, v131, v132, v133, v134, v135, v136, v137, v138, v139, v140, v141, v142, v143, u144, u145, u146, u147, u148, u149, u150, u151, u152, u153, u154, u155, u156, u157, u158, u159, u160, u161, u162, u163, u164, u165, u166, u167, u168, u169, u170, u171, u172, u173, u174, u175, u176, u177, u178, u179, u180, u181, u182, u183, u184, u185, u186, u187, u188, u189, u190, u191, u192, u193], []⟩ wx) :
    Code.wp Tryz.prog (regVp 26) (Exit.then K Q) ⟨#[u0, u1, u2, u3, u4, u5, u6, u7, u8, u9, u10, .slice (some ⟨bp, po, none⟩) mp pc, u12, .slice (some ⟨br, ro, none⟩) n rc, u14, .int .i64 (k : Int), u16, u17, u18, u19, u20, u21, u22, u23, u24, u25, u26, u27, u28, u29, u30, u31, u32, u33, u34, u35, u36, u37, u38, u39, u40, u41, u42, u43, u44, u45, u46, u47, u48, u49, u50, u51, u52, u53, u54, u55, u56, u57, u58, u59, u60, u61, u62, u63, u64, u65, u66, u67, u68, u69, u70, u71, u72, u73, u74, u75, u76, u77, u78, u79, u80, u81, u82, u83, u84, u85, u86, u87, u88, u89, u90, u91, u92, u93, u94, u95, u96, u97, u98, u99, u100, u101, u102, u103, u104, u105, u106, u107, u108, u109, u110, u111, u112, u113, u114, u115, u116, u117, u118, u119, u120, u121, u122, u123, u124, u125, u126, u127, u128, u129, u130, u131, u132, u133, u134, u135, u136, u137, u138, u139, u140, u141, u142, u143, u144, u145, u146, u147, u148, u149, u150, u151, u152, u153, u154, u155, u156, u157, u158, u159, u160, u161, u162, u163, u164, u165, u166, u167, u168, u169, u170, u171, u172, u173, u174, u175, u176, u177, u178, u179, u180, u181, u182, u183, u184, u185, u186, u187, u188, u189, u190, u191, u192, u193], []⟩ w := by
  have HK := Lib.hid hK
  clear hK
  obtain ⟨i0, hi, hz0, hz1, hz2⟩ := info_parts Tryz.info21
  unfold CprPost at HC
  have g1 : (k : Int) < (mp : Int) := by omega
  have g2 : (0 : Int) ≤ (k : Int) := by omega
  have g6 : (mp : Int) ≤ 400 := by omega
  have g3 : (at_ : Int) ≤ (n : Int) := by omega
  have g4 : (0 : Int) ≤ (at_ : Int) := by omega
  have g5 : (n : Int) ≤ 1000 := by omega
  have g7 : (n : Int) ≤ (rc : Int) := by omega
  have g8_ : at_ ≤ rc := by omega
  obtain ⟨z0, z1, zl⟩ := HP.out w (Below.refl _ _)
  have HM1 := Lib.hid (show at_ + 1 ≤ maxLen from by unfold maxLen; omega)
  have HM2 := Lib.hid (show (at_ + 1) * 4 ≤ 140737488355328 from by omega)
  have hd0 : F.drop at_ = [] := List.drop_eq_nil_of_le (by omega)
  have HD0 := Lib.hid hd0
  have HLA := Lib.hid (show at_ ≤ F.length from by omega)
  have HRC := Lib.hid (show at_ = n ∧ at_ = rc from by omega)
  have HX1 := HRC.out.1
  have HX2 : n = rc := by have := HRC.out.2; omega
  clear HRC
  subst HX2
  subst HX1
  clear hk hmp hat hn hd0
  conv => arg 2; whnf
  go_region_held3 (fun w' => w'.cell? ⟨bp, po + k * 4 + 1, none⟩ = some (.int .i64 (at_ : Int)) ∧ w'.cell? ⟨bp, po + k * 4 + 2, none⟩ = some (.int .i32 rr)) (first | exact ⟨(HP.out _ (by first | exact hb9 | exact hb8 | exact hb3 | exact runs_first w | exact runs_second w _ | exact runs_third w _ | exact hb3.alloc hb3.size _ | exact hb3.drew | exact (hb3.alloc hb3.size _).drew | exact hb8.drew)).1, (HP.out _ (by first | exact hb9 | exact hb8 | exact hb3 | exact runs_first w | exact runs_second w _ | exact runs_third w _ | exact hb3.alloc hb3.size _ | exact hb3.drew | exact (hb3.alloc hb3.size _).drew | exact hb8.drew)).2.1⟩ | fail) (first
    | (go_at_call 15; refine (HC.out _ (by first | exact runs_first w | exact runs_second w _ | exact runs_third w _)).mono ?_; rintro x3 w3 ⟨a3, c3, rfl, hc3, hown3, hb3', hb3⟩)
    | (refine step_append_lies _ (by rfl) _ _ _ (by rfl) w.heap.size 21 i0 (.int .i32 0) 1 4 Tryz.underlying40 hi hz0 hz1 hz2 (by rfl) (by decide) (.slice a3 at_ c3) at_ _ (by rfl) (hown3.alloc _) ⟨w3.heap.size, 0, none⟩ 1 1 [.int .i32 rr] (by rfl) (by rfl) (cell_one_new _ _ _) (oneInt _ _) (by omega) HM1.out HM2.out (by have := hb3.size; simp; omega) _ rfl ?_; intro g8 c8 w8 hown8 hgrow8 hat8 hlt8; have hcap8 := own_capR hown8; have hb8 := (hb3.alloc hb3.size _).grown hgrow8 (by have := hb3.size; simp; omega) (fun q hq => own_ge hown3 q hq))
    | (refine step_append_lies _ (by rfl) _ _ _ (by rfl) w.heap.size 21 i0 (.int .i32 0) 1 4 Tryz.underlying40 hi hz0 hz1 hz2 (by rfl) (by decide) (.slice a3 at_ c3) at_ _ (by rfl) hown3 ⟨w.heap.size, 0, none⟩ 1 1 [.int .i32 rr] (by rfl) (by rfl) (news_one hb3') (oneInt _ _) (by omega) HM1.out HM2.out hb3.size _ rfl ?_; intro g8 c8 w8 hown8 hgrow8 hat8 hlt8; have hcap8 := own_capR hown8; have hb8 := hb3.grown hgrow8 hb3.size (fun q hq => own_ge hown3 q hq))
    | fail)
  all_goals
    first | exact HK.out _ _ _ _ _ _ _ _ _ _ _ _ _ _ _ _ _ _ _ _ _ _ _ _ _ (run_ins0 HD0.out HLA.out hown8) hb8 | (go_wp2_with fail; exact HK.out _ _ _ _ _ _ _ _ _ _ _ _ _ _ _ _ _ _ _ _ _ _ _ _ _ (run_ins0 HD0.out HLA.out hown8) hb8)

set_option maxRecDepth 100000 in
set_option maxHeartbeats 8000000 in
theorem vp_r26c {u0 u1 u2 u3 u4 u5 u6 u7 u8 u9 u10 u12 u14 u16 u17 u18 u19 u20 u21 u22 u23 u24 u25 u26 u27 u28 u29 u30 u31 u32 u33 u34 u35 u36 u37 u38 u39 u40 u41 u42 u43 u44 u45 u46 u47 u48 u49 u50 u51 u52 u53 u54 u55 u56 u57 u58 u59 u60 u61 u62 u63 u64 u65 u66 u67 u68 u69 u70 u71 u72 u73 u74 u75 u76 u77 u78 u79 u80 u81 u82 u83 u84 u85 u86 u87 u88 u89 u90 u91 u92 u93 u94 u95 u96 u97 u98 u99 u100 u101 u102 u103 u104 u105 u106 u107 u108 u109 u110 u111 u112 u113 u114 u115 u116 u117 u118 u119 u120 u121 u122 u123 u124 u125 u126 u127 u128 u129 u130 u131 u132 u133 u134 u135 u136 u137 u138 u139 u140 u141 u142 u143 u144 u145 u146 u147 u148 u149 u150 u151 u152 u153 u154 u155 u156 u157 u158 u159 u160 u161 u162 u163 u164 u165 u166 u167 u168 u169 u170 u171 u172 u173 u174 u175 u176 u177 u178 u179 u180 u181 u182 u183 u184 u185 u186 u187 u188 u189 u190 u191 u192 u193 : Value}
    {bp po mp pc br ro n rc k at_ : Nat} {rr : Int} (w : World)
    (HP : RowKit.Hid (∀ wx : World, Below w.heap.size w wx → wx.cell? ⟨bp, po + k * 4 + 1, none⟩ = some (.int .i64 (at_ : Int)) ∧ wx.cell? ⟨bp, po + k * 4 + 2, none⟩ = some (.int .i32 rr) ∧ bp < wx.heap.size)) (hk : k < mp) (hmp : mp ≤ 400)
    (hat : at_ = n) (hcn : n < rc) (hnc : n ≤ rc) (hn : n ≤ 1000) {F : List Int} (hF : F.length = n) (_HS : RowKit.Hid (∀ wx : World, Below w.heap.size w wx → RunesAt wx (some ⟨br, ro, none⟩) F))
    (HC : RowKit.Hid (∀ wx : World, Below w.heap.size w wx → Calls Tryz.prog 15 #[.slice (some ⟨br, ro, none⟩) at_ rc] wx (CprPost w (F.take at_) at_ wx)))
    {K : Act → World → Prop} {Q : Exit → Act → World → Prop} (hK : ∀ (v121 v122 v123 v124 v125 v126 v127 v128 v129 v130 v131 v132 v133 v134 v135 v136 v137 v138 v139 v140 v141 v142 v143 : Value) (r8 : Value) (wx : World), wx.ownsRow w.heap.size 21 1 r8 (F.take at_ ++ [rr] ++ F.drop at_).length (rv (F.take at_ ++ [rr] ++ F.drop at_)) → Below w.heap.size w wx → K ⟨#[u0, u1, u2, u3, u4, u5, u6, u7, u8, u9, u10, .slice (some ⟨bp, po, none⟩) mp pc, u12, r8, u14, .int .i64 (k : Int), u16, u17, u18, u19, u20, u21, u22, u23, u24, u25, u26, u27, u28, u29, u30, u31, u32, u33, u34, u35, u36, u37, u38, u39, u40, u41, u42, u43, u44, u45, u46, u47, u48, u49, u50, u51, u52, u53, u54, u55, u56, u57, u58, u59, u60, u61, u62, u63, u64, u65, u66, u67, u68, u69, u70, u71, u72, u73, u74, u75, u76, u77, u78, u79, u80, u81, u82, u83, u84, u85, u86, u87, u88, u89, u90, u91, u92, u93, u94, u95, u96, u97, u98, u99, u100, u101, u102, u103, u104, u105, u106, u107, u108, u109, u110, u111, u112, u113, u114, u115, u116, u117, u118, u119, u120, v121, v122, v123, v124, v125, v126, v127, v128, v129, v130, v131, v132, v133, v134, v135, v136, v137, v138, v139, v140, v141, v142, v143, u144, u145, u146, u147, u148, u149, u150, u151, u152, u153, u154, u155, u156, u157, u158, u159, u160, u161, u162, u163, u164, u165, u166, u167, u168, u169, u170, u171, u172, u173, u174, u175, u176, u177, u178, u179, u180, u181, u182, u183, u184, u185, u186, u187, u188, u189, u190, u191, u192, u193], []⟩ wx) :
    Code.wp Tryz.prog (regVp 26) (Exit.then K Q) ⟨#[u0, u1, u2, u3, u4, u5, u6, u7, u8, u9, u10, .slice (some ⟨bp, po, none⟩) mp pc, u12, .slice (some ⟨br, ro, none⟩) n rc, u14, .int .i64 (k : Int), u16, u17, u18, u19, u20, u21, u22, u23, u24, u25, u26, u27, u28, u29, u30, u31, u32, u33, u34, u35, u36, u37, u38, u39, u40, u41, u42, u43, u44, u45, u46, u47, u48, u49, u50, u51, u52, u53, u54, u55, u56, u57, u58, u59, u60, u61, u62, u63, u64, u65, u66, u67, u68, u69, u70, u71, u72, u73, u74, u75, u76, u77, u78, u79, u80, u81, u82, u83, u84, u85, u86, u87, u88, u89, u90, u91, u92, u93, u94, u95, u96, u97, u98, u99, u100, u101, u102, u103, u104, u105, u106, u107, u108, u109, u110, u111, u112, u113, u114, u115, u116, u117, u118, u119, u120, u121, u122, u123, u124, u125, u126, u127, u128, u129, u130, u131, u132, u133, u134, u135, u136, u137, u138, u139, u140, u141, u142, u143, u144, u145, u146, u147, u148, u149, u150, u151, u152, u153, u154, u155, u156, u157, u158, u159, u160, u161, u162, u163, u164, u165, u166, u167, u168, u169, u170, u171, u172, u173, u174, u175, u176, u177, u178, u179, u180, u181, u182, u183, u184, u185, u186, u187, u188, u189, u190, u191, u192, u193], []⟩ w := by
  have HK := Lib.hid hK
  clear hK
  obtain ⟨i0, hi, hz0, hz1, hz2⟩ := info_parts Tryz.info21
  unfold CprPost at HC
  have g1 : (k : Int) < (mp : Int) := by omega
  have g2 : (0 : Int) ≤ (k : Int) := by omega
  have g6 : (mp : Int) ≤ 400 := by omega
  have g3 : (at_ : Int) ≤ (n : Int) := by omega
  have g4 : (0 : Int) ≤ (at_ : Int) := by omega
  have g5 : (n : Int) ≤ 1000 := by omega
  have g7 : (n : Int) ≤ (rc : Int) := by omega
  have g8_ : at_ ≤ rc := by omega
  obtain ⟨z0, z1, zl⟩ := HP.out w (Below.refl _ _)
  have HM1 := Lib.hid (show at_ + 1 ≤ maxLen from by unfold maxLen; omega)
  have HM2 := Lib.hid (show (at_ + 1) * 4 ≤ 140737488355328 from by omega)
  have hd0 : F.drop at_ = [] := List.drop_eq_nil_of_le (by omega)
  have HD0 := Lib.hid hd0
  have HLA := Lib.hid (show at_ ≤ F.length from by omega)
  have HRC := Lib.hid (show at_ = n from by omega)
  obtain rfl := HRC.out
  have hcc : ¬ rc = at_ := by omega
  clear hk hmp hat hn hd0
  conv => arg 2; whnf
  go_region_held3 (fun w' => w'.cell? ⟨bp, po + k * 4 + 1, none⟩ = some (.int .i64 (at_ : Int)) ∧ w'.cell? ⟨bp, po + k * 4 + 2, none⟩ = some (.int .i32 rr)) (first | exact ⟨(HP.out _ (by first | exact hb9 | exact hb8 | exact hb3 | exact runs_first w | exact runs_second w _ | exact runs_third w _ | exact hb3.alloc hb3.size _ | exact hb3.drew | exact (hb3.alloc hb3.size _).drew | exact hb8.drew)).1, (HP.out _ (by first | exact hb9 | exact hb8 | exact hb3 | exact runs_first w | exact runs_second w _ | exact runs_third w _ | exact hb3.alloc hb3.size _ | exact hb3.drew | exact (hb3.alloc hb3.size _).drew | exact hb8.drew)).2.1⟩ | fail) (first
    | (go_at_call 15; refine (HC.out _ (by first | exact runs_first w | exact runs_second w _ | exact runs_third w _)).mono ?_; rintro x3 w3 ⟨a3, c3, rfl, hc3, hown3, hb3', hb3⟩)
    | (refine step_append_lies _ (by rfl) _ _ _ (by rfl) w.heap.size 21 i0 (.int .i32 0) 1 4 Tryz.underlying40 hi hz0 hz1 hz2 (by rfl) (by decide) (.slice a3 at_ c3) at_ _ (by rfl) (hown3.alloc _) ⟨w3.heap.size, 0, none⟩ 1 1 [.int .i32 rr] (by rfl) (by rfl) (cell_one_new _ _ _) (oneInt _ _) (by omega) HM1.out HM2.out (by have := hb3.size; simp; omega) _ rfl ?_; intro g8 c8 w8 hown8 hgrow8 hat8 hlt8; have hcap8 := own_capR hown8; have hb8 := (hb3.alloc hb3.size _).grown hgrow8 (by have := hb3.size; simp; omega) (fun q hq => own_ge hown3 q hq))
    | (refine step_append_lies _ (by rfl) _ _ _ (by rfl) w.heap.size 21 i0 (.int .i32 0) 1 4 Tryz.underlying40 hi hz0 hz1 hz2 (by rfl) (by decide) (.slice a3 at_ c3) at_ _ (by rfl) hown3 ⟨w.heap.size, 0, none⟩ 1 1 [.int .i32 rr] (by rfl) (by rfl) (news_one hb3') (oneInt _ _) (by omega) HM1.out HM2.out hb3.size _ rfl ?_; intro g8 c8 w8 hown8 hgrow8 hat8 hlt8; have hcap8 := own_capR hown8; have hb8 := hb3.grown hgrow8 hb3.size (fun q hq => own_ge hown3 q hq))
    | fail)
  all_goals
    first | exact HK.out _ _ _ _ _ _ _ _ _ _ _ _ _ _ _ _ _ _ _ _ _ _ _ _ _ (run_ins0 HD0.out HLA.out hown8) hb8 | (go_wp2_with fail; exact HK.out _ _ _ _ _ _ _ _ _ _ _ _ _ _ _ _ _ _ _ _ _ _ _ _ _ (run_ins0 HD0.out HLA.out hown8) hb8)
end Go.Proofs.YthnedehihbploaaGreatDoor
/- PathPlays: the walk -/
namespace Go.Proofs.YthnedehihbploaaGreatDoor
open Go.RowKit Go.Lib Go.Sort

theorem vp_exit {c : Code} {Q : Exit → Act → World → Prop} {a : Act} {w : World} (h : Code.wp Tryz.prog c (Exit.then (Q .normal) Q) a w) : Code.wp Tryz.prog c Q a w := by
  have e : Exit.then (Q .normal) Q = Q := by funext x; cases x <;> rfl
  rwa [e] at h
theorem pk_memV {v : List El} {c : El → Bool} {g : Nat → Pr} {n : Nat} {p : Pr} (h : p ∈ pk v c g n) : ∃ i, p = g i := by
  unfold pk at h
  obtain ⟨i, -, hi⟩ := List.mem_flatMap.1 h
  unfold pk1 at hi
  split at hi
  · split at hi
    · exact ⟨i, by simpa using hi⟩
    · simp at hi
  · simp at hi
theorem get_bV {l : List OpD} (h : okRow l) (i : Nat) : -2147483648 ≤ ((visR l)[i]?).getD 0 ∧ ((visR l)[i]?).getD 0 ≤ 2147483647 := by
  cases hx : (visR l)[i]? with
  | none => simp
  | some r =>
    have := okR_of (visR_ok h r (List.mem_of_getElem? hx))
    simp only [Option.getD_some]
    omega
theorem path_rV {l : List OpD} {o : OpD} (h : okRow (l ++ [o])) : ∀ p ∈ pathP l o, -2147483648 ≤ p.r ∧ p.r ≤ 2147483647 := by
  intro p hp
  unfold pathP at hp
  rcases List.mem_append.1 hp with hp | hp
  · unfold outP at hp
    obtain ⟨i, rfl⟩ := pk_memV (List.mem_reverse.1 hp)
    exact get_bV (eRow_snoc h).1 i
  · unfold inP at hp
    obtain ⟨i, rfl⟩ := pk_memV hp
    exact get_bV h i
theorem st1_bV {g : List Int} {p : Pr} (hg : ∀ r ∈ g, -2147483648 ≤ r ∧ r ≤ 2147483647) (hp : -2147483648 ≤ p.r ∧ p.r ≤ 2147483647) : ∀ r ∈ st1 g p, -2147483648 ≤ r ∧ r ≤ 2147483647 := by
  intro r hr
  unfold st1 at hr
  split at hr
  · rcases List.mem_append.1 hr with hr | hr
    · rcases List.mem_append.1 hr with hr | hr
      · exact hg r (List.mem_of_mem_take hr)
      · have : r = p.r := by simpa using hr
        rw [this]; exact hp
    · exact hg r (List.mem_of_mem_drop hr)
  · rcases List.mem_append.1 hr with hr | hr
    · exact hg r (List.mem_of_mem_take hr)
    · exact hg r (List.mem_of_mem_drop hr)
/-- all that the loop over the last op's steps asks -/
theorem path_loopV {l : List OpD} {o : OpD} (hr : rowP (l ++ [o])) : ∃ F : Nat → List Int, F 0 = visR l ∧ F (pathP l o).length = visR (l ++ [o]) ∧
    (∀ k (hk : k < (pathP l o).length), F (k + 1) = st1 (F k) (pathP l o)[k] ∧ okX (F k) (pathP l o)[k] ∧ (F k).length ≤ 600) ∧ (∀ k, k ≤ (pathP l o).length → ∀ r ∈ F k, -2147483648 ≤ r ∧ r ≤ 2147483647) := by
  obtain ⟨F, h0, h1, h2⟩ := path_loop hr
  refine ⟨F, h0, h1, h2, ?_⟩
  intro k
  induction k with
  | zero =>
    intro _ r hm
    rw [h0] at hm
    have := okR_of (visR_ok (eRow_snoc hr.2).1 r hm)
    omega
  | succ k ih =>
    intro hk
    rw [(h2 k (by omega)).1]
    exact st1_bV (ih (by omega)) (path_rV hr.2 _ (List.getElem_mem _))
/-- a row of runes of one's own, as it is read -/
def ShapeV (a : Option Addr) (c : Nat) : Prop := (a = none ∧ c = 0) ∨ ∃ b o, a = some ⟨b, o, none⟩
theorem runes_ownV {w : World} {base : Nat} {v : Value} {l : List Int} (h : w.ownsRow base 21 1 v l.length (rv l)) (hb : ∀ r ∈ l, -2147483648 ≤ r ∧ r ≤ 2147483647) : ∃ a c, v = .slice a l.length c ∧ RunesAt w a l ∧ l.length ≤ c ∧ ShapeV a c := by
  rcases h.2 with ⟨hv, h0⟩ | ⟨g, cap, cur, hv, hg, hh, hc, hm, hcs, ht⟩
  · have hl : l = [] := List.eq_nil_of_length_eq_zero h0
    subst hl
    exact ⟨none, 0, hv, ⟨fun j hj => absurd hj (by simp), fun r hr => absurd hr (by simp)⟩, Nat.zero_le _, .inl ⟨rfl, rfl⟩⟩
  · refine ⟨_, cap, hv, ⟨fun j hj => ⟨g, 0, rfl, (Array.getElem?_eq_some_iff.1 hh).1, ?_⟩, hb⟩, hc, .inr ⟨g, 0, rfl⟩⟩
    subst hv
    rw [Nat.zero_add, h.cellAt j (by omega)]
    simp [rv, hj]
set_option maxRecDepth 100000 in
set_option maxHeartbeats 1000000 in
theorem rRunes_empty (w : World) : Calls Tryz.prog 13 #[.string ⟨#[]⟩] w (fun e w' => e = .returned (.tuple #[.slice none 0 0, .bool true]) ∧ w' = w) := by
  go_enter Tryz.func13, Tryz.ntmps13
  go_wp2
  go_loopw [4, 5] (fun v i wr => v = .slice none 0 0 ∧ i = .int .i64 0 ∧ wr = w) (fun _ _ _ => 0)
  case atStart => exact ⟨rfl, rfl, rfl⟩
  case round =>
    obtain ⟨rfl, rfl, rfl⟩ := hrel
    go_wp2
    go_ret2
    exact ⟨rfl, rfl⟩
/-- the runes of a row's text -/
def RunV (l : List Int) (w : World) (e : Ending) (w' : World) : Prop := ∃ a c, e = .returned (.tuple #[.slice a l.length c, .bool true]) ∧ RunesAt w' a l ∧ l.length ≤ c ∧ ShapeV a c ∧ Below w.heap.size w w'
theorem rRunes_doc (l : List OpD) (hr : okRow l) (w : World) (hT : Tabs w) : Calls Tryz.prog 13 #[S (docT l)] w (RunV (visR l) w) := by
  have hrd := rns_doc hr
  have h8 := docT_le hr
  by_cases h0 : (visR l) = []
  · have h1 : docT l = [] := by unfold docT; rw [h0]; rfl
    rw [h0, h1]
    refine (rRunes_empty w).mono ?_
    rintro e w' ⟨rfl, rfl⟩
    exact ⟨none, 0, rfl, ⟨fun j hj => absurd hj (by simp), fun r hr => absurd hr (by simp)⟩, Nat.zero_le _, .inl ⟨rfl, rfl⟩, Below.refl _ _⟩
  · have hk : okT ⟨(docT l).toArray⟩ = true := by
      unfold okT
      rw [hrd, List.all_eq_true]
      exact fun r hm => visR_ok hr r hm
    refine (rRunes_ok ⟨(docT l).toArray⟩ w hT (by show (docT l).toArray.size ≤ 60000; simp; omega) hk).mono ?_
    rintro e w' ⟨a, c, rfl, h2, h3, -, hb⟩
    rw [hrd] at h2 h3 ⊢
    refine ⟨a, c, rfl, h2, h3, ?_, hb⟩
    obtain ⟨b, off, h9, -⟩ := h2.cell 0 (List.length_pos_iff.2 h0)
    exact .inr ⟨b, off, h9⟩
set_option maxRecDepth 100000 in
set_option maxHeartbeats 32000000 in
theorem plays_walk (p : AskD) (W : World) (h : AskAt W p) (hT : Tabs W) : Calls Tryz.prog 3 #[p.v] W (BoB true W) := by
  have HHV := Lib.hid (fun wx (hx : Below W.heap.size W wx) => Heavy_light p wx (h.below hx))
  have HX := Lib.hid (BoxA.new W p)
  have hb0 : Below W.heap.size W (W.alloc p.obj) := (Below.refl _ _).alloc (Nat.le_refl _) _
  have HB0 := Lib.hid hb0
  have HRW := Lib.hid h.l
  have HTB := Lib.hid (fun wx (hx : Below W.heap.size W wx) => hT.next hx)
  have hl3 := h.l.len
  have HWK := Lib.hid wakes10_any
  clear h hb0 hT
  unfold AskD.v at HHV ⊢
  generalize hLP : Light p = LP at HHV
  have HLP := Lib.hid (show LP → Light p from fun h => by rw [hLP]; exact h)
  clear hLP
  unfold Light at HLP
  obtain ⟨lr, le, lo, ln, ar, ae, ao, an, cr, ce, co, cn⟩ := p
  unfold AskD.obj at HX HB0
  simp only at HHV HX HB0 HRW hl3 HLP ⊢
  have hbi := big_is
  obtain ⟨n0, hn0⟩ : ∃ n, lr.length = n := ⟨_, rfl⟩
  have HL0 := Lib.hid hn0
  have h0a : (n0 : Int) ≤ 140737488351232 := by omega
  rw [hn0] at HHV HX HB0 ⊢
  clear hl3 hbi hn0
  generalize hn2 : le.length = n2 at *
  generalize hn1 : lo.length = n1 at *
  generalize hn3 : ln.length = n3 at *
  have HL2 := Lib.hid hn2
  have HL1 := Lib.hid hn1
  have HL3 := Lib.hid hn3
  clear hn1 hn2 hn3
  go_enter Tryz.func3, Tryz.ntmps3
  go_wp2_with (first | (go_at_call 8; refine (HHV.out _ HB0.out).mono ?_; rintro x1 w1 ⟨b1, rfl, hlp, hb1⟩; have HPP := Lib.hid hlp; have HB1 := Lib.hid (HB0.out.trans (hb1.mono HB0.out.size)); have HA1 := Lib.hid (HX.out.next hb1 HX.out.lt); clear hb1 hlp; cases b1) | fail)
  rotate_left
  · go_wp2_with fail
    go_ret
    exact ⟨rfl, HB1.out⟩
  have HLT := Lib.hid (HLP.out (HPP.out (by simp)))
  clear HLP HPP
  go_wp2_with fail
  clear HHV
  have HXX := Lib.hid (fun (wx : World) (hx : Below w1.heap.size w1 wx) => And.intro ((hx.cell (p := ⟨W.heap.size, 0, none⟩) HA1.out.lt).trans HA1.out.c0) (And.intro (Nat.lt_of_lt_of_le HA1.out.lt hx.size) (HB1.out.trans (hx.mono HB1.out.size))))
  simp only [HL0.out] at HXX
  go_loopw [3] (fun s5 wr => ∃ i : Nat, s5 = .int .i64 i ∧ i ≤ n0 ∧ Below w1.heap.size w1 wr) (fun s5 _ => n0 - (RowKit.intOf s5).toNat)
  case atStart => exact ⟨0, rfl, Nat.zero_le _, Below.refl _ _⟩
  case round =>
    obtain ⟨i, rfl, hi, hb⟩ := hrel
    obtain ⟨q0, hq0, hbW⟩ := HXX.out _ hb
    have HB := Lib.hid hb
    have HBW := Lib.hid hbW
    by_cases hlt : i < n0
    · by_cases h4 : (i : Int) < 4
      · have hil : i < lr.length := by rw [HL0.out]; exact hlt
        obtain ⟨b, off, rfl, hbb, cW⟩ := HRW.out.cell i hil
        have hro := HRW.out.row i hil
        have hlr := light_row (HLT.out.2.2.2 i hil)
        generalize lr[i] = r at *
        clear hil
        obtain ⟨rl, ra, rc⟩ := r
        simp only at cW hro hlr
        have hcap := hro.2
        have HOP := Lib.hid (fun (wx : World) (hx : Below W.heap.size W wx) => hro.1.below hx)
        obtain ⟨nr, hnr⟩ : ∃ n, rl.length = n := ⟨_, rfl⟩
        have HNR := Lib.hid hnr
        rw [hnr] at cW hcap
        have HCAP := Lib.hid hcap
        have HCW := Lib.hid (fun (wx : World) (hx : Below W.heap.size W wx) => And.intro ((hx.cell (p := ⟨b, off + i, none⟩) hbb).trans cW) (Nat.lt_of_lt_of_le hbb hx.size))
        obtain ⟨cr0, hbr⟩ := HCW.out _ hbW
        clear hnr hro hb hbW cW hlr HRW hcap
        by_cases hrow : rowP (OpR.os rl)
        · have HROW := Lib.hid hrow
          have hl40 : nr ≤ 40 := by have := hrow.1; rw [os_len, HNR.out] at this; exact this
          have HDT := Lib.hid (fun (wx : World) (hx : Below W.heap.size W wx) => (by
            have h9 := dText_ok ra rc rl wx (HOP.out wx hx) HROW.out
            rw [HNR.out] at h9
            exact h9 : Calls Tryz.prog 9 #[.slice ra nr rc] wx (TextPost (docT (OpR.os rl)) 0 wx)))
          have HPL := Lib.hid (fun (wx : World) (hx : Below W.heap.size W wx) => (by
            have h9 := pPlay_text ra rc rl wx (HOP.out wx hx) (by rw [HNR.out]; exact HCAP.out) HROW.out
            rw [HNR.out] at h9
            exact h9 : Calls Tryz.prog 11 #[.slice ra nr rc] wx (TextPost (docT (OpR.os rl)) 0 wx)))
          unfold TextPost at HDT HPL
          by_cases hz : nr = 0
          · subst hz
            generalize docT (OpR.os rl) = TX at *
            go_wp2_with (first
              | (go_at_call 9; refine (HDT.out wr HBW.out).mono ?_; rintro x2 w2 ⟨rfl, hb2⟩; have HB2 := Lib.hid (HB.out.trans (hb2.mono HB.out.size)); clear hb2)
              | (go_at_call 11; refine (HPL.out w2 (HXX.out _ HB2.out).2.2).mono ?_; rintro x3 w3 ⟨rfl, hb3⟩; have HB3 := Lib.hid (HB2.out.trans (hb3.mono HB2.out.size)); clear hb3)
              | (go_at_call 10; refine (num10_same _ _).mono ?_; rintro xn wn ⟨rfl, hnn⟩; have hns := hnn.symm; clear hnn; subst hns)
              | fail)
            go_roundw
            case rel => exact ⟨i + 1, by go_num, by omega, HB3.out⟩
            case measure => simp [RowKit.intOf]; omega
          · obtain ⟨m, rfl⟩ : ∃ m, nr = m + 1 := ⟨nr - 1, by omega⟩
            have hml : m < rl.length := by rw [HNR.out]; omega
            have hm2 : m < (OpR.os rl).length := by rw [os_len]; exact hml
            have HUP := Lib.hid (row_upto hrow hm2)
            have hwm : IntKind.i64.wrap ((m : Int) + 1 - 1) = (m : Int) := by rw [IntKind.wrap_i64]; omega
            have hmm : ((m : Int) + 1 - 1) = (m : Int) := by omega
            have hz2 : ¬ ((m : Int) + 1 = 0) := by omega
            have hcm : (m : Int) ≤ (rc : Int) := by have := HCAP.out; omega
            have HD2 := Lib.hid (fun (wx : World) (hx : Below W.heap.size W wx) => (by
              have h9 := dText_ok ra rc (rl.take m) wx ((HOP.out wx hx).take m) (by rw [← os_take]; exact HUP.out.1)
              rw [List.length_take, Nat.min_eq_left (by omega), ← os_take] at h9
              exact h9 : Calls Tryz.prog 9 #[.slice ra m rc] wx (TextPost (docT ((OpR.os rl).take m)) 0 wx)))
            unfold TextPost at HD2
            have hTX2 : Go.Proofs.YthnedehihbploaaGreatDoor.mk (visR (OpR.os rl)) = docT (OpR.os rl) := rfl
            have HTX2 := Lib.hid hTX2
            clear hTX2
            generalize docT (OpR.os rl) = TX at *
            obtain ⟨TW, hTW⟩ : ∃ t, docT ((OpR.os rl).take m) = t := ⟨_, rfl⟩
            have HTW := Lib.hid hTW
            rw [hTW] at HD2
            clear hTW hrow
            go_upto_region 14 with (first
              | (go_at_call 9; refine (HD2.out w3 (HXX.out _ HB3.out).2.2).mono ?_; rintro x4 w4 ⟨rfl, hb4⟩; have HB4 := Lib.hid (HB3.out.trans (hb4.mono HB3.out.size)); clear hb4)
              | (go_at_call 9; refine (HDT.out wr HBW.out).mono ?_; rintro x2 w2 ⟨rfl, hb2⟩; have HB2 := Lib.hid (HB.out.trans (hb2.mono HB.out.size)); clear hb2)
              | (go_at_call 11; refine (HPL.out w2 (HXX.out _ HB2.out).2.2).mono ?_; rintro x3 w3 ⟨rfl, hb3⟩; have HB3 := Lib.hid (HB2.out.trans (hb3.mono HB2.out.size)); clear hb3)
              | (go_at_call 10; refine (num10_same _ _).mono ?_; rintro xn wn ⟨rfl, hnn⟩; have hns := hnn.symm; clear hnn; subst hns)
              | fail)
            have HJC := Lib.hid (fun (wx : World) (hx : Below W.heap.size W wx) => (HOP.out wx hx).cells m hml)
            have HJO := Lib.hid (fun (wx : World) (hx : Below W.heap.size W wx) => (HOP.out wx hx).op m hml)
            have hD : OpR.os rl = (OpR.os rl).take m ++ [rl[m].o] := by
              have h1 : (OpR.os rl).length = m + 1 := by rw [os_len]; exact HNR.out
              have h2 := List.take_succ_eq_append_getElem (l := OpR.os rl) (i := m) (by omega)
              rw [List.take_of_length_le (by omega)] at h2
              have h3 : (OpR.os rl)[m]'(by omega) = rl[m].o := by simp [OpR.os]
              rw [h3] at h2
              exact h2
            generalize hrj : rl[m] = rj at *
            obtain ⟨o, oa, oc⟩ := rj
            simp only at HJC HJO hD
            obtain ⟨b2, off2, hra, -⟩ := HJC.out W (Below.refl _ _)
            subst hra
            have HDD := Lib.hid hD
            have hrowD : rowP ((OpR.os rl).take m ++ [o]) := by rw [← hD]; exact HROW.out
            have HRD := Lib.hid hrowD
            obtain ⟨F, hF0, hF1, hF2, hF3⟩ := path_loopV hrowD
            have HF0 := Lib.hid hF0
            have HF1 := Lib.hid hF1
            have HF2 := Lib.hid hF2
            have HFB := Lib.hid hF3
            have hpl := pathP_len HUP.out.1 hrowD
            have HOF := Lib.hid (fun (wx : World) (hx : Below W.heap.size W wx) => (by
              have h9 := pOf_ok (some ⟨b2, off2, none⟩) rc (rl.take m) o oa oc wx ((HOP.out wx hx).take m) (by rw [List.length_take]; have := HCAP.out; have := HNR.out; omega) (by rw [← os_take]; exact HUP.out.1) (HJO.out wx hx) (by rw [← os_take]; exact HRD.out)
              rw [List.length_take, Nat.min_eq_left (by have := HNR.out; omega), ← os_take] at h9
              exact h9.mono (by
                rintro e w' ⟨v, rfl, hown, hb⟩
                obtain ⟨a, c, hv, hp, -⟩ := prims_own hown
                exact ⟨a, c, by rw [hv], hp, hb⟩) : Calls Tryz.prog 12 #[.slice (some ⟨b2, off2, none⟩) m rc, o.v oa oc] wx (fun e w' => ∃ a c, e = .returned (.tuple #[.slice a (pathP ((OpR.os rl).take m) o).length c, .int .i64 0]) ∧ PrimsAt w' a (pathP ((OpR.os rl).take m) o) ∧ Below wx.heap.size wx w')))
            have HRU := Lib.hid (fun (wx : World) (hx : Below W.heap.size W wx) => rRunes_doc ((OpR.os rl).take m) HUP.out.1.2 wx (HTB.out wx hx))
            generalize pathP ((OpR.os rl).take m) o = P at *
            rw [HTW.out] at HRU
            rw [← HF0.out] at HRU
            obtain ⟨mp, hmp⟩ : ∃ q, P.length = q := ⟨_, rfl⟩
            have HMP := Lib.hid hmp
            rw [hmp] at HOF HF1 HFB hpl
            have HF2 := Lib.hid (fun (k : Nat) (hk : k < mp) => HF2.out k (by rw [HMP.out]; exact hk))
            have HMB := Lib.hid hpl
            have hmpi : (mp : Int) ≤ 400 := by omega
            clear hD hrowD hF0 hF1 hF2 hF3 hpl hmp hrj
            obtain ⟨es, eq, ek, ⟨ex, ey, ez⟩, et, eg, ef, em, en⟩ := o
            unfold OpD.v at HOF
            simp only at HOF HJC
            obtain ⟨gl, hgl⟩ : ∃ q, eg.length = q := ⟨_, rfl⟩
            rw [hgl] at HOF HJC
            clear hgl
            have HAJ := Lib.hid (fun (wx : World) (hx : Below w4.heap.size w4 wx) => (by
              obtain ⟨b3, o3, h1, h2⟩ := HJC.out wx ((HXX.out _ HB4.out).2.2.trans (hx.mono (HXX.out _ HB4.out).2.2.size))
              simp only [Option.some.injEq, Addr.mk.injEq] at h1
              obtain ⟨rfl, rfl, -⟩ := h1
              exact h2))
            have HOF4 := Lib.hid (fun (wx : World) (hx : Below w4.heap.size w4 wx) => HOF.out wx ((HXX.out _ HB4.out).2.2.trans (hx.mono (HXX.out _ HB4.out).2.2.size)))
            refine vp_r14 (R := fun a wx => PrimsAt wx a P) w4 HAJ HOF4 rfl hl40 HCAP.out ?_
            intro v67 v68 v69 v70 v71 v72 v73 v74 v75 v76 v77 v78 v79 v80 v81 a5 c5 w5 hp5 hb5
            have HP5 := Lib.hid hp5
            have HB5 := Lib.hid (HB4.out.trans (hb5.mono HB4.out.size))
            clear hp5 hb5 HOF HOF4 HAJ HJC HJO
            unfold RunV at HRU
            go_upto_region 18 with (first
              | (go_at_call 13; refine (HRU.out w5 (HXX.out _ HB5.out).2.2).mono ?_; rintro x6 w6 ⟨a6, c6, rfl, hr6, hc6, hs6, hb6⟩; have HR6 := Lib.hid hr6; have HC6 := Lib.hid hc6; have HS6 := Lib.hid hs6; have HP6 := Lib.hid (HP5.out.below hb6); have HB6 := Lib.hid (HB5.out.trans (hb6.mono HB5.out.size)); clear hr6 hc6 hs6 hb6)
              | (go_at_call 10; refine (num10_same _ _).mono ?_; rintro xn wn ⟨rfl, hnn⟩; have hns := hnn.symm; clear hnn; subst hns)
              | fail)
            go_wp2_with fail
            go_loopw [13, 15] (fun s13 s15 wr => ∃ k : Nat, s15 = .int .i64 k ∧ k ≤ mp ∧ ∃ ar cr, s13 = .slice ar (F k).length cr ∧ RunesAt wr ar (F k) ∧ (F k).length ≤ cr ∧ ShapeV ar cr ∧ Below w6.heap.size w6 wr) (fun _ s15 _ => mp - (RowKit.intOf s15).toNat)
            case atStart => exact ⟨0, rfl, Nat.zero_le _, a6, c6, rfl, HR6.out, HC6.out, HS6.out, Below.refl _ _⟩
            case round =>
              clear HR6 HC6 HS6
              obtain ⟨k, rfl, hk, ar, cr, rfl, hrf, hcap, hsh, hb⟩ := hrel
              have HB := Lib.hid hb
              have HRF := Lib.hid hrf
              by_cases hlt : k < mp
              · as_aux_lemma =>
                have hkl : k < P.length := by rw [HMP.out]; exact hlt
                have HK := HF2.out k hlt
                have HPC := Lib.hid (fun (wx : World) (hx : Below wr.heap.size wr wx) => ((HP6.out.below HB.out).below hx).cell k hkl)
                obtain ⟨bp, po, h1, -⟩ := HPC.out wr (Below.refl _ _)
                subst h1
                have HPD := Lib.hid (fun (wx : World) (hx : Below wr.heap.size wr wx) => (by
                  obtain ⟨b3, o3, h1, h2⟩ := HPC.out wx hx
                  simp only [Option.some.injEq, Addr.mk.injEq] at h1
                  obtain ⟨rfl, rfl, -⟩ := h1
                  exact h2))
                have hki : (k : Int) < (mp : Int) := by omega
                have hk0 : (0 : Int) ≤ (k : Int) := by omega
                clear HPC hb hrf
                obtain ⟨HT0, HK0, hle⟩ := HK
                have HT := Lib.hid HT0
                unfold okX at HK0
                generalize P[k] = p at *
                obtain ⟨pk_, pa, pr, ps⟩ := p
                simp only at HPD HK0 HT
                obtain ⟨n, hn⟩ : ∃ q, (F k).length = q := ⟨_, rfl⟩
                have HN := Lib.hid hn
                rw [hn] at hcap HK0 hle ⊢
                have HNK := Lib.hid (show n ≤ 1000 from by omega)
                have hni : (n : Int) ≤ 1000 := by omega
                clear hn HT0 hkl hle
                obtain ⟨xl, x0, x1, x2, x3⟩ := HPD.out wr (Below.refl _ _)
                rcases HK0 with ⟨rfl, e2, e3⟩ | ⟨rfl, e2, e3, hru⟩
                · obtain ⟨i_, rfl⟩ : ∃ i : Nat, pa = (i : Int) := ⟨pa.toNat, by omega⟩
                  have HKI := Lib.hid e3
                  have hii : (i_ : Int) ≤ (n : Int) := e3
                  have hi0 : (0 : Int) ≤ (i_ : Int) := by omega
                  have HPW := Lib.hid (fun (wx : World) (hx : Below wr.heap.size wr wx) => (by
                    obtain ⟨h1, h2, h3, h4, h5⟩ := HPD.out wx hx
                    exact ⟨h3, h4, h1⟩ : wx.cell? ⟨bp, po + k * 4 + 1, none⟩ = some (.int .i64 (i_ : Int)) ∧ wx.cell? ⟨bp, po + k * 4 + 2, none⟩ = some (.int .i32 pr) ∧ bp < wx.heap.size))
                  clear e2 e3
                  have HTF := Lib.hid (show F (k + 1) = (F k).take i_ ++ [pr] ++ (F k).drop i_ from by rw [HT.out]; simp [st1])
                  have hin : i_ ≤ n := by have := HKI.out; omega
                  have HNB := Lib.hid (show btw (i_ : Int) 0 (n : Int) = true from decide_eq_true ⟨by omega, by omega⟩)
                  have HWY := Lib.hid (Below.refl wr.heap.size wr)
                  have HBX := HB
                  clear HKI
                  go_upto_region 26 with (first
                    | (go_at_call 14; refine (rNum_any (i_ : Int) (n : Int) wr).mono ?_; rw [HNB.out]; rintro x22 w22 ⟨rfl, rfl⟩)
                    | fail)
                  rcases hsh with ⟨rfl, rfl⟩ | ⟨br, ro, rfl⟩
                  · have h0 : n = 0 := by omega
                    subst h0
                    obtain rfl : i_ = 0 := by omega
                    have hF0 : F k = [] := List.eq_nil_of_length_eq_zero HN.out
                    have HC := Lib.hid (fun (wx : World) (hx : Below wr.heap.size wr wx) => CopyRunes_b none 0 0 [] wr wx ⟨fun j hj => absurd hj (by simp), fun r hr => absurd hr (by simp)⟩ rfl (Nat.zero_le _) hx)
                    rw [hF0] at HTF
                    clear hF0
                    refine vp_exit ?_; refine vp_r26n wr HPW hlt HMB.out HC ?_
                    intro v121 v122 v123 v124 v125 v126 v127 v128 v129 v130 v131 v132 v133 v134 v135 v136 v137 v138 v139 v140 v141 v142 v143 r8 w8 hown8 hb8
                    dsimp only [Exit.inBlock, Exit.then]
                    obtain ⟨a8, c8, hv8, hr8, hc8, hs8⟩ := runes_ownV (l := F (k + 1)) (by rw [HTF.out]; simpa using hown8) (HFB.out (k + 1) (by omega))
                    subst hv8
                    have HR8 := Lib.hid hr8
                    have HC8 := Lib.hid hc8
                    have HS8 := Lib.hid hs8
                    have HB8 := Lib.hid (HBX.out.trans (hb8.mono HBX.out.size))
                    clear hown8 hb8 hr8 hc8 hs8
                    go_wp2_with fail
                    go_roundw
                    case rel => exact ⟨k + 1, by go_num, by omega, a8, c8, rfl, HR8.out, HC8.out, HS8.out, HB8.out⟩
                    case measure => simp [RowKit.intOf]; omega
                  · by_cases h9 : i_ < n
                    · skip
                      have HC := Lib.hid (fun (wx : World) (hx : Below wr.heap.size wr wx) => CopyRunes_b (some ⟨br, ro, none⟩) cr i_ ((F k).take i_) wr wx (runes_cut ((HRF.out.below (HWY.out)).below hx) i_) (by rw [List.length_take, HN.out]; omega) (by omega) hx)
                      refine vp_exit ?_; refine vp_r26a wr HPW hlt HMB.out h9 hcap HNK.out HN.out (Lib.hid (fun (wx : World) (hx : Below wr.heap.size wr wx) => HRF.out.below hx)) HC ?_
                      intro v121 v122 v123 v124 v125 v126 v127 v128 v129 v130 v131 v132 v133 v134 v135 v136 v137 v138 v139 v140 v141 v142 v143 r8 w8 hown8 hb8
                      dsimp only [Exit.inBlock, Exit.then]
                      obtain ⟨a8, c8, hv8, hr8, hc8, hs8⟩ := runes_ownV (l := F (k + 1)) (by rw [HTF.out]; exact hown8) (HFB.out (k + 1) (by omega))
                      subst hv8
                      have HR8 := Lib.hid hr8
                      have HC8 := Lib.hid hc8
                      have HS8 := Lib.hid hs8
                      have HB8 := Lib.hid (HBX.out.trans (hb8.mono HBX.out.size))
                      clear hown8 hb8 hr8 hc8 hs8
                      go_wp2_with fail
                      go_roundw
                      case rel => exact ⟨k + 1, by go_num, by omega, a8, c8, rfl, HR8.out, HC8.out, HS8.out, HB8.out⟩
                      case measure => simp [RowKit.intOf]; omega
                    · have h8 : i_ = n := by omega
                      have HC := Lib.hid (fun (wx : World) (hx : Below wr.heap.size wr wx) => CopyRunes_b (some ⟨br, ro, none⟩) cr i_ ((F k).take i_) wr wx (runes_cut ((HRF.out.below (HWY.out)).below hx) i_) (by rw [List.length_take, HN.out]; omega) (by omega) hx)
                      by_cases h7 : n = cr
                      · refine vp_exit ?_; refine vp_r26b wr HPW hlt HMB.out h8 h7 hcap HNK.out HN.out (Lib.hid (fun (wx : World) (hx : Below wr.heap.size wr wx) => HRF.out.below hx)) HC ?_
                        intro v121 v122 v123 v124 v125 v126 v127 v128 v129 v130 v131 v132 v133 v134 v135 v136 v137 v138 v139 v140 v141 v142 v143 r8 w8 hown8 hb8
                        dsimp only [Exit.inBlock, Exit.then]
                        obtain ⟨a8, c8, hv8, hr8, hc8, hs8⟩ := runes_ownV (l := F (k + 1)) (by rw [HTF.out]; exact hown8) (HFB.out (k + 1) (by omega))
                        subst hv8
                        have HR8 := Lib.hid hr8
                        have HC8 := Lib.hid hc8
                        have HS8 := Lib.hid hs8
                        have HB8 := Lib.hid (HBX.out.trans (hb8.mono HBX.out.size))
                        clear hown8 hb8 hr8 hc8 hs8
                        go_wp2_with fail
                        go_roundw
                        case rel => exact ⟨k + 1, by go_num, by omega, a8, c8, rfl, HR8.out, HC8.out, HS8.out, HB8.out⟩
                        case measure => simp [RowKit.intOf]; omega
                      · refine vp_exit ?_; refine vp_r26c wr HPW hlt HMB.out h8 (by omega) hcap HNK.out HN.out (Lib.hid (fun (wx : World) (hx : Below wr.heap.size wr wx) => HRF.out.below hx)) HC ?_
                        intro v121 v122 v123 v124 v125 v126 v127 v128 v129 v130 v131 v132 v133 v134 v135 v136 v137 v138 v139 v140 v141 v142 v143 r8 w8 hown8 hb8
                        dsimp only [Exit.inBlock, Exit.then]
                        obtain ⟨a8, c8, hv8, hr8, hc8, hs8⟩ := runes_ownV (l := F (k + 1)) (by rw [HTF.out]; exact hown8) (HFB.out (k + 1) (by omega))
                        subst hv8
                        have HR8 := Lib.hid hr8
                        have HC8 := Lib.hid hc8
                        have HS8 := Lib.hid hs8
                        have HB8 := Lib.hid (HBX.out.trans (hb8.mono HBX.out.size))
                        clear hown8 hb8 hr8 hc8 hs8
                        go_wp2_with fail
                        go_roundw
                        case rel => exact ⟨k + 1, by go_num, by omega, a8, c8, rfl, HR8.out, HC8.out, HS8.out, HB8.out⟩
                        case measure => simp [RowKit.intOf]; omega
                · obtain ⟨i_, rfl⟩ : ∃ i : Nat, pa = (i : Int) := ⟨pa.toNat, by omega⟩
                  have HKI := Lib.hid e3
                  have hii : (i_ : Int) < (n : Int) := e3
                  have hi0 : (0 : Int) ≤ (i_ : Int) := by omega
                  have hru : (F k)[i_]? = some pr := by simpa using hru
                  have HPW := Lib.hid (fun (wx : World) (hx : Below wr.heap.size wr wx) => (by
                    obtain ⟨h1, h2, h3, h4, h5⟩ := HPD.out wx hx
                    exact ⟨h3, h4, h1⟩ : wx.cell? ⟨bp, po + k * 4 + 1, none⟩ = some (.int .i64 (i_ : Int)) ∧ wx.cell? ⟨bp, po + k * 4 + 2, none⟩ = some (.int .i32 pr) ∧ bp < wx.heap.size))
                  clear e2 e3
                  have HTF := Lib.hid (show F (k + 1) = (F k).take i_ ++ (F k).drop (i_ + 1) from by rw [HT.out]; simp [st1])
                  have hin : i_ < n := by have := HKI.out; omega
                  have HNU := Lib.hid (fun (wx : World) (hx : Below wr.heap.size wr wx) => (by
                    have h9 := rNum_any (i_ : Int) ((n : Int) - 1) wx
                    rw [show btw (i_ : Int) 0 ((n : Int) - 1) = true from decide_eq_true ⟨by omega, by omega⟩] at h9
                    exact h9.mono (by rintro e w' ⟨rfl, rfl⟩; exact ⟨rfl, Below.refl _ _⟩) : Calls Tryz.prog 14 #[.int .i64 (i_ : Int), .int .i64 ((n : Int) - 1)] wx (BoB true wx)))
                  rcases hsh with ⟨rfl, rfl⟩ | ⟨br, ro, rfl⟩
                  · omega
                  have HRX := Lib.hid (fun (wx : World) (hx : Below wr.heap.size wr wx) => (by
                    obtain ⟨b, off, h1, h2, h3⟩ := (HRF.out.below hx).cell i_ (by rw [HN.out]; exact hin)
                    simp only [Option.some.injEq, Addr.mk.injEq] at h1
                    obtain ⟨rfl, rfl, -⟩ := h1
                    rw [List.getElem?_eq_getElem (by rw [HN.out]; exact hin)] at hru
                    rw [Option.some.inj hru] at h3
                    exact ⟨h3, h2⟩ : wx.cell? ⟨br, ro + i_, none⟩ = some (.int .i32 pr) ∧ br < wx.heap.size))
                  clear HKI
                  go_upto_region 28 with fail
                  refine vp_r28 wr HPW hlt HMB.out hin HNK.out HRX HNU ?_
                  intro v146 v147 v148 v149 v150 v151 v152 v153 v154 v155 v156 v157 v158 v159 v160 v161 v162 v163 v164 v165 v166 v167 v168 v169 v170 wy hby
                  have HWY := Lib.hid hby
                  have HBX := Lib.hid (HB.out.trans (hby.mono HB.out.size))
                  have HPY := Lib.hid (fun (wx : World) (hx : Below wy.heap.size wy wx) => HPW.out wx (HWY.out.trans (hx.mono HWY.out.size)))
                  have HSY := Lib.hid (fun (wx : World) (hx : Below wy.heap.size wy wx) => (HRF.out.below HWY.out).below hx)
                  clear hby
                  go_upto_region 30 with fail
                  by_cases h9 : i_ + 1 < n
                  · skip
                    have HC := Lib.hid (fun (wx : World) (hx : Below wy.heap.size wy wx) => CopyRunes_b (some ⟨br, ro, none⟩) cr i_ ((F k).take i_) wy wx (runes_cut ((HRF.out.below (HWY.out)).below hx) i_) (by rw [List.length_take, HN.out]; omega) (by omega) hx)
                    refine vp_exit ?_; refine vp_r30a wy HPY hlt HMB.out h9 hcap HNK.out HN.out HSY HC ?_
                    intro v172 v173 v174 v175 v176 v177 v178 v179 v180 v181 v182 v183 v184 v185 v186 v187 v188 r8 w8 hown8 hb8
                    dsimp only [Exit.inBlock, Exit.then]
                    obtain ⟨a8, c8, hv8, hr8, hc8, hs8⟩ := runes_ownV (l := F (k + 1)) (by rw [HTF.out]; exact hown8) (HFB.out (k + 1) (by omega))
                    subst hv8
                    have HR8 := Lib.hid hr8
                    have HC8 := Lib.hid hc8
                    have HS8 := Lib.hid hs8
                    have HB8 := Lib.hid (HBX.out.trans (hb8.mono HBX.out.size))
                    clear hown8 hb8 hr8 hc8 hs8
                    go_wp2_with fail
                    go_roundw
                    case rel => exact ⟨k + 1, by go_num, by omega, a8, c8, rfl, HR8.out, HC8.out, HS8.out, HB8.out⟩
                    case measure => simp [RowKit.intOf]; omega
                  · have h8 : i_ + 1 = n := by omega
                    by_cases hz : i_ = 0
                    · subst hz
                      obtain rfl : n = 1 := by omega
                      have HC := Lib.hid (fun (wx : World) (_ : Below wy.heap.size wy wx) => CopyRunes_z (some ⟨br, ro, none⟩) cr wx)
                      have hF0 : (F k).take 0 ++ (F k).drop (0 + 1) = [] := by rw [List.take_zero, List.nil_append]; exact List.drop_eq_nil_of_le (by rw [HN.out]; omega)
                      rw [hF0] at HTF
                      clear hF0
                      by_cases h7 : cr = 1
                      · subst h7
                        refine vp_exit ?_; refine vp_r30bz wy HPY hlt HMB.out HC ?_
                        intro v172 v173 v174 v175 v176 v177 v178 v179 v180 v181 v182 v183 v184 v185 v186 v187 v188 r8 w8 hown8 hb8
                        dsimp only [Exit.inBlock, Exit.then]
                        obtain ⟨a8, c8, hv8, hr8, hc8, hs8⟩ := runes_ownV (l := F (k + 1)) (by rw [HTF.out]; exact hown8) (HFB.out (k + 1) (by omega))
                        subst hv8
                        have HR8 := Lib.hid hr8
                        have HC8 := Lib.hid hc8
                        have HS8 := Lib.hid hs8
                        have HB8 := Lib.hid (HBX.out.trans (hb8.mono HBX.out.size))
                        clear hown8 hb8 hr8 hc8 hs8
                        go_wp2_with fail
                        go_roundw
                        case rel => exact ⟨k + 1, by go_num, by omega, a8, c8, rfl, HR8.out, HC8.out, HS8.out, HB8.out⟩
                        case measure => simp [RowKit.intOf]; omega
                      · refine vp_exit ?_; refine vp_r30cz wy HPY hlt HMB.out (by omega) HC ?_
                        intro v172 v173 v174 v175 v176 v177 v178 v179 v180 v181 v182 v183 v184 v185 v186 v187 v188 r8 w8 hown8 hb8
                        dsimp only [Exit.inBlock, Exit.then]
                        obtain ⟨a8, c8, hv8, hr8, hc8, hs8⟩ := runes_ownV (l := F (k + 1)) (by rw [HTF.out]; exact hown8) (HFB.out (k + 1) (by omega))
                        subst hv8
                        have HR8 := Lib.hid hr8
                        have HC8 := Lib.hid hc8
                        have HS8 := Lib.hid hs8
                        have HB8 := Lib.hid (HBX.out.trans (hb8.mono HBX.out.size))
                        clear hown8 hb8 hr8 hc8 hs8
                        go_wp2_with fail
                        go_roundw
                        case rel => exact ⟨k + 1, by go_num, by omega, a8, c8, rfl, HR8.out, HC8.out, HS8.out, HB8.out⟩
                        case measure => simp [RowKit.intOf]; omega
                    · skip
                      have HC := Lib.hid (fun (wx : World) (hx : Below wy.heap.size wy wx) => CopyRunes_s (some ⟨br, ro, none⟩) cr i_ ((F k).take i_) wy wx (runes_cut ((HRF.out.below (HWY.out)).below hx) i_) (by rw [List.length_take, HN.out]; omega) (by omega) (by omega) hx)
                      by_cases h7 : n = cr
                      · refine vp_exit ?_; refine vp_r30bp wy HPY hlt HMB.out h8 h7 hcap HNK.out HN.out HSY HC ?_
                        intro v172 v173 v174 v175 v176 v177 v178 v179 v180 v181 v182 v183 v184 v185 v186 v187 v188 r8 w8 hown8 hb8
                        dsimp only [Exit.inBlock, Exit.then]
                        obtain ⟨a8, c8, hv8, hr8, hc8, hs8⟩ := runes_ownV (l := F (k + 1)) (by rw [HTF.out]; exact hown8) (HFB.out (k + 1) (by omega))
                        subst hv8
                        have HR8 := Lib.hid hr8
                        have HC8 := Lib.hid hc8
                        have HS8 := Lib.hid hs8
                        have HB8 := Lib.hid (HBX.out.trans (hb8.mono HBX.out.size))
                        clear hown8 hb8 hr8 hc8 hs8
                        go_wp2_with fail
                        go_roundw
                        case rel => exact ⟨k + 1, by go_num, by omega, a8, c8, rfl, HR8.out, HC8.out, HS8.out, HB8.out⟩
                        case measure => simp [RowKit.intOf]; omega
                      · refine vp_exit ?_; refine vp_r30cp wy HPY hlt HMB.out h8 (by omega) hcap HNK.out HN.out HSY HC ?_
                        intro v172 v173 v174 v175 v176 v177 v178 v179 v180 v181 v182 v183 v184 v185 v186 v187 v188 r8 w8 hown8 hb8
                        dsimp only [Exit.inBlock, Exit.then]
                        obtain ⟨a8, c8, hv8, hr8, hc8, hs8⟩ := runes_ownV (l := F (k + 1)) (by rw [HTF.out]; exact hown8) (HFB.out (k + 1) (by omega))
                        subst hv8
                        have HR8 := Lib.hid hr8
                        have HC8 := Lib.hid hc8
                        have HS8 := Lib.hid hs8
                        have HB8 := Lib.hid (HBX.out.trans (hb8.mono HBX.out.size))
                        clear hown8 hb8 hr8 hc8 hs8
                        go_wp2_with fail
                        go_roundw
                        case rel => exact ⟨k + 1, by go_num, by omega, a8, c8, rfl, HR8.out, HC8.out, HS8.out, HB8.out⟩
                        case measure => simp [RowKit.intOf]; omega
              · have h0 : k = mp := by omega
                subst h0
                have hd0 : decide ((k : Int) < (k : Int)) = false := decide_eq_false (by omega)
                have hle := visE_le HROW.out.2
                have h9 := rMake ar cr (F k) wr HRF.out (by rw [HF1.out, ← HDD.out, visR_len]; omega)
                rw [show Go.Proofs.YthnedehihbploaaGreatDoor.mk (F k) = TX from by rw [HF1.out, ← HDD.out]; exact HTX2.out] at h9
                unfold StrPost at h9
                have HMK := Lib.hid h9
                generalize (F k).length = nf at *
                clear h9 hle hb hrf
                go_wp2_with (first
                  | (go_at_call 16; refine HMK.out.mono ?_; rintro x9 w9 ⟨rfl, rfl⟩)
                  | fail)
                go_roundw
                case rel => exact ⟨i + 1, by go_num, by omega, HB6.out.trans (HB.out.mono HB6.out.size)⟩
                case measure => simp [RowKit.intOf]; omega
        · have HDT := Lib.hid (fun (wx : World) (hx : Below W.heap.size W wx) => (by
            have h9 := dText_bad ra rc rl wx (HOP.out wx hx) hrow
            rw [HNR.out] at h9
            exact h9 : Calls Tryz.prog 9 #[.slice ra nr rc] wx (TextPost [] 1 wx)))
          unfold TextPost at HDT
          clear hrow
          go_wp2_with (first
            | (go_at_call 9; refine (HDT.out wr HBW.out).mono ?_; rintro x2 w2 ⟨rfl, hb2⟩; have HB2 := Lib.hid (HB.out.trans (hb2.mono HB.out.size)); clear hb2)
            | (go_at_call 10; refine (num10_same _ _).mono ?_; rintro xn wn ⟨rfl, hnn⟩; have hns := hnn.symm; clear hnn; subst hns)
            | fail)
          go_roundw
          case rel => exact ⟨i + 1, by go_num, by omega, HB2.out⟩
          case measure => simp [RowKit.intOf]; omega
      · have hd4 : decide ((i : Int) < 4) = false := decide_eq_false h4
        go_wp2_with (first | (go_at_call 17; refine (HWK.out _).mono ?_; rintro x2 w2 ⟨rfl, hb2⟩; have HB2 := Lib.hid (HBW.out.trans (hb2.mono HBW.out.size)); clear hb2) | fail)
        go_ret
        exact ⟨rfl, HB2.out⟩
    · have hd4 : decide ((i : Int) < (n0 : Int)) = false := decide_eq_false (by omega)
      go_wp2_with (first | (go_at_call 17; refine (HWK.out _).mono ?_; rintro x2 w2 ⟨rfl, hb2⟩; have HB2 := Lib.hid (HBW.out.trans (hb2.mono HBW.out.size)); clear hb2) | fail)
      go_ret
      exact ⟨rfl, HB2.out⟩
end Go.Proofs.YthnedehihbploaaGreatDoor
