/- the page's Count, Effective -/
import Derived.Test.YtefgoelkdjendaaGreatDoorDPure
import Derived.Test.YtefgoelkdjendaaGreatDoorRGo
import Derived.IntWalk
import Derived.Test.YtefgoelkdjendaaGreatDoorVEq
import Derived.Deep.CutBlock
import Derived.Deep.DeepCutAuto
import Derived.StillTailTactics
import Derived.Lib.QuietBelow
import Derived.Test.YtefgoelkdjendaaGreatDoorRPage
import Derived.Laws.Runes
import Derived.Test.YtefgoelkdjendaaGreatDoorYCut
import Derived.Deep.AppendLies
import Derived.Deep.RegionLaw
import Derived.Test.YtefgoelkdjendaaGreatDoorDText
import Derived.Test.YtefgoelkdjendaaGreatDoorYNear
import Derived.Deep.RegionHeld3
namespace Go.Proofs.YtefgoelkdjendaaGreatDoor
open Go.RowKit Go.Lib

theorem ct_take (l : List OpR) (s q : Int) {k : Nat} (hk : k < l.length) : ct ((OpR.os l).take (k + 1)) s q = if l[k].o.kind = 2 ∧ l[k].o.of = s ∧ l[k].o.num = q ∧ l[k].o.gen = (ct ((OpR.os l).take k) s q : Int) then ct ((OpR.os l).take k) s q + 1 else ct ((OpR.os l).take k) s q := by
  rw [List.take_succ_eq_append_getElem (by rw [os_len]; exact hk), ct_snoc]
  rw [show (OpR.os l)[k]'(by rw [os_len]; exact hk) = l[k].o from by simp [OpR.os]]
end Go.Proofs.YtefgoelkdjendaaGreatDoor
/- the page's Visible -/
namespace Go.Proofs.YtefgoelkdjendaaGreatDoor
open Go.RowKit Go.Lib

theorem Tryz.infoBool : (Tryz.prog.info? 4).map (fun i => (i.zero, i.size, i.bytes)) = some (some (.bool false), 1, 1) := by kernel_rfl
/-- is the op at a place at work? -/
def wf (l : List OpR) (j : Nat) : Bool := match l[j]? with | some r => wks (OpR.os l) r.o | none => false
/-- the row of bools, of which i are laid -/
def wbs (l : List OpR) (n i : Nat) : List Value := (List.range n).map (fun j => Value.bool (decide (j < i) && wf l j))
theorem wbs_length (l : List OpR) (n i : Nat) : (wbs l n i).length = n := by simp [wbs]
theorem wbs_get (l : List OpR) {n i j : Nat} (hj : j < n) : (wbs l n i)[j]? = some (.bool (decide (j < i) && wf l j)) := by simp [wbs, hj]
theorem wbs_zero (l : List OpR) (n : Nat) : wbs l n 0 = (madeCells (Value.bool false).cells (n * 1)).toList := by
  apply List.ext_getElem?
  intro j
  by_cases hj : j < n
  · rw [wbs_get l hj]
    simp [madeCells, Value.cells, hj, Nat.mod_one]
  · rw [List.getElem?_eq_none (by rw [wbs_length]; omega), List.getElem?_eq_none (by simp [madeCells]; omega)]
theorem wbs_set (l : List OpR) {n i : Nat} (hi : i < n) : (wbs l n i).set i (.bool (wf l i)) = wbs l n (i + 1) := by
  apply List.ext_getElem?
  intro j
  rw [List.getElem?_set]
  by_cases hij : i = j
  · subst hij
    rw [if_pos rfl, wbs_length, if_pos hi, wbs_get l hi]
    simp
  · rw [if_neg hij]
    by_cases hj : j < n
    · rw [wbs_get l hj, wbs_get l hj]
      have : decide (j < i) = decide (j < i + 1) := by rw [decide_eq_decide]; omega
      rw [this]
    · rw [List.getElem?_eq_none (by rw [wbs_length]; omega), List.getElem?_eq_none (by rw [wbs_length]; omega)]
theorem owns_wide {w : World} {base b2 : Nat} {e : TypeId} {size : Nat} {v : Value} {n : Nat} {xs : List Value} (h : w.ownsRow base e size v n xs) (hb : b2 ≤ base) : w.ownsRow b2 e size v n xs := by
  refine ⟨h.1, ?_⟩
  rcases h.2 with hn | ⟨g, cap, cur, hv, hg, r⟩
  · exact .inl hn
  · exact .inr ⟨g, cap, cur, hv, Nat.le_trans hb hg, r⟩
/-- do the first i ops take e away? -/
def gnT (l : List OpR) (e : El) (i : Nat) : Bool := (l.take i).any (fun r => wks (OpR.os l) r.o && decide (e ∈ r.o.gone))
theorem gnT_zero (l : List OpR) (e : El) : gnT l e 0 = false := by simp [gnT]
theorem gnT_succ (l : List OpR) (e : El) {i : Nat} (hi : i < l.length) : gnT l e (i + 1) = (gnT l e i || (wf l i && decide (e ∈ l[i].o.gone))) := by
  unfold gnT wf
  rw [List.take_succ_eq_append_getElem hi, List.any_append, List.getElem?_eq_getElem hi]
  simp
theorem gnT_mono (l : List OpR) (e : El) {i : Nat} (h : gnT l e i = true) : gnT l e l.length = true := by
  unfold gnT at h ⊢
  rw [List.take_length]
  rw [List.any_eq_true] at h ⊢
  obtain ⟨x, hx, h2⟩ := h
  exact ⟨x, List.mem_of_mem_take hx, h2⟩
theorem vis_gnT {l : List OpR} (hr : okRow (OpR.os l)) (e : El) : vis (OpR.os l) e = (evn (OpR.os l) e.s e.q && !gnT l e l.length) := by
  unfold vis gnT
  rw [goneE_works hr, List.take_length]
  congr 2
  simp [OpR.os, List.any_map, Function.comp_def]
/-- what is found, of what is in the order -/
theorem vis_find {l : List OpR} (hr : okRow (OpR.os l)) {e : El} (he : e ∈ ordE (OpR.os l)) : ∃ k : Nat, k < l.length ∧ findI (OpR.os l) e.s e.q = (k : Int) ∧ wf l k = evn (OpR.os l) e.s e.q := by
  obtain ⟨hk, hkd, _⟩ := ord_edit hr he
  have hfi := fk_is hk
  have hk2 : fk (OpR.os l) e.s e.q < l.length := by rw [← os_len]; exact hk
  refine ⟨fk (OpR.os l) e.s e.q, hk2, by unfold findI; rw [if_pos hk], ?_⟩
  unfold wf
  rw [List.getElem?_eq_getElem hk2]
  have ho : (OpR.os l)[fk (OpR.os l) e.s e.q] = l[fk (OpR.os l) e.s e.q].o := by simp [OpR.os]
  rw [ho] at hkd hfi
  unfold wks
  simp only
  rw [decide_eq_true hkd, hfi.1, hfi.2]
  rfl
/-- the first k of those in the order that are visible -/
def vsK (L : List OpD) (Y : List El) (k : Nat) : List El := (Y.take k).filter (vis L)
end Go.Proofs.YtefgoelkdjendaaGreatDoor
/- the page's Rune, Text -/
namespace Go.Proofs.YtefgoelkdjendaaGreatDoor
open Go.RowKit Go.Lib

def RnPost (r : Int) (w : World) (x : Ending) (w' : World) : Prop := x = .returned (.int .i32 r) ∧ Below w.heap.size w w'
theorem visR_take {L : List OpD} {k : Nat} (hk : k < (visE L).length) : (visR L).take (k + 1) = (visR L).take k ++ [rnE L (visE L)[k]] := by
  have h1 : k < (visR L).length := by rw [visR_len]; exact hk
  have h2 : (visR L)[k] = rnE L (visE L)[k] := by simp [visR]
  have h3 := List.take_succ_eq_append_getElem h1
  rw [h2] at h3
  exact h3
theorem ba_join (a b : List UInt8) : Value.string ((⟨a.toArray⟩ : ByteArray) ++ (⟨b.toArray⟩ : ByteArray)) = S (a ++ b) := by
  unfold S
  congr 1
/-- the page's own Make -/
def StrPost (l : List UInt8) (w : World) (e : Ending) (w' : World) : Prop := e = .returned (S l) ∧ w = w'
def RTextPost (s : List UInt8) (w : World) (x : Ending) (w' : World) : Prop := x = .returned (S s) ∧ Below w.heap.size w w'
end Go.Proofs.YtefgoelkdjendaaGreatDoor
/- the page's Behind: a row and an op -/
namespace Go.Proofs.YtefgoelkdjendaaGreatDoor
open Go.RowKit Go.Lib Go.Sort

theorem OwnO.wide {base b2 : Nat} {w : World} {v : Value} {L : List OpR} (h : OwnO base w v L) (hb : b2 ≤ base) : OwnO b2 w v L :=
  ⟨owns_base h.own hb, h.at_, h.apart, fun r hr ad ha => Nat.le_trans hb (h.ge r hr ad ha)⟩
def BehPost (l : List OpR) (o : OpD) (w : World) (x : Ending) (w' : World) : Prop := ∃ v L, x = .returned v ∧ OwnO w.heap.size w' v L ∧ OpR.os L = OpR.os l ++ [o] ∧ Below w.heap.size w w'
set_option maxRecDepth 100000 in
set_option maxHeartbeats 4000000 in
theorem rBehind_any (a : Option Addr) (cap : Nat) (l : List OpR) (o : OpD) (oa : Option Addr) (oc : Nat) (w : World) (h : OpsAt w a l) (hg : ∀ r ∈ l, r.o.gone.length ≤ 1000000) (hl : l.length ≤ 100000) (ho : ElemsAt w oa o.gone) (hgl : o.gone.length ≤ 1000000) (hts : o.text.size ≤ BIG) :
    Calls Tryz.prog 10 #[.slice a l.length cap, o.v oa oc] w (BehPost l o w) := by
  obtain ⟨i0, hq0, hz0, hz1, hz2⟩ := info_parts Tryz.infoOp
  have HCO := Lib.hid (fun wx (hx : Below w.heap.size w wx) => CopyOps_any a cap l wx (h.below hx) hg (by omega))
  have HX := Lib.hid (BoxO.new w o oa oc)
  have HB0 : RowKit.Hid (Below w.heap.size w (w.alloc (o.obj oa oc))) := Lib.hid ((Below.refl _ _).alloc (Nat.le_refl _) _)
  have HC2 := Lib.hid (fun wx (hx : Below w.heap.size w wx) => CopyOp_any o oa oc wx (ho.below hx) hgl)
  have HGL : RowKit.Hid (o.gone.length ≤ BIG) := Lib.hid (by unfold BIG; omega)
  have HTS := Lib.hid hts
  have HOS : RowKit.Hid (OpR.os l = OpR.os l) := Lib.hid rfl
  obtain ⟨n, hn⟩ : ∃ n, l.length = n := ⟨_, rfl⟩
  have HN := Lib.hid hn
  rw [hn] at HCO hl ⊢
  have HM1 := Lib.hid (show n + 1 ≤ maxLen from by simp only [maxLen]; omega)
  have HM2 := Lib.hid (show (n + 1) * 112 ≤ 140737488355328 from by omega)
  have HLN := Lib.hid hl
  clear h hg ho hgl hts hn
  unfold CopysPost at HCO
  obtain ⟨site, seq, kind, ⟨es, eq, ei⟩, text, gone, of, num, gen⟩ := o
  unfold CopyPost OpD.v at HC2
  unfold OpD.v
  unfold OpD.obj at HX HB0
  simp only at HC2 HGL HTS HX HB0 ⊢
  obtain ⟨gl, hgg⟩ : ∃ gl, gone.length = gl := ⟨_, rfl⟩
  have HGG := Lib.hid hgg
  rw [hgg] at HC2 HX HB0 ⊢
  clear hgg
  generalize hwu : (w.alloc (.cells #[.int .i64 site, .int .i64 seq, .int .i64 kind, .int .i64 es, .int .i64 eq, .int .i64 ei, .string text, .slice oa gl oc, .int .i64 of, .int .i64 num, .int .i64 gen] 33)) = wu at *
  have HWU := Lib.hid hwu
  have hx := (HX.out.step (Below.refl wu.heap.size wu).drew)
  have d0 := hx.c0
  have d1 := hx.c1
  have d2 := hx.c2
  have d3 := hx.c3
  have d4 := hx.c4
  have d5 := hx.c5
  have d6 := hx.c6
  have d7 := hx.c7
  have d8 := hx.c8
  have d9 := hx.c9
  have da := hx.ca
  have dl := hx.lt
  simp only [HGG.out] at d0 d1 d2 d3 d4 d5 d6 d7 d8 d9 da
  have HBD : RowKit.Hid (Below w.heap.size w wu.drew) := Lib.hid HB0.out.drew
  have HXD := Lib.hid hx
  clear hx
  go_enter Tryz.func10, Tryz.ntmps10
  go_upto_region 1 with fail
  go_region_law (first
    | (go_simp; go_at_call 28; refine (HCO.out wu.drew HBD.out).mono ?_; rintro x3 w3 ⟨v3, L3, rfl, hown30, hos3, hb3⟩; have hown3 := hown30.wide HBD.out.size; have hl3 : L3.length = n := (by have h := congrArg List.length hos3; rw [os_len, os_len, HN.out] at h; exact h); obtain ⟨a3, c3, hv3, _, _⟩ := hown3.ops (by unfold BIG; omega); rw [hl3] at hv3; subst hv3; have HLL := Lib.hid hl3; have HO6 := Lib.hid hown3; have HOS3 := Lib.hid hos3; have HB6 := Lib.hid (HBD.out.trans (hb3.mono HBD.out.size)); have hx3 := HXD.out.step hb3; have q0 := hx3.c0; have q1 := hx3.c1; have q2 := hx3.c2; have q3 := hx3.c3; have q4 := hx3.c4; have q5 := hx3.c5; have q6 := hx3.c6; have q7 := hx3.c7; have q8 := hx3.c8; have q9 := hx3.c9; have qa := hx3.ca; have ql := hx3.lt; simp only [HGG.out] at q0 q1 q2 q3 q4 q5 q6 q7 q8 q9 qa; clear hown30 hown3 hos3 hb3 hl3 hx3)
    | (go_simp; go_at_call 29; refine (HC2.out w3 HB6.out).mono ?_; rintro x7 w7 ⟨a7, cp7, rfl, hown7, hb7⟩; obtain ⟨a9, c9', hv9, hel9, _, _, hnone9⟩ := elems_own (by rw [HGG.out]; exact hown7); rw [HGG.out] at hv9; simp only [Value.slice.injEq] at hv9; obtain ⟨rfl, -, rfl⟩ := hv9; have HE7 := Lib.hid hel9; have HNO7 := Lib.hid hnone9; have HAP7 := Lib.hid (show ∀ ad, a7 = some ad → some ad.block ≠ (Value.slice a3 n c3).ownBlock ∧ ad.block < w7.heap.size ∧ w.heap.size ≤ ad.block from fun ad ha => by subst ha; have h9 := hown7.lt ad.block rfl; refine ⟨fun e2 => ?_, h9.2, by have := HB6.out.size; omega⟩; have := (HO6.out.own.lt _ e2.symm).2; omega); have HB7 := Lib.hid (HB6.out.trans (hb7.mono HB6.out.size)); have HO7 := Lib.hid (HO6.out.below hb7); have HOW7 := Lib.hid (show w7.ownsRow w.heap.size 33 11 (.slice a3 n c3) n (ocs L3) from by have h9 := HO7.out.own; rw [HLL.out] at h9; exact h9); clear hown7 hb7 hel9 hnone9)
    | (refine step_append_lies _ (by rfl) _ _ _ (by rfl) w.heap.size 33 i0 (.agg #[.int .i64 0, .int .i64 0, .int .i64 0, .int .i64 0, .int .i64 0, .int .i64 0, .string ⟨#[]⟩, .slice none 0 0, .int .i64 0, .int .i64 0, .int .i64 0]) 11 112 Tryz.underlying24 hq0 hz0 hz1 hz2 (by rfl) (by decide) (.slice a3 n c3) n _ (by rfl) (HOW7.out.alloc _) ⟨w7.heap.size, 0, none⟩ 1 1 (OpR.cs ⟨⟨site, seq, kind, ⟨es, eq, ei⟩, text, gone, of, num, gen⟩, a7, cp7⟩) (by rfl) (by rfl) (by have h9 := cell_op_newR w7 ⟨⟨site, seq, kind, ⟨es, eq, ei⟩, text, gone, of, num, gen⟩, a7, cp7⟩ 33; simp only [HGG.out] at h9; exact h9) (cs_oneR _) (by omega) HM1.out HM2.out (by have := HB7.out.size; simp; omega) _ rfl ?_; intro g8 c8 w8 hown8 hgrow8 hat8 hlt8; have HB8 := Lib.hid ((HB7.out.alloc HB7.out.size _).grown hgrow8 (by have := HB7.out.size; simp; omega) (fun q hq => own_ge HOW7.out q hq)); have HO8 := Lib.hid (HO7.out.push (r := ⟨⟨site, seq, kind, ⟨es, eq, ei⟩, text, gone, of, num, gen⟩, a7, cp7⟩) (v8 := .slice (some ⟨g8, 0, none⟩) (n + 1) c8) ⟨HE7.out, HGL.out, HTS.out, HNO7.out⟩ HAP7.out (by rw [HLL.out]; exact hown8) hgrow8 (by rcases hat8 with e | e; exact .inl e.symm; right; rw [e]; rfl)); clear hown8 hgrow8 hat8 hlt8)
    | fail)
  all_goals
    go_wp2_with fail
    go_ret
    exact ⟨_, _, rfl, HO8.out, by unfold OpR.os at *; rw [List.map_append]; exact congrArg (· ++ _) HOS3.out, HB8.out⟩
end Go.Proofs.YtefgoelkdjendaaGreatDoor
/- an op's box, written over cell by cell -/
namespace Go.Proofs.YtefgoelkdjendaaGreatDoor
open Go.RowKit Go.Lib Go.Sort

theorem box_of {w : World} {b n : Nat} {t : TypeId} {o : OpD} {a : Option Addr} {cap : Nat} (h : w.heap[b]? = some (.cells #[.int .i64 o.site, .int .i64 o.seq, .int .i64 o.kind, .int .i64 o.after.s, .int .i64 o.after.q, .int .i64 o.after.i, .string o.text, .slice a n cap, .int .i64 o.of, .int .i64 o.num, .int .i64 o.gen] t (0, 0))) (hn : n = o.gone.length) : BoxO w b o a cap := by
  subst hn
  refine ⟨(Array.getElem?_eq_some_iff.1 h).1, ?_, ?_, ?_, ?_, ?_, ?_, ?_, ?_, ?_, ?_, ?_⟩ <;> simp [World.cell?, h]
section
variable {w : World} {b : Nat} {t : TypeId} {c0 c1 c2 c3 c4 c5 c6 c7 c8 c9 ca : Value}
theorem blk_set2 (h : w.heap[b]? = some (.cells #[c0, c1, c2, c3, c4, c5, c6, c7, c8, c9, ca] t (0, 0))) (v : Value) : (w.setCell ⟨b, 2, none⟩ v).heap[b]? = some (.cells #[c0, c1, v, c3, c4, c5, c6, c7, c8, c9, ca] t (0, 0)) := by
  unfold World.setCell
  simp [Array.getElem?_modify, h]
theorem blk_set3 (h : w.heap[b]? = some (.cells #[c0, c1, c2, c3, c4, c5, c6, c7, c8, c9, ca] t (0, 0))) (v : Value) : (w.setCell ⟨b, 3, none⟩ v).heap[b]? = some (.cells #[c0, c1, c2, v, c4, c5, c6, c7, c8, c9, ca] t (0, 0)) := by
  unfold World.setCell
  simp [Array.getElem?_modify, h]
theorem blk_set4 (h : w.heap[b]? = some (.cells #[c0, c1, c2, c3, c4, c5, c6, c7, c8, c9, ca] t (0, 0))) (v : Value) : (w.setCell ⟨b, 4, none⟩ v).heap[b]? = some (.cells #[c0, c1, c2, c3, v, c5, c6, c7, c8, c9, ca] t (0, 0)) := by
  unfold World.setCell
  simp [Array.getElem?_modify, h]
theorem blk_set5 (h : w.heap[b]? = some (.cells #[c0, c1, c2, c3, c4, c5, c6, c7, c8, c9, ca] t (0, 0))) (v : Value) : (w.setCell ⟨b, 5, none⟩ v).heap[b]? = some (.cells #[c0, c1, c2, c3, c4, v, c6, c7, c8, c9, ca] t (0, 0)) := by
  unfold World.setCell
  simp [Array.getElem?_modify, h]
theorem blk_set6 (h : w.heap[b]? = some (.cells #[c0, c1, c2, c3, c4, c5, c6, c7, c8, c9, ca] t (0, 0))) (v : Value) : (w.setCell ⟨b, 6, none⟩ v).heap[b]? = some (.cells #[c0, c1, c2, c3, c4, c5, v, c7, c8, c9, ca] t (0, 0)) := by
  unfold World.setCell
  simp [Array.getElem?_modify, h]
theorem blk_set7 (h : w.heap[b]? = some (.cells #[c0, c1, c2, c3, c4, c5, c6, c7, c8, c9, ca] t (0, 0))) (v : Value) : (w.setCell ⟨b, 7, none⟩ v).heap[b]? = some (.cells #[c0, c1, c2, c3, c4, c5, c6, v, c8, c9, ca] t (0, 0)) := by
  unfold World.setCell
  simp [Array.getElem?_modify, h]
theorem blk_set8 (h : w.heap[b]? = some (.cells #[c0, c1, c2, c3, c4, c5, c6, c7, c8, c9, ca] t (0, 0))) (v : Value) : (w.setCell ⟨b, 8, none⟩ v).heap[b]? = some (.cells #[c0, c1, c2, c3, c4, c5, c6, c7, v, c9, ca] t (0, 0)) := by
  unfold World.setCell
  simp [Array.getElem?_modify, h]
theorem blk_set9 (h : w.heap[b]? = some (.cells #[c0, c1, c2, c3, c4, c5, c6, c7, c8, c9, ca] t (0, 0))) (v : Value) : (w.setCell ⟨b, 9, none⟩ v).heap[b]? = some (.cells #[c0, c1, c2, c3, c4, c5, c6, c7, c8, v, ca] t (0, 0)) := by
  unfold World.setCell
  simp [Array.getElem?_modify, h]
theorem blk_seta (h : w.heap[b]? = some (.cells #[c0, c1, c2, c3, c4, c5, c6, c7, c8, c9, ca] t (0, 0))) (v : Value) : (w.setCell ⟨b, 10, none⟩ v).heap[b]? = some (.cells #[c0, c1, c2, c3, c4, c5, c6, c7, c8, c9, v] t (0, 0)) := by
  unfold World.setCell
  simp [Array.getElem?_modify, h]
end
theorem cell_far {w : World} {b b2 o c : Nat} {u : Value} {v : Option Value} (h : w.cell? ⟨b2, o, none⟩ = v) (hne : b2 ≠ b) : (w.setCell ⟨b, c, none⟩ u).cell? ⟨b2, o, none⟩ = v := by
  unfold World.cell? at h ⊢
  simp only [set_other hne]
  exact h
theorem blk_cells {w : World} {b : Nat} {t : TypeId} {c0 c1 c2 c3 c4 c5 c6 c7 c8 c9 ca : Value} (h : w.heap[b]? = some (.cells #[c0, c1, c2, c3, c4, c5, c6, c7, c8, c9, ca] t (0, 0))) :
    w.cell? ⟨b, 2, none⟩ = some c2 ∧ w.cell? ⟨b, 3, none⟩ = some c3 ∧ w.cell? ⟨b, 4, none⟩ = some c4 ∧ w.cell? ⟨b, 5, none⟩ = some c5 ∧ w.cell? ⟨b, 6, none⟩ = some c6 ∧ w.cell? ⟨b, 7, none⟩ = some c7 ∧ w.cell? ⟨b, 8, none⟩ = some c8 ∧ w.cell? ⟨b, 9, none⟩ = some c9 ∧ w.cell? ⟨b, 10, none⟩ = some ca ∧ (∀ c, w.frozen? ⟨b, c, none⟩ = false) ∧ b < w.heap.size := by
  refine ⟨?_, ?_, ?_, ?_, ?_, ?_, ?_, ?_, ?_, fun c => ?_, (Array.getElem?_eq_some_iff.1 h).1⟩
  all_goals first | (simp [World.cell?, h]; done) | (simp [World.frozen?, h])
/-- what the switch leaves -/
def SwPost (bx : Nat) (wr wx : World) : Prop := ∃ (o : OpD) (oa : Option Addr) (oc : Nat), BoxO wx bx o oa oc ∧ ElemsAt wx oa o.gone ∧ o.gone.length ≤ 1 ∧ o.text.size ≤ 2 ∧ Below wr.heap.size wr wx
theorem sw_k0 {wr w : World} {bx : Nat} {s q : Int} {t : TypeId} (h : w.heap[bx]? = some (.cells #[.int .i64 s, .int .i64 q, .int .i64 0, .int .i64 0, .int .i64 0, .int .i64 0, .string ⟨#[]⟩, .slice none 0 0, .int .i64 0, .int .i64 0, .int .i64 0] t (0, 0))) (hb : Below wr.heap.size wr w) (hg : wr.heap.size ≤ bx) :
    SwPost bx wr ((w.setCell ⟨bx, 2, none⟩ (.int .i64 1)).setCell ⟨bx, 6, none⟩ (.string ⟨#[120, 121]⟩)) ∧
    ∀ x y z : Int, SwPost bx wr (((((w.setCell ⟨bx, 2, none⟩ (.int .i64 1)).setCell ⟨bx, 6, none⟩ (.string ⟨#[120, 121]⟩)).setCell ⟨bx, 3, none⟩ (.int .i64 x)).setCell ⟨bx, 4, none⟩ (.int .i64 y)).setCell ⟨bx, 5, none⟩ (.int .i64 z)) := by
  have h1 := blk_set6 (blk_set2 h (.int .i64 1)) (.string ⟨#[120, 121]⟩)
  refine ⟨⟨⟨s, q, 1, ⟨0, 0, 0⟩, ⟨#[120, 121]⟩, [], 0, 0, 0⟩, none, 0, box_of h1 rfl, ElemsAt.nil none, Nat.zero_le _, Nat.le_refl 2, (hb.setCell hg _).setCell hg _⟩, fun x y z => ?_⟩
  have h2 := blk_set5 (blk_set4 (blk_set3 h1 (.int .i64 x)) (.int .i64 y)) (.int .i64 z)
  exact ⟨⟨s, q, 1, ⟨x, y, z⟩, ⟨#[120, 121]⟩, [], 0, 0, 0⟩, none, 0, box_of h2 rfl, ElemsAt.nil none, Nat.zero_le _, Nat.le_refl 2, ((((hb.setCell hg _).setCell hg _).setCell hg _).setCell hg _).setCell hg _⟩
theorem sw_k1 {wr w : World} {bx : Nat} {s q : Int} {t t2 : TypeId} (h : w.heap[bx]? = some (.cells #[.int .i64 s, .int .i64 q, .int .i64 0, .int .i64 0, .int .i64 0, .int .i64 0, .string ⟨#[]⟩, .slice none 0 0, .int .i64 0, .int .i64 0, .int .i64 0] t (0, 0))) (hb : Below wr.heap.size wr w) (hg : wr.heap.size ≤ bx) (x y z : Int) (c : Nat) :
    SwPost bx wr (((w.alloc (.cells #[.int .i64 x, .int .i64 y, .int .i64 z] t2)).setCell ⟨bx, 2, none⟩ (.int .i64 1)).setCell ⟨bx, 7, none⟩ (.slice (some ⟨w.heap.size, 0, none⟩) 1 c)) ∧
    SwPost bx wr (((w.setCell ⟨bx, 2, none⟩ (.int .i64 1)).alloc (.cells #[.int .i64 x, .int .i64 y, .int .i64 z] t2)).setCell ⟨bx, 7, none⟩ (.slice (some ⟨w.heap.size, 0, none⟩) 1 c)) := by
  have hbl := (Array.getElem?_eq_some_iff.1 h).1
  constructor
  · have h1 : (w.alloc (.cells #[.int .i64 x, .int .i64 y, .int .i64 z] t2)).heap[bx]? = _ := (heap_alloc_old w _ hbl).trans h
    have h2 := blk_set7 (blk_set2 h1 (.int .i64 1)) (.slice (some ⟨w.heap.size, 0, none⟩) 1 c)
    have hn : (w.alloc (.cells #[.int .i64 x, .int .i64 y, .int .i64 z] t2)).heap[w.heap.size]? = some (.cells #[.int .i64 x, .int .i64 y, .int .i64 z] t2) := heap_alloc_new w _
    have hn2 : (((w.alloc (.cells #[.int .i64 x, .int .i64 y, .int .i64 z] t2)).setCell ⟨bx, 2, none⟩ (.int .i64 1)).setCell ⟨bx, 7, none⟩ (.slice (some ⟨w.heap.size, 0, none⟩) 1 c)).heap[w.heap.size]? = some (.cells #[.int .i64 x, .int .i64 y, .int .i64 z] t2) := by
      rw [set_other (by omega), set_other (by omega)]
      exact hn
    refine ⟨⟨s, q, 1, ⟨0, 0, 0⟩, ⟨#[]⟩, [⟨x, y, z⟩], 0, 0, 0⟩, some ⟨w.heap.size, 0, none⟩, c, box_of h2 rfl, ⟨fun j hj => ?_⟩, Nat.le_refl 1, Nat.zero_le _, ((hb.alloc (by omega) _).setCell hg _).setCell hg _⟩
    have h0 : j = 0 := by simpa using hj
    subst h0
    exact ⟨w.heap.size, 0, rfl, (Array.getElem?_eq_some_iff.1 hn2).1, by unfold World.cell?; simp only [hn2]; rfl, by unfold World.cell?; simp only [hn2]; rfl, by unfold World.cell?; simp only [hn2]; rfl⟩
  · have hz : (w.setCell ⟨bx, 2, none⟩ (.int .i64 1)).heap.size = w.heap.size := by simp
    have h1 : ((w.setCell ⟨bx, 2, none⟩ (.int .i64 1)).alloc (.cells #[.int .i64 x, .int .i64 y, .int .i64 z] t2)).heap[bx]? = _ := (heap_alloc_old _ _ (by rw [hz]; exact hbl)).trans (blk_set2 h (.int .i64 1))
    have h2 := blk_set7 h1 (.slice (some ⟨w.heap.size, 0, none⟩) 1 c)
    have hn : ((w.setCell ⟨bx, 2, none⟩ (.int .i64 1)).alloc (.cells #[.int .i64 x, .int .i64 y, .int .i64 z] t2)).heap[w.heap.size]? = some (.cells #[.int .i64 x, .int .i64 y, .int .i64 z] t2) := by
      have := heap_alloc_new (w.setCell ⟨bx, 2, none⟩ (.int .i64 1)) (.cells #[.int .i64 x, .int .i64 y, .int .i64 z] t2)
      rw [hz] at this
      exact this
    have hn2 : (((w.setCell ⟨bx, 2, none⟩ (.int .i64 1)).alloc (.cells #[.int .i64 x, .int .i64 y, .int .i64 z] t2)).setCell ⟨bx, 7, none⟩ (.slice (some ⟨w.heap.size, 0, none⟩) 1 c)).heap[w.heap.size]? = some (.cells #[.int .i64 x, .int .i64 y, .int .i64 z] t2) := by
      rw [set_other (by omega)]
      exact hn
    refine ⟨⟨s, q, 1, ⟨0, 0, 0⟩, ⟨#[]⟩, [⟨x, y, z⟩], 0, 0, 0⟩, some ⟨w.heap.size, 0, none⟩, c, box_of h2 rfl, ⟨fun j hj => ?_⟩, Nat.le_refl 1, Nat.zero_le _, (((hb.setCell hg _).alloc (by rw [hz]; omega) _).setCell hg _)⟩
    have h0 : j = 0 := by simpa using hj
    subst h0
    exact ⟨w.heap.size, 0, rfl, (Array.getElem?_eq_some_iff.1 hn2).1, by unfold World.cell?; simp only [hn2]; rfl, by unfold World.cell?; simp only [hn2]; rfl, by unfold World.cell?; simp only [hn2]; rfl⟩
end Go.Proofs.YtefgoelkdjendaaGreatDoor
/- wakes of layer 6 -/
namespace Go.Proofs.YtefgoelkdjendaaGreatDoor
open Go.RowKit Go.Lib

def dk1 : OpD := ⟨1, 1, 1, ⟨0, 0, 0⟩, ⟨#[97]⟩, [], 0, 0, 0⟩
def dk2 : OpD := ⟨1, 2, 2, ⟨0, 0, 0⟩, ⟨#[]⟩, [], 1, 1, 0⟩
theorem dk_row : rowP [dk1, dk2] := by
  refine ⟨by decide, fun k hk => ?_⟩
  have : k = 0 ∨ k = 1 := by simp at hk; omega
  rcases this with rfl | rfl
  · show tk [] dk1 = true
    kernel_rfl
  · show tk [dk1] dk2 = true
    kernel_rfl
theorem dk_row1 : rowP [dk1] := rowP_take dk_row 1
theorem dk_row0 : rowP [] := rowP_take dk_row 0
theorem dk_txt : docT [dk1, dk2] = [] := by kernel_rfl
theorem dk_txt1 : docT [dk1] = [97] := by kernel_rfl
theorem dk_txt0 : docT [] = [] := by kernel_rfl
theorem dk_ops (w : World) : OpsAt (w.alloc (.cells #[.int .i64 1, .int .i64 1, .int .i64 1, .int .i64 0, .int .i64 0, .int .i64 0, .string ⟨#[97]⟩, .slice none 0 0, .int .i64 0, .int .i64 0, .int .i64 0, .int .i64 1, .int .i64 2, .int .i64 2, .int .i64 0, .int .i64 0, .int .i64 0, .string ⟨#[]⟩, .slice none 0 0, .int .i64 1, .int .i64 1, .int .i64 0] 33)) (some ⟨w.heap.size, 0, none⟩) [⟨dk1, none, 0⟩, ⟨dk2, none, 0⟩] := by
  refine ⟨fun j hj => ⟨w.heap.size, 0, rfl, by simp, fun c u hu => ?_⟩, fun j hj => ?_, by decide⟩
  · have hj2 : j = 0 ∨ j = 1 := by simp at hj; omega
    have hc : c < 11 := by
      have := (List.getElem?_eq_some_iff.1 hu).1
      rcases hj2 with rfl | rfl <;> exact this
    rw [World.cell?_alloc_new, ← hu]
    have hcc : c = 0 ∨ c = 1 ∨ c = 2 ∨ c = 3 ∨ c = 4 ∨ c = 5 ∨ c = 6 ∨ c = 7 ∨ c = 8 ∨ c = 9 ∨ c = 10 := by omega
    rcases hj2 with rfl | rfl <;> rcases hcc with rfl | rfl | rfl | rfl | rfl | rfl | rfl | rfl | rfl | rfl | rfl <;> rfl
  · have hj2 : j = 0 ∨ j = 1 := by simp at hj; omega
    rcases hj2 with rfl | rfl
    · exact ⟨ElemsAt.nil _, Nat.zero_le _, (show (1 : Nat) ≤ BIG from by decide), fun _ => ⟨rfl, rfl⟩⟩
    · exact ⟨ElemsAt.nil _, Nat.zero_le _, (show (0 : Nat) ≤ BIG from by decide), fun _ => ⟨rfl, rfl⟩⟩
end Go.Proofs.YtefgoelkdjendaaGreatDoor
/- lectionarylaw6.with: the walk that four laws share, for what is written -/
namespace Go.Proofs.YtefgoelkdjendaaGreatDoor
open Go.RowKit Go.Lib Go.Sort

theorem szs_row {L : List OpR} (hr : rowP (OpR.os L)) : Szs L ∧ ∀ r ∈ L, r.o.gone.length ≤ 1000000 := by
  refine ⟨fun r hm => ?_, fun r hm => ?_⟩
  · have := (okOp_text (row_ok hr.2 r.o (List.mem_map_of_mem hm))).2.2
    omega
  · have := (gone_ok (row_ok hr.2 r.o (List.mem_map_of_mem hm))).1
    omega
/-- the row l, as it stands at the head of the inner loop -/
def WRow (w : World) (a : Option Addr) (c : Nat) (L : List OpR) : Prop := OpsAt w a L ∧ L.length ≤ c ∧ rowP (OpR.os L)
theorem WRow.below {w w' : World} {a : Option Addr} {c : Nat} {L : List OpR} (h : WRow w a c L) (hb : Below w.heap.size w w') : WRow w' a c L := ⟨h.1.below hb, h.2.1, h.2.2⟩
end Go.Proofs.YtefgoelkdjendaaGreatDoor
