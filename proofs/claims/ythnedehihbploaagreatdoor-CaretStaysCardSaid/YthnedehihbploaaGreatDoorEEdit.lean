/- package edit: isSite, next, asked, rising (of one element at most), fitting -/
import Derived.Test.YthnedehihbploaaGreatDoorDIdle
import Derived.Test.YthnedehihbploaaGreatDoorShelfE
import Derived.Test.YthnedehihbploaaGreatDoorOElem
import Derived.Lib.AppendIntMem
import Derived.Test.YthnedehihbploaaGreatDoorEPure
import Derived.Deep.DeepCutAuto
import Derived.Deep.RegionLaw
import Derived.Deep.RegionHeld3
import Derived.IntWalk
import Derived.Test.YthnedehihbploaaGreatDoorZWith
import Derived.Laws.Closers25b
namespace Go.Proofs.YthnedehihbploaaGreatDoor
open Go.RowKit Go.Lib Go.Sort

theorem eSite_any (x : Int) (w : World) : Calls Tryz.prog 109 #[.int .i64 x] w (Boo (btw x 1 8) w) := by
  by_cases h1 : 1 ≤ x
  · have d1 : decide (1 ≤ x) = true := decide_eq_true h1
    by_cases h2 : x ≤ 8
    · have d2 : decide (x ≤ 8) = true := decide_eq_true h2
      rw [show btw x 1 8 = true from decide_eq_true ⟨h1, h2⟩]
      go_enter Tryz.func109, Tryz.ntmps109
      go_wp2
      go_ret
      exact ⟨rfl, rfl⟩
    · have d2 : decide (x ≤ 8) = false := decide_eq_false h2
      rw [show btw x 1 8 = false from decide_eq_false (fun h => h2 h.2)]
      go_enter Tryz.func109, Tryz.ntmps109
      go_wp2
      go_ret
      exact ⟨rfl, rfl⟩
  · have d1 : decide (1 ≤ x) = false := decide_eq_false h1
    rw [show btw x 1 8 = false from decide_eq_false (fun h => h1 h.1)]
    go_enter Tryz.func109, Tryz.ntmps109
    go_wp2
    go_ret
    exact ⟨rfl, rfl⟩
set_option maxRecDepth 100000 in
set_option maxHeartbeats 2000000 in
theorem eNext_any (a : Option Addr) (cap : Nat) (l : List OpR) (s : Int) (w : World) (h : OpsAt w a l) (hl : l.length ≤ 1000) : Calls Tryz.prog 93 #[.slice a l.length cap, .int .i64 s] w (IntB ((cnt (OpR.os l) s : Int) + 1) w) := by
  obtain ⟨n, hn⟩ : ∃ n, l.length = n := ⟨_, rfl⟩
  have HN := Lib.hid hn
  have HH := Lib.hid h
  rw [hn] at hl ⊢
  clear h hn
  go_enter Tryz.func93, Tryz.ntmps93
  go_wp2_with fail
  go_loopw [5, 10] (fun s5 s10 wr => ∃ k : Nat, s10 = .int .i64 k ∧ k ≤ n ∧ s5 = .int .i64 ((cnt ((OpR.os l).take k) s : Int) + 1) ∧ Below w.heap.size w wr) (fun _ s10 _ => n - (RowKit.intOf s10).toNat)
  case atStart => exact ⟨0, rfl, Nat.zero_le _, rfl, Below.refl _ _⟩
  case round =>
    obtain ⟨k, rfl, hk, rfl, hb⟩ := hrel
    have HB := Lib.hid hb
    by_cases hlt : k < n
    · have hkl : k < l.length := by rw [HN.out]; exact hlt
      obtain ⟨b, off, rfl, hbb, c0, c1, c2, c3, c4, c5, c6, c7, c8, c9, ca⟩ := (HH.out.below hb).cells k hkl
      have HC := Lib.hid (cnt_take l s hkl)
      have hcle : cnt ((OpR.os l).take k) s ≤ k := Nat.le_trans (cnt_le _ _) (by rw [List.length_take]; omega)
      generalize cnt ((OpR.os l).take k) s = c at *
      generalize l[k] = r at *
      clear hkl hb
      obtain ⟨⟨site, seq, kind, ⟨es, eq, ei⟩, text, gone, of, num, gen⟩, ra, rc⟩ := r
      simp only at c0 c1 c2 c3 c4 c5 c6 c7 c8 c9 ca HC
      by_cases hs : site = s
      · have HC2 := Lib.hid (HC.out.trans (by rw [if_pos hs]))
        subst hs
        go_wp2_with fail
        go_roundw
        case rel => exact ⟨k + 1, by go_num, by omega, by rw [HC2.out]; go_num, HB.out.alloc HB.out.size _⟩
        case measure => simp [RowKit.intOf]; omega
      · have HC2 := Lib.hid (HC.out.trans (by rw [if_neg hs]))
        go_wp2_with fail
        go_roundw
        case rel => exact ⟨k + 1, by go_num, by omega, by rw [HC2.out]; rfl, HB.out.alloc HB.out.size _⟩
        case measure => simp [RowKit.intOf]; omega
    · have HF := Lib.hid (show (OpR.os l).take k = OpR.os l from List.take_of_length_le (by rw [os_len, HN.out]; omega))
      clear hb
      go_wp2_with fail
      go_ret
      exact ⟨ret_int (by rw [HF.out]), HB.out⟩
/-- what is asked may be -/
theorem eAsked_ok (vis at_ n : Nat) (site : Int) (s : ByteArray) (w : World) (hs : 1 ≤ site ∧ site ≤ 8) (hk : okT s = true) (hsz : s.size ≤ 60000) (hrc : Lib.runeCount s ≤ 12) (hv : vis ≤ 1000) (ha : at_ ≤ vis) (hn : n ≤ vis - at_) (hne : n = 0 → s.toList ≠ []) :
    Calls Tryz.prog 92 #[.int .i64 vis, .int .i64 site, .int .i64 at_, .int .i64 n, .string s] w (IntB 0 w) := by
  have HS := Lib.hid (fun wx => (show Calls Tryz.prog 109 #[.int .i64 site] wx (Boo true wx) from by
    have := eSite_any site wx
    rwa [show btw site 1 8 = true from decide_eq_true hs] at this))
  have HC := Lib.hid (fun wx => (show Calls Tryz.prog 110 #[.string s] wx (IntB 0 wx) from by
    have := Check_any s wx
    unfold CheckPost at this
    rwa [errOf_ok hk] at this))
  have HR := Lib.hid (fun wx => (show Calls Tryz.prog 111 #[.string s] wx (IntB (Lib.runeCount s) wx) from by
    refine (Go.Proofs.Any.utf8_RuneCountInString Tryz.rcount s wx (by omega)).mono ?_
    rintro e w' ⟨rfl, pos, rfl⟩
    exact ⟨rfl, (Below.refl _ _).alloc (Nat.le_refl _) _⟩))
  unfold IntB at HC HR
  have hrc2 : ((Lib.runeCount s : Nat) : Int) ≤ 12 := by omega
  generalize Lib.runeCount s = rc at *
  have f1 : decide ((at_ : Int) < 0) = false := decide_eq_false (by omega)
  have f2 : decide ((vis : Int) < (at_ : Int)) = false := decide_eq_false (by omega)
  have f3 : decide ((n : Int) < 0) = false := decide_eq_false (by omega)
  have f4 : decide ((vis : Int) - (at_ : Int) < (n : Int)) = false := decide_eq_false (by omega)
  have f5 : decide ((12 : Int) < (rc : Int)) = false := decide_eq_false (by omega)
  have HNE := Lib.hid hne
  clear hs hk hsz hrc hne
  by_cases h0 : n = 0
  · have hsn := HNE.out h0
    have e1 : s.toList.isEmpty = false := by cases h : s.toList with | nil => exact absurd h hsn | cons _ _ => rfl
    subst h0
    go_enter Tryz.func92, Tryz.ntmps92
    go_wp2_with (first
      | (go_at_call 109; refine (HS.out _).mono ?_; rintro x1 w1 ⟨rfl, rfl⟩)
      | (go_at_call 110; refine (HC.out _).mono ?_; rintro x2 w2 ⟨rfl, hb2⟩; have HB2 := Lib.hid hb2; clear hb2)
      | (go_at_call 111; refine (HR.out _).mono ?_; rintro x3 w3 ⟨rfl, hb3⟩; have HB3 := Lib.hid (HB2.out.trans (hb3.mono HB2.out.size)); clear hb3)
      | fail)
    go_ret
    exact ⟨rfl, HB3.out⟩
  · have e0 : decide ((n : Int) = 0) = false := decide_eq_false (by omega)
    have e1 : ¬ ((n : Int) = 0) := by omega
    go_enter Tryz.func92, Tryz.ntmps92
    go_wp2_with (first
      | (go_at_call 109; refine (HS.out _).mono ?_; rintro x1 w1 ⟨rfl, rfl⟩)
      | (go_at_call 110; refine (HC.out _).mono ?_; rintro x2 w2 ⟨rfl, hb2⟩; have HB2 := Lib.hid hb2; clear hb2)
      | (go_at_call 111; refine (HR.out _).mono ?_; rintro x3 w3 ⟨rfl, hb3⟩; have HB3 := Lib.hid (HB2.out.trans (hb3.mono HB2.out.size)); clear hb3)
      | fail)
    go_ret
    exact ⟨rfl, HB3.out⟩
theorem wpList_append_fromK {P : Program} {w : World} {ops : Array Oper} {rest : List Oper} {o : Oper} {a : Act} {Q : Exit → Act → World → Prop} (hgd : o.guard = none) (s x : Operand) (t : TypeId)
    (ho : o.op = .call { callee := .builtin .append, args := #[s, x], argTypes := #[t, t] })
    (base : Nat) (e : TypeId) (i : TypeInfo) (z : Value) (size bytes : Nat) (ht : P.underlying t = some (.slice e)) (hi : P.info? e = some i) (hz : i.zero = some z)
    (hsize : i.size = size) (hby : i.bytes = bytes) (hzs : z.cells.size = size) (hsz : 0 < size)
    (v : Value) (n : Nat) (xs : List Value) (hs : a.eval s = v) (hown : w.ownsRow base e size v n xs)
    (ao : Option Addr) (m c : Nat) (news : List Value) (hx : a.eval x = .slice ao m c) (hl : news.length = m * size) (hnone : ao = none → m = 0 ∧ c = 0) (hnews : ∀ ad, ao = some ad → ∀ j u, news[j]? = some u → w.cell? (ad.add j) = some u) (h1 : ∀ u ∈ news, u.oneCell' = true)
    (h63 : n + m ≤ maxLen) (hbytes : (n + m) * bytes ≤ 140737488355328) (hbase : base ≤ w.heap.size)
    (h : ∀ v' w', w'.ownsRow base e size v' (n + m) (xs ++ news) → w.grownBy w' v.ownBlock → wpList P ops Q rest (a.put o.dst v') w') : wpList P ops Q (o :: rest) a w := by
  cases ao with
  | none =>
    obtain ⟨rfl, rfl⟩ := hnone rfl
    obtain rfl : news = [] := List.eq_nil_of_length_eq_zero (by rw [hl]; simp)
    refine wpList_append_own_none hgd s x t ho base e i size ht hi v n xs hs hown hx ?_
    exact h v w (by simpa using hown) (World.grownBy.refl _ _)
  | some ad =>
    refine wpList_append_own _ hgd s x t ho base e i z size bytes ht hi hz hsize hby hzs hsz v n xs hs hown ad m c news hx hl (hnews ad rfl) h1 h63 hbytes hbase ?_
    intro v' w' h2 h3 _
    exact h v' w' h2 h3
theorem eEcs_one (l : List El) : ∀ u ∈ ecs l, u.oneCell' = true := by
  intro u hu
  obtain ⟨e, _, he⟩ := List.mem_flatMap.1 hu
  exact cs_one e u he
theorem eElems_news {w : World} {a : Option Addr} {l : List El} (h : ElemsAt w a l) : ∀ ad, a = some ad → ∀ j u, (ecs l)[j]? = some u → w.cell? (ad.add j) = some u := by
  intro ad had j u hu
  have hj : j < (ecs l).length := (List.getElem?_eq_some_iff.1 hu).1
  rw [ecs_length] at hj
  have hk : j / 3 < l.length := by omega
  obtain ⟨b, off, ha, hb, c0, c1, c2⟩ := h.cell (j / 3) hk
  rw [had] at ha
  obtain rfl := Option.some.inj ha
  have hget : (ecs l)[j]? = (El.cs l[j / 3])[j % 3]? := by
    have h9 := ecs_get l (j / 3) (j % 3) hk (by omega)
    rw [show j / 3 * 3 + j % 3 = j from by omega] at h9
    exact h9
  rw [hget] at hu
  rw [Addr.add_lit]
  have h3 : j % 3 = 0 ∨ j % 3 = 1 ∨ j % 3 = 2 := by omega
  unfold El.cs at hu
  rcases h3 with h3 | h3 | h3
  · rw [h3] at hu
    rw [show off + j = off + j / 3 * 3 from by omega, c0]
    exact hu
  · rw [h3] at hu
    rw [show off + j = off + j / 3 * 3 + 1 from by omega, c1]
    exact hu
  · rw [h3] at hu
    rw [show off + j = off + j / 3 * 3 + 2 from by omega, c2]
    exact hu
/-- a copy, in new memory -/
def RisPost (n : Nat) (l : List El) (w : World) (e : Ending) (w' : World) : Prop := ∃ a c, e = .returned (.slice a n c) ∧ ElemsAt w' a l ∧ (a = none → n = 0 ∧ c = 0) ∧ (∀ ad, a = some ad → w.heap.size ≤ ad.block ∧ ad.block < w'.heap.size) ∧ Below w.heap.size w w'
noncomputable def Tryz.svT : TypeInfo := (Tryz.prog.info? 23).get (by kernel_rfl)
noncomputable def Tryz.svE : TypeInfo := (Tryz.prog.info? 37).get (by kernel_rfl)
theorem sort_tiny (p : Option Addr) (n c : Nat) (h1 : n ≤ 1) (lb : Array Value) (w : World) : Calls Tryz.prog 112 #[.iface 23 (.slice p n c), .func (.func 113) #[] lb] w fun e w' => e = .returned (.tuple #[]) ∧ Below w.heap.size w w' := by
  have hn : n = 0 ∨ n = 1 := by omega
  have h : Calls Tryz.prog 112 #[.iface 23 (.slice p n c), .func (.func 113) #[] lb] w fun e w' => e = .returned (.tuple #[]) ∧ ∃ os, w' = grow w os := by
    rcases hn with rfl | rfl
    · exact Go.Proofs.Any.sort_Slice_tiny Tryz.sl6 23 37 Tryz.svT Tryz.svE (by kernel_rfl) (by kernel_rfl) (by kernel_rfl) (by kernel_rfl) 25 (fun w => by kernel_rfl) p 0 c (by omega) 139 (by kernel_rfl) _ _ lb w
    · exact Go.Proofs.Any.sort_Slice_tiny Tryz.sl6 23 37 Tryz.svT Tryz.svE (by kernel_rfl) (by kernel_rfl) (by kernel_rfl) (by kernel_rfl) 25 (fun w => by kernel_rfl) p 1 c (by omega) 140 (by kernel_rfl) _ _ lb w
  refine h.mono ?_
  rintro e w' ⟨rfl, os, rfl⟩
  exact ⟨rfl, Go.Lib.below_grow w.heap.size w (Nat.le_refl _) 0 os⟩
set_option maxRecDepth 100000 in
set_option maxHeartbeats 2000000 in
theorem eRising_tiny (a : Option Addr) (cap n : Nat) (l : List El) (w : World) (h : ElemsAt w a l) (hl : l.length = n) (h1 : n ≤ 1) (hnone : a = none → n = 0 ∧ cap = 0) : Calls Tryz.prog 94 #[.slice a n cap] w (RisPost n l w) := by
  obtain ⟨i0, hi, hz0, hz1, hz2⟩ := info_parts Tryz.infoElem
  have HT := Lib.hid (fun (p : Option Addr) (c : Nat) (lb : Array Value) (wx : World) => sort_tiny p n c h1 lb wx)
  have HN := Lib.hid hnone
  have HE := Lib.hid (eElems_news h)
  have HL := Lib.hid (show (ecs l).length = n * 3 from by rw [ecs_length, hl]; omega)
  have HLN := Lib.hid hl
  have HM1 := Lib.hid (show 0 + n ≤ maxLen from by unfold maxLen; omega)
  have HM2 := Lib.hid (show (0 + n) * 24 ≤ 140737488355328 from by omega)
  have HO := Lib.hid (World.ownsRow_nil w w.heap.size 37 3)
  clear h hnone hl
  go_enter Tryz.func94, Tryz.ntmps94
  go_wp2_with (first
    | (at_builtin; refine wpList_append_fromK rfl _ _ 23 rfl w.heap.size 37 i0 (.agg #[.int .i64 0, .int .i64 0, .int .i64 0]) 3 24 Tryz.underlying23 hi hz0 hz1 hz2 rfl (by decide) _ 0 [] rfl HO.out a n cap (ecs l) rfl HL.out HN.out HE.out (eEcs_one l) HM1.out HM2.out (Nat.le_refl _) ?_; intro v3 w3 hown3 hg3; simp only [Nat.zero_add, List.nil_append] at hown3; have hb3 : Below w.heap.size w w3 := (Below.refl _ _).grown hg3 (Nat.le_refl _) (fun q hq => by cases hq); obtain ⟨a3, c3, hv3, he3, hc3, hm3, hno3⟩ := elems_own (l := l) (by rw [HLN.out]; exact hown3); rw [HLN.out] at hv3 hno3; subst hv3; have HGE3 := Lib.hid (show ∀ ad, a3 = some ad → w.heap.size ≤ ad.block ∧ ad.block < w3.heap.size from fun ad had => hown3.lt ad.block (by subst had; rfl)); have HB3 := Lib.hid hb3; have HE3 := Lib.hid he3; have HNO3 := Lib.hid hno3; clear hown3 hg3 hb3 he3 hc3 hm3 hno3)
    | (go_at_call 112; refine (HT.out _ _ _ _).mono ?_; rintro x5 w5 ⟨rfl, hb5⟩; have c5 : w5.cell? ⟨w3.heap.size, 0, none⟩ = some (.slice a3 n c3) := (hb5.cell (p := ⟨w3.heap.size, 0, none⟩) (by simp)).trans (by rw [World.cell?_alloc_new]; rfl); have l5 : w3.heap.size < w5.heap.size := (by have := hb5.size; simp at this; omega); have HB35 := Lib.hid (((Below.refl w3.heap.size w3).alloc (Nat.le_refl _) _).trans (hb5.mono (by simp))); clear hb5)
    | fail)
  go_ret
  exact ⟨a3, c3, rfl, HE3.out.below HB35.out, HNO3.out, fun ad had => ⟨(HGE3.out ad had).1, Nat.lt_of_lt_of_le (HGE3.out ad had).2 HB35.out.size⟩, HB3.out.trans (HB35.out.mono HB3.out.size)⟩
end Go.Proofs.YthnedehihbploaaGreatDoor
/- edit.fitting -/
namespace Go.Proofs.YthnedehihbploaaGreatDoor
open Go.RowKit Go.Lib Go.Sort

def zeroOpV : Value := .agg #[.int .i64 0, .int .i64 0, .int .i64 0, .int .i64 0, .int .i64 0, .int .i64 0, .string ⟨#[]⟩, .slice none 0 0, .int .i64 0, .int .i64 0, .int .i64 0]
def FitPost (b : Bool) (v : Value) (w : World) (e : Ending) (w' : World) : Prop := e = .returned (.tuple #[if b then v else zeroOpV, .int .i64 (if b then 0 else 6)]) ∧ Below w.heap.size w w'
set_option maxRecDepth 100000 in
set_option maxHeartbeats 4000000 in
theorem eFit_any (a : Option Addr) (cap : Nat) (l : List OpR) (o : OpD) (oa : Option Addr) (oc : Nat) (w : World) (h : OpsAt w a l) (hc : l.length ≤ cap) (hl : l.length ≤ 100000) (ho : OpAt w o oa oc) (b : Bool) (hrow : rowB (OpR.os l ++ [o]) = b) :
    Calls Tryz.prog 95 #[.slice a l.length cap, o.v oa oc] w (FitPost b (o.v oa oc) w) := by
  have HCN := Lib.hid (con_check l ⟨o, oa, oc⟩ b hrow)
  have hb1 : Below w.heap.size w (w.alloc (o.obj oa oc)) := (Below.refl _ _).alloc (Nat.le_refl _) _
  have hb2 : Below w.heap.size w ((w.alloc (o.obj oa oc)).alloc (.cells #[.int .i64 0, .int .i64 0, .int .i64 0, .int .i64 0, .int .i64 0, .int .i64 0, .string ⟨#[]⟩, .slice none 0 0, .int .i64 0, .int .i64 0, .int .i64 0] 39)) := hb1.alloc (by simp) _
  have hz : ((w.alloc (o.obj oa oc)).alloc (.cells #[.int .i64 0, .int .i64 0, .int .i64 0, .int .i64 0, .int .i64 0, .int .i64 0, .string ⟨#[]⟩, .slice none 0 0, .int .i64 0, .int .i64 0, .int .i64 0] 39)).heap.size = w.heap.size + 1 + 1 := by simp
  have hcc := concat_one a cap l ⟨o, oa, oc⟩ _ (h.below hb2) hc (by omega) (ho.below hb2)
  unfold ConOne at hcc
  rw [hz] at hcc
  have HZ := Lib.hid hz
  have HB0 := Lib.hid hb2
  have HCC := Lib.hid hcc
  clear h ho hrow hb1 hb2 hz hcc hc
  unfold IntB at HCN
  generalize (l ++ [⟨o, oa, oc⟩] : List OpR) = L at *
  obtain ⟨n, hln⟩ : ∃ n, l.length = n := ⟨_, rfl⟩
  rw [hln] at HCC HCN ⊢
  clear hln
  obtain ⟨site, seq, kind, ⟨es, eq, ei⟩, text, gone, of, num, gen⟩ := o
  unfold FitPost OpD.v zeroOpV
  unfold OpD.obj at HCC HB0 HZ
  simp only at HCC HB0 HZ ⊢
  obtain ⟨gl, hgg⟩ : ∃ gl, gone.length = gl := ⟨_, rfl⟩
  rw [hgg] at HCC HB0 HZ ⊢
  clear hgg
  cases b
  all_goals
    simp only [errO, if_true, Bool.false_eq_true, if_false] at HCN ⊢
    go_enter Tryz.func95, Tryz.ntmps95
    go_wp2_with (first
      | (go_at_call 44; refine HCC.out.mono ?_; rintro x2 w2 ⟨a2, c2, rfl, hops2, hb2⟩; have HC2 := Lib.hid (HCN.out a2 c2 w2 hops2); rw [← HZ.out] at hb2; have HB2 := Lib.hid hb2; clear hops2 hb2)
      | (go_at_call 97; refine HC2.out.mono ?_; rintro x3 w3 ⟨rfl, hb3⟩; have hbt := HB2.out.trans (hb3.mono HB2.out.size); obtain ⟨hcl, hfr⟩ := bcell hbt; have hz3 : w.heap.size + 1 < w3.heap.size := (by have := hbt.size; rw [HZ.out] at this; omega); have HB3 := Lib.hid (HB0.out.trans (hbt.mono HB0.out.size)); clear hb3 hbt)
      | fail)
  · refine bodyPost_ret (v := .tuple #[.agg #[.int .i64 0, .int .i64 0, .int .i64 0, .int .i64 0, .int .i64 0, .int .i64 0, .string ⟨#[]⟩, .slice none 0 0, .int .i64 0, .int .i64 0, .int .i64 0], .int .i64 6]) (by simp [results, Tryz.results95, go_sem, hcl]) rfl ⟨rfl, ?_⟩
    iterate 11 refine Below.setCell ?_ (by show _ ≤ _; simp only; omega) _
    exact HB3.out
  · refine bodyPost_ret (v := .tuple #[.agg #[.int .i64 site, .int .i64 seq, .int .i64 kind, .int .i64 es, .int .i64 eq, .int .i64 ei, .string text, .slice oa gl oc, .int .i64 of, .int .i64 num, .int .i64 gen], .int .i64 0]) (by simp [results, Tryz.results95, go_sem, hcl]) rfl ⟨rfl, ?_⟩
    iterate 11 refine Below.setCell ?_ (by show _ ≤ _; simp only; omega) _
    exact HB3.out
end Go.Proofs.YthnedehihbploaaGreatDoor
/- edit.Replace: the region that makes the op -/
namespace Go.Proofs.YthnedehihbploaaGreatDoor
open Go.RowKit Go.Lib Go.Sort

def regOfE (n : Nat) : Code → Option Code
  | .region m ops b => if m == n then some (.region m ops b) else none
  | .seq a b => match regOfE n a with
    | some c => some c
    | none => regOfE n b
  | .cond _ a b => match regOfE n a with
    | some c => some c
    | none => regOfE n b
  | .block _ c => regOfE n c
  | .loop c => regOfE n c
  | .scope c => regOfE n c
  | _ => none
theorem fill_blk {w : World} {b : Nat} {t : TypeId} {z0 z1 z2 z3 z4 z5 z6 z7 z8 z9 za v0 v1 v2 v3 v4 v5 v6 v7 v8 v9 va : Value} (h : w.heap[b]? = some (.cells #[z0, z1, z2, z3, z4, z5, z6, z7, z8, z9, za] t (0, 0))) :
    (((((((((((w.setCell ⟨b, 0, none⟩ v0).setCell ⟨b, 1, none⟩ v1).setCell ⟨b, 2, none⟩ v2).setCell ⟨b, 3, none⟩ v3).setCell ⟨b, 4, none⟩ v4).setCell ⟨b, 5, none⟩ v5).setCell ⟨b, 6, none⟩ v6).setCell ⟨b, 7, none⟩ v7).setCell ⟨b, 8, none⟩ v8).setCell ⟨b, 9, none⟩ v9).setCell ⟨b, 10, none⟩ va).heap[b]? = some (.cells #[v0, v1, v2, v3, v4, v5, v6, v7, v8, v9, va] t (0, 0)) := by
  unfold World.setCell
  simp [Array.getElem?_modify, h]
theorem ElemsAt.set {w : World} {a : Option Addr} {l : List El} {b c : Nat} {v : Value} (h : ElemsAt w a l) (hne : ∀ ad, a = some ad → ad.block ≠ b) : ElemsAt (w.setCell ⟨b, c, none⟩ v) a l :=
  ⟨fun j hj => by
    obtain ⟨b1, off, h1, h2, h3, h4, h5⟩ := h.cell j hj
    have hb : b1 ≠ b := hne _ h1
    have hc : ∀ o, (w.setCell ⟨b, c, none⟩ v).cell? ⟨b1, o, none⟩ = w.cell? ⟨b1, o, none⟩ := fun o => by
      unfold World.cell?
      simp only [set_other hb]
    exact ⟨b1, off, h1, by rw [World.size_setCell]; exact h2, (hc _).trans h3, (hc _).trans h4, (hc _).trans h5⟩⟩
theorem cells11 {w : World} {b : Nat} {t : TypeId} {c0 c1 c2 c3 c4 c5 c6 c7 c8 c9 ca : Value} (h : w.heap[b]? = some (.cells #[c0, c1, c2, c3, c4, c5, c6, c7, c8, c9, ca] t (0, 0))) :
    w.cell? ⟨b, 0, none⟩ = some c0 ∧ w.cell? ⟨b, 1, none⟩ = some c1 ∧ w.cell? ⟨b, 2, none⟩ = some c2 ∧ w.cell? ⟨b, 3, none⟩ = some c3 ∧ w.cell? ⟨b, 4, none⟩ = some c4 ∧ w.cell? ⟨b, 5, none⟩ = some c5 ∧ w.cell? ⟨b, 6, none⟩ = some c6 ∧ w.cell? ⟨b, 7, none⟩ = some c7 ∧ w.cell? ⟨b, 8, none⟩ = some c8 ∧ w.cell? ⟨b, 9, none⟩ = some c9 ∧ w.cell? ⟨b, 10, none⟩ = some ca ∧ (∀ c, w.frozen? ⟨b, c, none⟩ = false) ∧ b < w.heap.size := by
  refine ⟨?_, ?_, ?_, ?_, ?_, ?_, ?_, ?_, ?_, ?_, ?_, fun c => ?_, (Array.getElem?_eq_some_iff.1 h).1⟩
  all_goals first | (simp [World.cell?, h]; done) | (simp [World.frozen?, h])
noncomputable def regRep (n : Nat) : Code := ((Tryz.f62.body.bind (regOfE n)).getD .skip)
set_option maxRecDepth 100000 in
theorem cut_run {w : World} {a : Option Addr} {c nv at_ n : Nat} {v : List El} (h : ElemsAt w a v) (hl : v.length = nv) (hc : nv ≤ c) (hno : a = none → nv = 0 ∧ c = 0) (hat : at_ + n ≤ nv) :
    ∃ (a' : Option Addr) (c' : Nat), (∀ wx, (Instr.slice 23 (.slice a nv c) (some (.int .i64 (at_ : Int))) (some (.int .i64 ((at_ : Int) + (n : Int)))) none).run Tryz.prog wx = .ok (.slice a' n c') wx) ∧ ElemsAt w a' ((v.drop at_).take n) ∧ (a' = none → n = 0 ∧ c' = 0) := by
  have hrun : ∀ wx, (Instr.slice 23 (.slice a nv c) (some (.int .i64 (at_ : Int))) (some (.int .i64 ((at_ : Int) + (n : Int)))) none).run Tryz.prog wx = .ok (sliced a at_ (at_ + n) c 3) wx := fun wx => by
    have h9 := run_slice_lh (P := Tryz.prog) (w := wx) 23 a nv c Tryz.underlying23 .i64 .i64 (at_ : Int) ((at_ : Int) + (n : Int)) (by omega) (by omega) (by omega)
    rw [h9]
    have e1 : ((at_ : Int) + (n : Int)).toNat = at_ + n := by omega
    have e2 : ((at_ : Int)).toNat = at_ := by omega
    rw [e1, e2]
    have h8 : (sizeOf (Tryz.prog.elem 23)).run Tryz.prog wx = .ok 3 wx := by kernel_rfl
    rw [h8]
    rfl
  by_cases hca : c = at_
  · have hn : n = 0 := by omega
    subst hn
    refine ⟨a, 0, fun wx => ?_, by rw [List.take_zero]; exact ElemsAt.nil a, fun _ => ⟨rfl, rfl⟩⟩
    rw [hrun wx]
    unfold sliced
    rw [if_pos hca, hca]
    simp
  · obtain ⟨ad, rfl⟩ : ∃ ad, a = some ad := by
      cases a with
      | none => have := hno rfl; omega
      | some ad => exact ⟨ad, rfl⟩
    refine ⟨some (ad.add (at_ * 3)), c - at_, fun wx => ?_, ⟨fun j hj => ?_⟩, fun h => by cases h⟩
    · rw [hrun wx]
      unfold sliced
      rw [if_neg hca]
      simp
    · have hj2 : at_ + j < v.length := by
        rw [List.length_take, List.length_drop] at hj
        omega
      obtain ⟨b, off, h1, h2, h3, h4, h5⟩ := h.cell (at_ + j) hj2
      have h6 : ((v.drop at_).take n)[j] = v[at_ + j] := by
        rw [List.getElem_take, List.getElem_drop]
      rw [h6]
      obtain rfl := Option.some.inj h1
      refine ⟨b, off + at_ * 3, by rw [Addr.add_lit], h2, ?_, ?_, ?_⟩
      · rw [show off + at_ * 3 + j * 3 = off + (at_ + j) * 3 from by omega]; exact h3
      · rw [show off + at_ * 3 + j * 3 = off + (at_ + j) * 3 from by omega]; exact h4
      · rw [show off + at_ * 3 + j * 3 = off + (at_ + j) * 3 from by omega]; exact h5
theorem rep_first (wu : World) : Below wu.heap.size wu wu.drew := (Below.refl _ wu).drew
theorem rep_second (wu : World) (o : Obj) : Below wu.heap.size wu (wu.drew.alloc o) := ((Below.refl _ wu).drew).alloc (Nat.le_refl _) o
theorem rep_third (wu : World) (o : Obj) : Below wu.heap.size wu (wu.alloc o).drew := ((Below.refl _ wu).alloc (Nat.le_refl _) o).drew
set_option maxRecDepth 100000 in
set_option maxHeartbeats 8000000 in
theorem rep_r7 {u5 u6 u7 u8 u9 u10 u11 u13 u14 u15 u16 u17 u18 u19 u20 u21 u22 u23 u24 u25 u26 u27 u28 u29 u30 u31 u32 u33 u34 u35 u36 u37 u38 u39 u40 u41 u42 u43 u44 u45 u46 u47 u48 u49 u50 u51 u52 u53 u54 u55 u56 u57 u58 u59 u60 u61 u62 u63 u64 u65 : Value}
    {a a12 a13 : Option Addr} {nl cap nv c12 n c13 at_ : Nat} {site q : Int} {s : ByteArray} {g : List El} (w : World)
    (HNX : RowKit.Hid (∀ wx : World, Below w.heap.size w wx → Calls Tryz.prog 93 #[.slice a nl cap, .int .i64 site] wx (IntB q wx)))
    (HRUN : RowKit.Hid (∀ wx, (Instr.slice 23 (.slice a12 nv c12) (some (.int .i64 (at_ : Int))) (some (.int .i64 ((at_ : Int) + (n : Int)))) none).run Tryz.prog wx = .ok (.slice a13 n c13) wx))
    (HRS : RowKit.Hid (∀ wx : World, Below w.heap.size w wx → Calls Tryz.prog 94 #[.slice a13 n c13] wx (RisPost n g wx)))
    (hwr : IntKind.i64.wrap ((at_ : Int) + (n : Int)) = (at_ : Int) + (n : Int))
    {K : Act → World → Prop} {Q : Exit → Act → World → Prop} (hK : ∀ (v36 v37 v38 v39 v40 v41 v42 v43 v44 v45 v46 v47 v48 : Value) (bx : Nat) (ga : Option Addr) (gc : Nat) (wx : World), wx.heap[bx]? = some (.cells #[.int .i64 site, .int .i64 q, .int .i64 1, .int .i64 0, .int .i64 0, .int .i64 0, .string s, .slice ga n gc, .int .i64 0, .int .i64 0, .int .i64 0] 39 (0, 0)) → w.heap.size ≤ bx → ElemsAt wx ga g → (ga = none → n = 0 ∧ gc = 0) → (∀ ad, ga = some ad → w.heap.size ≤ ad.block ∧ ad.block ≠ bx) → Below w.heap.size w wx → K ⟨#[.slice a nl cap, .int .i64 site, .int .i64 (at_ : Int), .int .i64 (n : Int), .string s, u5, u6, u7, u8, u9, u10, u11, .slice a12 nv c12, u13, u14, .pointer (some ⟨bx, 0, none⟩), u16, u17, u18, u19, u20, u21, u22, u23, u24, u25, u26, u27, u28, u29, u30, u31, u32, u33, u34, u35, v36, v37, v38, v39, v40, v41, v42, v43, v44, v45, v46, v47, v48, u49, u50, u51, u52, u53, u54, u55, u56, u57, u58, u59, u60, u61, u62, u63, u64, u65], []⟩ wx) :
    Code.wp Tryz.prog (regRep 7) (Exit.then K Q) ⟨#[.slice a nl cap, .int .i64 site, .int .i64 (at_ : Int), .int .i64 (n : Int), .string s, u5, u6, u7, u8, u9, u10, u11, .slice a12 nv c12, u13, u14, u15, u16, u17, u18, u19, u20, u21, u22, u23, u24, u25, u26, u27, u28, u29, u30, u31, u32, u33, u34, u35, u36, u37, u38, u39, u40, u41, u42, u43, u44, u45, u46, u47, u48, u49, u50, u51, u52, u53, u54, u55, u56, u57, u58, u59, u60, u61, u62, u63, u64, u65], []⟩ w := by
  have HK := Lib.hid hK
  clear hK
  unfold IntB at HNX
  unfold RisPost at HRS
  have hrun := HRUN.out
  conv => arg 2; whnf
  refine wp_region_noPanic ?_
  go_region_law (first
    | (go_simp; go_at_call 93; refine (HNX.out _ (by first | exact rep_first w | exact rep_second w _ | exact rep_third w _)).mono ?_; rintro x3 w3 ⟨rfl, hb3⟩; have hB3 : Below w.heap.size w w3 := (by first | exact (rep_first w).trans (hb3.mono (rep_first w).size) | exact (rep_second w _).trans (hb3.mono (rep_second w _).size) | exact (rep_third w _).trans (hb3.mono (rep_third w _).size)))
    | (go_simp; go_at_call 94; refine (HRS.out _ (by first | exact hB3 | exact hB3.alloc hB3.size _ | exact hB3.drew)).mono ?_; rintro x4 w4 ⟨ga, gc, rfl, hel4, hno4, hge4, hb4⟩; (first | (have hq : w4.heap[w.heap.size]? = some (.cells #[.int .i64 0, .int .i64 0, .int .i64 0, .int .i64 0, .int .i64 0, .int .i64 0, .string ⟨#[]⟩, .slice none 0 0, .int .i64 0, .int .i64 0, .int .i64 0] 39 (0, 0)) := (hb4.block _ (by have := hb3.size; simp at this; omega)).trans ((hb3.block _ (by simp)).trans (heap_alloc_new _ _)); obtain ⟨p0, p1, p2, p3, p4, p5, p6, p7, p8, p9, pa, pf, pl⟩ := cells11 hq) | (have hq : w4.heap[w3.heap.size]? = some (.cells #[.int .i64 0, .int .i64 0, .int .i64 0, .int .i64 0, .int .i64 0, .int .i64 0, .string ⟨#[]⟩, .slice none 0 0, .int .i64 0, .int .i64 0, .int .i64 0] 39 (0, 0)) := (hb4.block _ (by simp)).trans (heap_alloc_new _ _); obtain ⟨p0, p1, p2, p3, p4, p5, p6, p7, p8, p9, pa, pf, pl⟩ := cells11 hq) | skip); have hB4 : Below w.heap.size w w4 := (by first | exact hB3.trans (hb4.mono hB3.size) | exact (hB3.alloc hB3.size _).trans (hb4.mono (hB3.alloc hB3.size _).size)))
    | fail)
  · refine NoPanic.normal ?_
    -- @A
    exact HK.out _ _ _ _ _ _ _ _ _ _ _ _ _ _ _ _ _ (heap_alloc_new _ _) hB4.size (hel4.below ((Below.refl _ _).alloc (Nat.le_refl _) _)) hno4 (fun ad had => ⟨Nat.le_trans hB3.size (hge4 ad had).1, Nat.ne_of_lt (hge4 ad had).2⟩) (hB4.alloc hB4.size _)
    -- @A end
  · refine NoPanic.normal ?_
    -- @B
    have hne : ∀ ad, ga = some ad → ad.block ≠ w3.heap.size := fun ad had => (by have := (hge4 ad had).1; simp at this; omega)
    have hge : w.heap.size ≤ w3.heap.size := hB3.size
    refine HK.out _ _ _ _ _ _ _ _ _ _ _ _ _ w3.heap.size ga gc _ (fill_blk hq) hge ?_ hno4 (fun ad had => ⟨(by have h1 := (hge4 ad had).1; simp at h1; omega), hne ad had⟩) ?_
    · iterate 11 (refine ElemsAt.set ?_ hne)
      exact hel4
    · iterate 11 (refine Below.setCell ?_ hge _)
      exact hB4
    -- @B end
  · refine NoPanic.normal ?_
    -- @C
    have hz3 : w.heap.size < w3.heap.size := (by have := hb3.size; simp at this; omega)
    have hne : ∀ ad, ga = some ad → ad.block ≠ w.heap.size := fun ad had => (by have := (hge4 ad had).1; omega)
    have hge : w.heap.size ≤ w.heap.size := Nat.le_refl _
    refine HK.out _ _ _ _ _ _ _ _ _ _ _ _ _ w.heap.size ga gc _ (fill_blk hq) hge ?_ hno4 (fun ad had => ⟨Nat.le_trans hB3.size (hge4 ad had).1, hne ad had⟩) ?_
    · iterate 11 (refine ElemsAt.set ?_ hne)
      exact hel4
    · iterate 11 (refine Below.setCell ?_ hge _)
      exact hB4
    -- @C end

end Go.Proofs.YthnedehihbploaaGreatDoor
/- edit.Replace where what is asked may be, and at most one element goes -/
namespace Go.Proofs.YthnedehihbploaaGreatDoor
open Go.RowKit Go.Lib Go.Sort

/-- the op that is told -/
def repOp (D : List OpD) (site : Int) (at_ n : Nat) (s : ByteArray) : OpD := ⟨site, (cnt D site : Int) + 1, 1, if at_ = 0 then B0 else ((visE D)[at_ - 1]?).getD B0, s, ((visE D).drop at_).take n, 0, 0, 0⟩
def RepPost (D : List OpD) (o : OpD) (w : World) (e : Ending) (w' : World) : Prop := ∃ (ga : Option Addr) (gc : Nat), e = .returned (.tuple #[if rowB (D ++ [o]) then o.v ga gc else zeroOpV, .int .i64 (if rowB (D ++ [o]) then 0 else 6)]) ∧ ElemsAt w' ga o.gone ∧ (ga = none → o.gone.length = 0 ∧ gc = 0) ∧ Below w.heap.size w w'
set_option maxRecDepth 100000 in
set_option maxHeartbeats 8000000 in
theorem eRep_tiny (a : Option Addr) (cap : Nat) (l : List OpR) (site : Int) (at_ n : Nat) (s : ByteArray) (w : World) (h : OpsAt w a l) (hc : l.length ≤ cap) (hr : rowP (OpR.os l)) (hs : 1 ≤ site ∧ site ≤ 8) (hk : okT s = true) (hsz : s.size ≤ 60000) (hrc : Lib.runeCount s ≤ 12) (hat : at_ ≤ (visE (OpR.os l)).length) (hn : n ≤ (visE (OpR.os l)).length - at_) (h1 : n ≤ 1) (hne : s.toList ≠ []) :
    Calls Tryz.prog 62 #[.slice a l.length cap, .int .i64 site, .int .i64 at_, .int .i64 n, .string s] w (RepPost (OpR.os l) (repOp (OpR.os l) site at_ n s) w) := by
  have hl40 : l.length ≤ 40 := by have := hr.1; rw [olen] at this; exact this
  have hnv := visE_le hr.2
  have hb0 : Below w.heap.size w (w.alloc (.cells #[.int .i64 0, .int .i64 0, .int .i64 0, .int .i64 0, .int .i64 0, .int .i64 0, .string ⟨#[]⟩, .slice none 0 0, .int .i64 0, .int .i64 0, .int .i64 0] 39)) := (Below.refl _ _).alloc (Nat.le_refl _) _
  have hq0 : (w.alloc (.cells #[.int .i64 0, .int .i64 0, .int .i64 0, .int .i64 0, .int .i64 0, .int .i64 0, .string ⟨#[]⟩, .slice none 0 0, .int .i64 0, .int .i64 0, .int .i64 0] 39)).heap[w.heap.size]? = some (.cells #[.int .i64 0, .int .i64 0, .int .i64 0, .int .i64 0, .int .i64 0, .int .i64 0, .string ⟨#[]⟩, .slice none 0 0, .int .i64 0, .int .i64 0, .int .i64 0] 39) := heap_alloc_new _ _
  generalize hw0 : (w.alloc (.cells #[.int .i64 0, .int .i64 0, .int .i64 0, .int .i64 0, .int .i64 0, .int .i64 0, .string ⟨#[]⟩, .slice none 0 0, .int .i64 0, .int .i64 0, .int .i64 0] 39)) = w0 at *
  have HW0 := Lib.hid hw0
  have HB0 := Lib.hid hb0
  have HQ0 := Lib.hid hq0
  have hwl : w.heap.size < w0.heap.size := (Array.getElem?_eq_some_iff.1 hq0).1
  have HWL := Lib.hid hwl
  have HV := Lib.hid (dVis_ok a cap l w0 (h.below hb0) hr)
  have HNX := Lib.hid (fun (wx : World) (hx : Below w.heap.size w wx) => eNext_any a cap l site wx (h.below hx) (by omega))
  have HFT := Lib.hid (fun (o : OpD) (ga : Option Addr) (gc : Nat) (b : Bool) (wx : World) (hx : Below w.heap.size w wx) (ho : OpAt wx o ga gc) (hb : rowB (OpR.os l ++ [o]) = b) => eFit_any a cap l o ga gc wx (h.below hx) hc (by omega) ho b hb)
  have HAS := Lib.hid (fun (wx : World) => eAsked_ok (visE (OpR.os l)).length at_ n site s wx hs hk hsz hrc (by omega) hat hn (fun _ => hne))
  unfold VisPost at HV
  unfold IntB at HAS
  unfold FitPost at HFT
  have HGZ := Lib.hid (Nat.le_refl w.heap.size)
  have HTS := Lib.hid (show s.size ≤ BIG from by unfold BIG; omega)
  have hgl : (((visE (OpR.os l)).drop at_).take n).length = n := by rw [List.length_take, List.length_drop]; omega
  have HGL := Lib.hid hgl
  have HRO : RowKit.Hid (repOp (OpR.os l) site at_ n s = ⟨site, (cnt (OpR.os l) site : Int) + 1, 1, if at_ = 0 then B0 else ((visE (OpR.os l))[at_ - 1]?).getD B0, s, ((visE (OpR.os l)).drop at_).take n, 0, 0, 0⟩) := Lib.hid rfl
  have HNE : RowKit.Hid (s.toList.isEmpty = false ∧ ¬ s.toList = []) := Lib.hid ⟨by cases h : s.toList with | nil => exact absurd h hne | cons _ _ => rfl, hne⟩
  generalize repOp (OpR.os l) site at_ n s = ro at *
  generalize hD : OpR.os l = D at *
  generalize cnt D site = qn at *
  obtain ⟨v, hv⟩ : ∃ x, visE D = x := ⟨_, rfl⟩
  obtain ⟨nv, hnvl⟩ : ∃ x, v.length = x := ⟨_, rfl⟩
  obtain ⟨nl, hnl⟩ : ∃ x, l.length = x := ⟨_, rfl⟩
  rw [hv] at HV HAS HGL HRO hat hn hnv hgl
  rw [hnvl] at HV HAS hat hn hnv
  rw [hnl] at HV HNX HFT hl40 ⊢
  have HNV := Lib.hid hnvl
  have hat2 : (at_ : Int) ≤ 200 := by omega
  have hn2 : (n : Int) ≤ 1 := by omega
  have hatn : at_ + n ≤ nv := by omega
  have hwr : IntKind.i64.wrap ((at_ : Int) + (n : Int)) = (at_ : Int) + (n : Int) := IntWalk.i64_in _ (by omega)
  clear h hc hr hs hk hsz hrc hne hb0 hq0 hwl hgl hnvl hnl hv hD
  go_enter Tryz.func62, Tryz.ntmps62
  go_upto_region 7 with (first
    | (go_at_call 37; (try rw [HW0.out]); refine HV.out.mono ?_; rintro x1 w1 ⟨v1, rfl, hown1, hb1⟩; obtain ⟨a12, c12, hv1, he1, hc1, hm1, hno1⟩ := elems_own (l := v) (by rw [HNV.out]; exact hown1); rw [HNV.out] at hv1 hc1 hno1; subst hv1; have HE1 := Lib.hid he1; have HC1 := Lib.hid hc1; have HNO1 := Lib.hid hno1; have HB1 := Lib.hid hb1; clear hown1 he1 hc1 hm1 hno1 hb1)
    | (go_at_call 92; refine (HAS.out _).mono ?_; rintro x2 w2 ⟨rfl, hb2⟩; have HE2 := Lib.hid (HE1.out.below hb2); have HB2 := Lib.hid (HB1.out.trans (hb2.mono HB1.out.size)); clear hb2)
    | fail)
  obtain ⟨a13, c13, hrun, he13, hno13⟩ := cut_run HE2.out HNV.out HC1.out HNO1.out hatn
  have HRUN := Lib.hid hrun
  have HNA := Lib.hid (fun (wx : World) (hx : Below w2.heap.size w2 wx) => HNX.out wx (HB0.out.trans ((HB2.out.trans (hx.mono HB2.out.size)).mono HB0.out.size)))
  have HRS := Lib.hid (fun (wx : World) (hx : Below w2.heap.size w2 wx) => eRising_tiny a13 c13 n _ wx (he13.below hx) HGL.out h1 hno13)
  refine rep_r7 w2 HNA HRUN HRS hwr ?_
  clear HNA HRUN HRS hrun he13 hno13 hwr
  intro v36 v37 v38 v39 v40 v41 v42 v43 v44 v45 v46 v47 v48 bx ga gc w7 hblk hbx hel hno hge hb7
  have HB7 := Lib.hid (HB2.out.trans (hb7.mono HB2.out.size))
  have HEL := Lib.hid hel
  have HNO := Lib.hid hno
  have HBX := Lib.hid (show w0.heap.size ≤ bx from Nat.le_trans HB2.out.size hbx)
  have HBLK := Lib.hid hblk
  have HE7 := Lib.hid (HE2.out.below hb7)
  have HGW := Lib.hid (show ∀ ad, ga = some ad → ad.block ≠ w.heap.size from fun ad had => by have h8 := (hge ad had).1; have h9 := HB2.out.size; have h10 := HWL.out; omega)
  have HGX := Lib.hid (show ∀ ad, ga = some ad → ad.block ≠ bx from fun ad had => (hge ad had).2)
  clear hel hno hbx hb7 hge
  obtain ⟨bb, hbb⟩ : ∃ b, rowB (D ++ [ro]) = b := ⟨_, rfl⟩
  have HBB := Lib.hid hbb
  have HRG : RowKit.Hid (ro.gone = (v.drop at_).take n) := Lib.hid (by rw [HRO.out])
  have HNN : RowKit.Hid (ga = none → ro.gone.length = 0 ∧ gc = 0) := Lib.hid (fun hg => ⟨by rw [HRG.out, HGL.out]; exact (HNO.out hg).1, (HNO.out hg).2⟩)
  have HOA := Lib.hid (fun (wx : World) (hx : ElemsAt wx ga ((v.drop at_).take n)) => (show OpAt wx ro ga gc from ⟨by rw [HRG.out]; exact hx, by rw [HRG.out, HGL.out]; unfold BIG; omega, by rw [HRO.out]; exact HTS.out, HNN.out⟩))
  have HFX := Lib.hid (fun (wx : World) (hx : Below w0.heap.size w0 wx) (he : ElemsAt wx ga ((v.drop at_).take n)) => HFT.out ro ga gc bb wx (HB0.out.trans (hx.mono HB0.out.size)) (HOA.out wx he) hbb)
  have hvv : ro.v ga gc = .agg #[.int .i64 site, .int .i64 ((qn : Int) + 1), .int .i64 1, .int .i64 (if at_ = 0 then B0 else (v[at_ - 1]?).getD B0).s, .int .i64 (if at_ = 0 then B0 else (v[at_ - 1]?).getD B0).q, .int .i64 (if at_ = 0 then B0 else (v[at_ - 1]?).getD B0).i, .string s, .slice ga n gc, .int .i64 0, .int .i64 0, .int .i64 0] := by
    rw [HRO.out]
    unfold OpD.v
    simp only
    rw [HGL.out]
  rw [hvv] at HFX
  clear hbb HFT HOA HAS HV HNX
  obtain ⟨hs1, hs2⟩ := HNE.out
  by_cases h0 : at_ = 0
  · rw [if_pos h0] at hvv HFX
    unfold B0 at hvv HFX
    simp only at hvv HFX
    have HVV := Lib.hid hvv
    clear hvv
    subst h0
    have HBW := HB7
    have HELW := HEL
    have HF := Lib.hid (HFX.out w7 HB7.out HEL.out)
    obtain ⟨k0, k1, k2, k3, k4, k5, k6, k7, k8, k9, ka, kf, kl⟩ := cells11 hblk
    clear hblk HFX
    cases bb
    all_goals
      simp only [if_true, Bool.false_eq_true, if_false] at HF
      (try unfold zeroOpV at HF)
      go_wp2_with (first
      | (go_at_call 95; refine HF.out.mono ?_; rintro x8 w8 ⟨rfl, hb8⟩; have HB8 := Lib.hid (HBW.out.trans (hb8.mono HBW.out.size)); have hq8 : w8.heap[w.heap.size]? = some (.cells #[.int .i64 0, .int .i64 0, .int .i64 0, .int .i64 0, .int .i64 0, .int .i64 0, .string ⟨#[]⟩, .slice none 0 0, .int .i64 0, .int .i64 0, .int .i64 0] 39 (0, 0)) := (HB8.out.block _ HWL.out).trans HQ0.out; obtain ⟨p0, p1, p2, p3, p4, p5, p6, p7, p8, p9, pa, pf, pl⟩ := cells11 hq8; have HE8 := Lib.hid (HELW.out.below hb8); clear hb8 hq8)
      | fail)
    · refine bodyPost_ret (v := .tuple #[.agg #[.int .i64 0, .int .i64 0, .int .i64 0, .int .i64 0, .int .i64 0, .int .i64 0, .string ⟨#[]⟩, .slice none 0 0, .int .i64 0, .int .i64 0, .int .i64 0], .int .i64 6]) (by simp [results, Tryz.results62, go_sem, p0, p1, p2, p3, p4, p5, p6, p7, p8, p9, pa]) rfl ⟨ga, gc, by rw [HBB.out]; rfl, ?_, HNN.out, ?_⟩
      · iterate 11 (refine ElemsAt.set ?_ HGW.out)
        rw [HRG.out]
        exact HE8.out
      · iterate 11 (refine Below.setCell ?_ HGZ.out _)
        exact HB0.out.trans (HB8.out.mono HB0.out.size)
    · refine bodyPost_ret (v := .tuple #[.agg #[.int .i64 site, .int .i64 ((qn : Int) + 1), .int .i64 1, .int .i64 0, .int .i64 0, .int .i64 0, .string s, .slice ga n gc, .int .i64 0, .int .i64 0, .int .i64 0], .int .i64 0]) (by simp [results, Tryz.results62, go_sem, p0, p1, p2, p3, p4, p5, p6, p7, p8, p9, pa]) rfl ⟨ga, gc, by rw [HBB.out]; rw [if_pos rfl, if_pos rfl, HVV.out], ?_, HNN.out, ?_⟩
      · iterate 11 (refine ElemsAt.set ?_ HGW.out)
        rw [HRG.out]
        exact HE8.out
      · iterate 11 (refine Below.setCell ?_ HGZ.out _)
        exact HB0.out.trans (HB8.out.mono HB0.out.size)
  · obtain ⟨k, rfl⟩ : ∃ k, at_ = k + 1 := ⟨at_ - 1, by omega⟩
    rw [if_neg h0] at hvv HFX
    have hkv : k < v.length := by rw [HNV.out]; omega
    rw [show k + 1 - 1 = k from rfl, List.getElem?_eq_getElem hkv, Option.getD_some] at hvv HFX
    obtain ⟨b9, o9, rfl, hb9, e0, e1, e2⟩ := HE7.out.cell k hkv
    generalize v[k] = e at *
    obtain ⟨es, eq, ei⟩ := e
    simp only at hvv HFX e0 e1 e2
    have HVV := Lib.hid hvv
    clear hvv hkv
    have hk1 : (k : Int) < (nv : Int) := by omega
    have hk0 : (0 : Int) ≤ (k : Int) := by omega
    obtain ⟨k0, k1, k2, k3, k4, k5, k6, k7, k8, k9, ka, kf, kl⟩ := cells11 hblk
    go_upto_region 10 with fail
    have hblk9 := blk_set5 (blk_set4 (blk_set3 hblk (.int .i64 es)) (.int .i64 eq)) (.int .i64 ei)
    have hb9w : Below w0.heap.size w0 (((w7.setCell ⟨bx, 3, none⟩ (.int .i64 es)).setCell ⟨bx, 4, none⟩ (.int .i64 eq)).setCell ⟨bx, 5, none⟩ (.int .i64 ei)) := ((HB7.out.setCell HBX.out _).setCell HBX.out _).setCell HBX.out _
    have hel9 : ElemsAt (((w7.setCell ⟨bx, 3, none⟩ (.int .i64 es)).setCell ⟨bx, 4, none⟩ (.int .i64 eq)).setCell ⟨bx, 5, none⟩ (.int .i64 ei)) ga ((v.drop (k + 1)).take n) := ((HEL.out.set HGX.out).set HGX.out).set HGX.out
    generalize (((w7.setCell ⟨bx, 3, none⟩ (.int .i64 es)).setCell ⟨bx, 4, none⟩ (.int .i64 eq)).setCell ⟨bx, 5, none⟩ (.int .i64 ei)) = w9 at *
    have HBW := Lib.hid hb9w
    have HELW := Lib.hid hel9
    have HF := Lib.hid (HFX.out w9 hb9w hel9)
    clear k0 k1 k2 k3 k4 k5 k6 k7 k8 k9 ka kf kl hblk hb9 e0 e1 e2 hb9w hel9 HFX
    obtain ⟨k0, k1, k2, k3, k4, k5, k6, k7, k8, k9, ka, kf, kl⟩ := cells11 hblk9
    clear hblk9
    cases bb
    all_goals
      simp only [if_true, Bool.false_eq_true, if_false] at HF
      (try unfold zeroOpV at HF)
      go_wp2_with (first
      | (go_at_call 95; refine HF.out.mono ?_; rintro x8 w8 ⟨rfl, hb8⟩; have HB8 := Lib.hid (HBW.out.trans (hb8.mono HBW.out.size)); have hq8 : w8.heap[w.heap.size]? = some (.cells #[.int .i64 0, .int .i64 0, .int .i64 0, .int .i64 0, .int .i64 0, .int .i64 0, .string ⟨#[]⟩, .slice none 0 0, .int .i64 0, .int .i64 0, .int .i64 0] 39 (0, 0)) := (HB8.out.block _ HWL.out).trans HQ0.out; obtain ⟨p0, p1, p2, p3, p4, p5, p6, p7, p8, p9, pa, pf, pl⟩ := cells11 hq8; have HE8 := Lib.hid (HELW.out.below hb8); clear hb8 hq8)
      | fail)
    · refine bodyPost_ret (v := .tuple #[.agg #[.int .i64 0, .int .i64 0, .int .i64 0, .int .i64 0, .int .i64 0, .int .i64 0, .string ⟨#[]⟩, .slice none 0 0, .int .i64 0, .int .i64 0, .int .i64 0], .int .i64 6]) (by simp [results, Tryz.results62, go_sem, p0, p1, p2, p3, p4, p5, p6, p7, p8, p9, pa]) rfl ⟨ga, gc, by rw [HBB.out]; rfl, ?_, HNN.out, ?_⟩
      · iterate 11 (refine ElemsAt.set ?_ HGW.out)
        rw [HRG.out]
        exact HE8.out
      · iterate 11 (refine Below.setCell ?_ HGZ.out _)
        exact HB0.out.trans (HB8.out.mono HB0.out.size)
    · refine bodyPost_ret (v := .tuple #[.agg #[.int .i64 site, .int .i64 ((qn : Int) + 1), .int .i64 1, .int .i64 es, .int .i64 eq, .int .i64 ei, .string s, .slice ga n gc, .int .i64 0, .int .i64 0, .int .i64 0], .int .i64 0]) (by simp [results, Tryz.results62, go_sem, p0, p1, p2, p3, p4, p5, p6, p7, p8, p9, pa]) rfl ⟨ga, gc, by rw [HBB.out]; rw [if_pos rfl, if_pos rfl, HVV.out], ?_, HNN.out, ?_⟩
      · iterate 11 (refine ElemsAt.set ?_ HGW.out)
        rw [HRG.out]
        exact HE8.out
      · iterate 11 (refine Below.setCell ?_ HGZ.out _)
        exact HB0.out.trans (HB8.out.mono HB0.out.size)
end Go.Proofs.YthnedehihbploaaGreatDoor
/- edit.Insert at no row; lectionarylaw7.num, wakes -/
namespace Go.Proofs.YthnedehihbploaaGreatDoor
open Go.RowKit Go.Lib Go.Sort

def abS : ByteArray := ⟨#[97, 98]⟩
def abO : OpD := ⟨1, 1, 1, ⟨0, 0, 0⟩, ⟨#[97, 98]⟩, [], 0, 0, 0⟩
theorem abO_is : repOp [] 1 0 0 ⟨#[97, 98]⟩ = abO := by
  unfold repOp abO
  rw [if_pos rfl, List.take_zero]
  rfl
theorem ab_ok : okT ⟨#[97, 98]⟩ = true := by kernel_rfl
theorem ab_rc : Lib.runeCount ⟨#[97, 98]⟩ = 2 := by kernel_rfl
theorem abO_rowP : rowP [abO] := ⟨by decide, fun k hk => by
  have h0 : k = 0 := by simp at hk; exact hk
  subst h0
  show tk [] abO = true
  kernel_rfl⟩
theorem abO_row : rowB ([] ++ [abO]) = true := (rowB_iff _).2 abO_rowP
theorem abO_text : docT [abO] = [97, 98] := by kernel_rfl
theorem row_nilB : rowP [] := ⟨Nat.zero_le _, fun k hk => absurd hk (by simp)⟩
theorem ops_nilA (w : World) : OpsAt w none [] := ⟨fun j hj => absurd hj (by simp), fun j hj => absurd hj (by simp), by decide⟩
def InsNil (w : World) (e : Ending) (w' : World) : Prop := ∃ (ga : Option Addr) (gc : Nat), e = .returned (.tuple #[.agg #[.int .i64 1, .int .i64 1, .int .i64 1, .int .i64 0, .int .i64 0, .int .i64 0, .string ⟨#[97, 98]⟩, .slice ga 0 gc, .int .i64 0, .int .i64 0, .int .i64 0], .int .i64 0]) ∧ (ga = none → gc = 0) ∧ Below w.heap.size w w'
theorem rep_nil (w : World) : Calls Tryz.prog 62 #[.slice none 0 0, .int .i64 1, .int .i64 0, .int .i64 0, .string ⟨#[97, 98]⟩] w (InsNil w) := by
  have h := eRep_tiny none 0 [] 1 0 0 ⟨#[97, 98]⟩ w (ops_nilA w) (Nat.le_refl _) row_nilB ⟨by omega, by omega⟩ ab_ok (by show 2 ≤ 60000; omega) (by rw [ab_rc]; omega) (Nat.zero_le _) (Nat.zero_le _) (by omega) (fun h => by
    have := (toList_nil_iff_emptyBytes _).1 h
    cases this)
  refine h.mono ?_
  rintro e w' ⟨ga, gc, rfl, _, hno, hb⟩
  rw [show OpR.os [] = [] from rfl, abO_is] at hno ⊢
  rw [abO_row]
  exact ⟨ga, gc, rfl, fun hg => (hno hg).2, hb⟩
set_option maxRecDepth 100000 in
set_option maxHeartbeats 2000000 in
theorem ins_nil (w : World) : Calls Tryz.prog 31 #[.slice none 0 0, .int .i64 1, .int .i64 0, .string ⟨#[97, 98]⟩] w (InsNil w) := by
  have HR := Lib.hid (fun wx => rep_nil wx)
  unfold InsNil at HR
  have HQ0 := Lib.hid (show (w.alloc (.cells #[.int .i64 0, .int .i64 0, .int .i64 0, .int .i64 0, .int .i64 0, .int .i64 0, .string ⟨#[]⟩, .slice none 0 0, .int .i64 0, .int .i64 0, .int .i64 0] 39)).heap[w.heap.size]? = some (.cells #[.int .i64 0, .int .i64 0, .int .i64 0, .int .i64 0, .int .i64 0, .int .i64 0, .string ⟨#[]⟩, .slice none 0 0, .int .i64 0, .int .i64 0, .int .i64 0] 39) from heap_alloc_new _ _)
  have HB0 := Lib.hid (show Below w.heap.size w (w.alloc (.cells #[.int .i64 0, .int .i64 0, .int .i64 0, .int .i64 0, .int .i64 0, .int .i64 0, .string ⟨#[]⟩, .slice none 0 0, .int .i64 0, .int .i64 0, .int .i64 0] 39)) from (Below.refl _ _).alloc (Nat.le_refl _) _)
  go_enter Tryz.func31, Tryz.ntmps31
  go_wp2_with (first
    | (go_at_call 62; refine (HR.out _).mono ?_; rintro x1 w1 ⟨ga, gc, rfl, hno, hb1⟩; have hq1 := (hb1.block w.heap.size (by simp)).trans HQ0.out; obtain ⟨p0, p1, p2, p3, p4, p5, p6, p7, p8, p9, pa, pf, pl⟩ := cells11 hq1; have HB1 := Lib.hid (HB0.out.trans (hb1.mono (by simp))); have HNO := Lib.hid hno; clear hno hb1 hq1)
    | fail)
  refine bodyPost_ret (v := .tuple #[.agg #[.int .i64 1, .int .i64 1, .int .i64 1, .int .i64 0, .int .i64 0, .int .i64 0, .string ⟨#[97, 98]⟩, .slice ga 0 gc, .int .i64 0, .int .i64 0, .int .i64 0], .int .i64 0]) (by simp [results, Tryz.results31, go_sem, p0, p1, p2, p3, p4, p5, p6, p7, p8, p9, pa]) rfl ⟨ga, gc, rfl, HNO.out, ?_⟩
  have hgz : w.heap.size ≤ w.heap.size := Nat.le_refl _
  iterate 11 (refine Below.setCell ?_ hgz _)
  exact HB1.out
theorem ops_one {w : World} {r : OpR} (ho : OpAt w r.o r.a r.cap) : OpsAt (w.alloc (.cells #[.int .i64 r.o.site, .int .i64 r.o.seq, .int .i64 r.o.kind, .int .i64 r.o.after.s, .int .i64 r.o.after.q, .int .i64 r.o.after.i, .string r.o.text, .slice r.a r.o.gone.length r.cap, .int .i64 r.o.of, .int .i64 r.o.num, .int .i64 r.o.gen] 39)) (some ⟨w.heap.size, 0, none⟩) [r] :=
  ⟨fun j hj => by
    have h0 : j = 0 := by simp at hj; exact hj
    subst h0
    refine ⟨w.heap.size, 0, rfl, by simp, fun c u hu => ?_⟩
    have h9 := cell_op_newR w r 39 c u hu
    rw [Addr.add_lit] at h9
    simpa using h9, fun j hj => by
    have h0 : j = 0 := by simp at hj; exact hj
    subst h0
    exact ho.below ((Below.refl _ _).alloc (Nat.le_refl _) _), by show 1 ≤ BIG; unfold BIG; omega⟩
theorem text_ab (ga : Option Addr) (gc : Nat) (hg : ga = none → gc = 0) (w : World) : Calls Tryz.prog 9 #[.slice (some ⟨w.heap.size, 0, none⟩) 1 1] (w.alloc (.cells #[.int .i64 1, .int .i64 1, .int .i64 1, .int .i64 0, .int .i64 0, .int .i64 0, .string ⟨#[97, 98]⟩, .slice ga 0 gc, .int .i64 0, .int .i64 0, .int .i64 0] 39)) (TextPost [97, 98] 0 (w.alloc (.cells #[.int .i64 1, .int .i64 1, .int .i64 1, .int .i64 0, .int .i64 0, .int .i64 0, .string ⟨#[97, 98]⟩, .slice ga 0 gc, .int .i64 0, .int .i64 0, .int .i64 0] 39))) := by
  have ho : OpAt w abO ga gc := ⟨ElemsAt.nil ga, Nat.zero_le _, by show 2 ≤ BIG; unfold BIG; omega, fun h => ⟨rfl, hg h⟩⟩
  have hops := ops_one (w := w) (r := ⟨abO, ga, gc⟩) ho
  change OpsAt (w.alloc (.cells #[.int .i64 1, .int .i64 1, .int .i64 1, .int .i64 0, .int .i64 0, .int .i64 0, .string ⟨#[97, 98]⟩, .slice ga 0 gc, .int .i64 0, .int .i64 0, .int .i64 0] 39)) _ _ at hops
  generalize w.alloc (.cells #[.int .i64 1, .int .i64 1, .int .i64 1, .int .i64 0, .int .i64 0, .int .i64 0, .string ⟨#[97, 98]⟩, .slice ga 0 gc, .int .i64 0, .int .i64 0, .int .i64 0] 39) = w2 at *
  have h := dText_ok (some ⟨w.heap.size, 0, none⟩) 1 [⟨abO, ga, gc⟩] w2 hops abO_rowP
  have ht : docT (OpR.os [⟨abO, ga, gc⟩]) = [97, 98] := abO_text
  rw [ht] at h
  exact h
theorem text_ab2 (ga : Option Addr) (gc : Nat) (hg : ga = none → gc = 0) (w : World) : Calls Tryz.prog 9 #[.slice (some ⟨w.heap.size + 1, 0, none⟩) 1 1] ((w.alloc (.cells #[.int .i64 1, .int .i64 1, .int .i64 1, .int .i64 0, .int .i64 0, .int .i64 0, .string ⟨#[97, 98]⟩, .slice ga 0 gc, .int .i64 0, .int .i64 0, .int .i64 0] 39)).alloc (.cells #[.int .i64 1, .int .i64 1, .int .i64 1, .int .i64 0, .int .i64 0, .int .i64 0, .string ⟨#[97, 98]⟩, .slice ga 0 gc, .int .i64 0, .int .i64 0, .int .i64 0] 39)) fun e w' => e = .returned (.tuple #[S [97, 98], .int .i64 0]) ∧ Below ((w.alloc (.cells #[.int .i64 1, .int .i64 1, .int .i64 1, .int .i64 0, .int .i64 0, .int .i64 0, .string ⟨#[97, 98]⟩, .slice ga 0 gc, .int .i64 0, .int .i64 0, .int .i64 0] 39)).alloc (.cells #[.int .i64 1, .int .i64 1, .int .i64 1, .int .i64 0, .int .i64 0, .int .i64 0, .string ⟨#[97, 98]⟩, .slice ga 0 gc, .int .i64 0, .int .i64 0, .int .i64 0] 39)).heap.size ((w.alloc (.cells #[.int .i64 1, .int .i64 1, .int .i64 1, .int .i64 0, .int .i64 0, .int .i64 0, .string ⟨#[97, 98]⟩, .slice ga 0 gc, .int .i64 0, .int .i64 0, .int .i64 0] 39)).alloc (.cells #[.int .i64 1, .int .i64 1, .int .i64 1, .int .i64 0, .int .i64 0, .int .i64 0, .string ⟨#[97, 98]⟩, .slice ga 0 gc, .int .i64 0, .int .i64 0, .int .i64 0] 39)) w' := by
  have h := text_ab ga gc hg (w.alloc (.cells #[.int .i64 1, .int .i64 1, .int .i64 1, .int .i64 0, .int .i64 0, .int .i64 0, .string ⟨#[97, 98]⟩, .slice ga 0 gc, .int .i64 0, .int .i64 0, .int .i64 0] 39))
  have hz : (w.alloc (.cells #[.int .i64 1, .int .i64 1, .int .i64 1, .int .i64 0, .int .i64 0, .int .i64 0, .string ⟨#[97, 98]⟩, .slice ga 0 gc, .int .i64 0, .int .i64 0, .int .i64 0] 39)).heap.size = w.heap.size + 1 := by simp
  unfold TextPost at h
  have h2 : Calls Tryz.prog 9 #[.slice (some ⟨(w.alloc (.cells #[.int .i64 1, .int .i64 1, .int .i64 1, .int .i64 0, .int .i64 0, .int .i64 0, .string ⟨#[97, 98]⟩, .slice ga 0 gc, .int .i64 0, .int .i64 0, .int .i64 0] 39)).heap.size, 0, none⟩) 1 1] ((w.alloc (.cells #[.int .i64 1, .int .i64 1, .int .i64 1, .int .i64 0, .int .i64 0, .int .i64 0, .string ⟨#[97, 98]⟩, .slice ga 0 gc, .int .i64 0, .int .i64 0, .int .i64 0] 39)).alloc (.cells #[.int .i64 1, .int .i64 1, .int .i64 1, .int .i64 0, .int .i64 0, .int .i64 0, .string ⟨#[97, 98]⟩, .slice ga 0 gc, .int .i64 0, .int .i64 0, .int .i64 0] 39)) _ := h
  rw [hz] at h2
  exact h2
end Go.Proofs.YthnedehihbploaaGreatDoor
