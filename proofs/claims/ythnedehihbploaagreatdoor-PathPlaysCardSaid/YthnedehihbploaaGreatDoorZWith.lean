/- the page's Count, Effective -/
import Derived.Test.YthnedehihbploaaGreatDoorDPure
import Derived.Test.YthnedehihbploaaGreatDoorRGo
import Derived.IntWalk
import Derived.Test.YthnedehihbploaaGreatDoorVEq
import Derived.Deep.CutBlock
import Derived.Deep.DeepCutAuto
import Derived.StillTailTactics
import Derived.Lib.QuietBelow
import Derived.Test.YthnedehihbploaaGreatDoorRPage
import Derived.Laws.Runes
import Derived.Test.YthnedehihbploaaGreatDoorYCut
import Derived.Deep.AppendLies
import Derived.Deep.RegionLaw
import Derived.Test.YthnedehihbploaaGreatDoorDText
import Derived.Test.YthnedehihbploaaGreatDoorYNear
import Derived.Deep.RegionHeld3
namespace Go.Proofs.YthnedehihbploaaGreatDoor
open Go.RowKit Go.Lib

theorem ct_take (l : List OpR) (s q : Int) {k : Nat} (hk : k < l.length) : ct ((OpR.os l).take (k + 1)) s q = if l[k].o.kind = 2 ∧ l[k].o.of = s ∧ l[k].o.num = q ∧ l[k].o.gen = (ct ((OpR.os l).take k) s q : Int) then ct ((OpR.os l).take k) s q + 1 else ct ((OpR.os l).take k) s q := by
  rw [List.take_succ_eq_append_getElem (by rw [os_len]; exact hk), ct_snoc]
  rw [show (OpR.os l)[k]'(by rw [os_len]; exact hk) = l[k].o from by simp [OpR.os]]
set_option maxRecDepth 100000 in
set_option maxHeartbeats 2000000 in
theorem rCount_same (a : Option Addr) (cap : Nat) (l : List OpR) (s q : Int) (w : World) (h : OpsAt w a l) : Calls Tryz.prog 68 #[.slice a l.length cap, .int .i64 s, .int .i64 q] w (fun e w' => e = .returned (.int .i64 (ct (OpR.os l) s q)) ∧ w = w') := by
  have hbig := h.len
  have hbi := big_is
  obtain ⟨n, hn⟩ : ∃ n, l.length = n := ⟨_, rfl⟩
  have HN := Lib.hid hn
  have HH := Lib.hid h
  rw [hn]
  have h0a : (n : Int) ≤ 140737488351232 := by omega
  clear h hn hbig hbi
  go_enter Tryz.func68, Tryz.ntmps68
  go_wp2_with fail
  go_loop [7, 8] (fun s5 s6 => ∃ k : Nat, s6 = .int .i64 k ∧ k ≤ n ∧ s5 = .int .i64 (ct ((OpR.os l).take k) s q : Nat)) (fun _ s6 => n - (RowKit.intOf s6).toNat)
  case atStart => exact ⟨0, rfl, Nat.zero_le _, rfl⟩
  case round =>
    obtain ⟨k, rfl, hk, rfl⟩ := hrel
    by_cases hlt : k < n
    · have hkl : k < l.length := by rw [HN.out]; exact hlt
      obtain ⟨b, off, rfl, hbb, c0, c1, c2, c3, c4, c5, c6, c7, c8, c9, ca⟩ := HH.out.cells k hkl
      have HC := Lib.hid (ct_take l s q hkl)
      have hcle : ct ((OpR.os l).take k) s q ≤ k := Nat.le_trans (ct_le _ _ _) (by rw [List.length_take]; omega)
      generalize l[k].o = o at *
      generalize ct ((OpR.os l).take k) s q = c at *
      obtain ⟨site, seq, kind, ⟨es, eq, ei⟩, text, gone, of, num, gen⟩ := o
      simp only at HC c0 c1 c2 c8 c9 ca
      clear hkl c0 c1 c3 c4 c5 c6 c7
      by_cases h1 : kind = 2
      · by_cases h2 : of = s
        · by_cases h3 : num = q
          · by_cases h4 : gen = (c : Int)
            · have HC2 := Lib.hid (HC.out.trans (by rw [if_pos ⟨h1, h2, h3, h4⟩]))
              subst h1 h2 h3 h4
              go_wp2_with fail
              go_round
              case rel => exact ⟨k + 1, by go_num, by omega, by rw [HC2.out]; go_num⟩
              case measure => simp [RowKit.intOf]; omega
            · have HC2 := Lib.hid (HC.out.trans (by rw [if_neg (fun h => h4 h.2.2.2)]))
              subst h1 h2 h3
              go_wp2_with fail
              go_round
              case rel => exact ⟨k + 1, by go_num, by omega, by rw [HC2.out]⟩
              case measure => simp [RowKit.intOf]; omega
          · have HC2 := Lib.hid (HC.out.trans (by rw [if_neg (fun h => h3 h.2.2.1)]))
            subst h1 h2
            go_wp2_with fail
            go_round
            case rel => exact ⟨k + 1, by go_num, by omega, by rw [HC2.out]⟩
            case measure => simp [RowKit.intOf]; omega
        · have HC2 := Lib.hid (HC.out.trans (by rw [if_neg (fun h => h2 h.2.1)]))
          subst h1
          go_wp2_with fail
          go_round
          case rel => exact ⟨k + 1, by go_num, by omega, by rw [HC2.out]⟩
          case measure => simp [RowKit.intOf]; omega
      · have HC2 := Lib.hid (HC.out.trans (by rw [if_neg (fun h => h1 h.1)]))
        go_wp2_with fail
        go_round
        case rel => exact ⟨k + 1, by go_num, by omega, by rw [HC2.out]⟩
        case measure => simp [RowKit.intOf]; omega
    · have HF := Lib.hid (show (OpR.os l).take k = OpR.os l from List.take_of_length_le (by rw [os_len, HN.out]; omega))
      go_wp2_with fail
      go_ret
      exact ⟨ret_int (by rw [HF.out]), rfl⟩
theorem rCount_any (a : Option Addr) (cap : Nat) (l : List OpR) (s q : Int) (w : World) (h : OpsAt w a l) : Calls Tryz.prog 68 #[.slice a l.length cap, .int .i64 s, .int .i64 q] w (IntB (ct (OpR.os l) s q) w) :=
  (rCount_same a cap l s q w h).mono fun _ _ hp => ⟨hp.1, by rw [hp.2]; exact Below.refl _ _⟩
theorem rEff_same (a : Option Addr) (cap : Nat) (l : List OpR) (s q : Int) (w : World) (h : OpsAt w a l) (hl : l.length ≤ 1000) : Calls Tryz.prog 63 #[.slice a l.length cap, .int .i64 s, .int .i64 q] w (fun e w' => e = .returned (.bool (evn (OpR.os l) s q)) ∧ w = w') := by
  have HC := Lib.hid (rCount_same a cap l s q w h)
  have hle : ct (OpR.os l) s q ≤ 1000 := Nat.le_trans (ct_le _ _ _) (by rw [os_len]; exact hl)
  unfold evn
  clear h
  generalize ct (OpR.os l) s q = n at *
  have h1 : ((n : Int)).tmod 2 = ((n % 2 : Nat) : Int) := by
    rw [Int.tmod_eq_emod_of_nonneg (by omega)]
    rfl
  have h2 : wrap64 ((n % 2 : Nat) : Int) = ((n % 2 : Nat) : Int) := IntWalk.wrap64_in _ ⟨by omega, by omega⟩
  have h3 : decide (n % 2 = 0) = decide (((n % 2 : Nat) : Int) = 0) := by rw [decide_eq_decide]; omega
  rw [h3]
  generalize l.length = m at *
  go_enter Tryz.func63, Tryz.ntmps63
  go_wp2_with (first | (go_at_call 68; refine HC.out.mono ?_; rintro x1 w1 ⟨rfl, rfl⟩) | fail)
  go_ret
  refine ⟨ret_bool ?_, rfl⟩
  first | rfl | (rw [h1]; rfl) | (rw [h1, h2]; rfl)
theorem rEff_any (a : Option Addr) (cap : Nat) (l : List OpR) (s q : Int) (w : World) (h : OpsAt w a l) (hl : l.length ≤ 1000) : Calls Tryz.prog 63 #[.slice a l.length cap, .int .i64 s, .int .i64 q] w (BoB (evn (OpR.os l) s q) w) :=
  (rEff_same a cap l s q w h hl).mono fun _ _ hp => ⟨hp.1, by rw [hp.2]; exact Below.refl _ _⟩
end Go.Proofs.YthnedehihbploaaGreatDoor
/- the page's Visible -/
namespace Go.Proofs.YthnedehihbploaaGreatDoor
open Go.RowKit Go.Lib

theorem Tryz.infoBool : (Tryz.prog.info? 4).map (fun i => (i.zero, i.size, i.bytes)) = some (some (.bool false), 1, 1) := by kernel_rfl
/-- is the op at a place at work? -/
def wf (l : List OpR) (j : Nat) : Bool := match l[j]? with | some r => wks (OpR.os l) r.o | none => false
/-- the row of bools, of which i are laid -/
def wbs (l : List OpR) (n i : Nat) : List Value := (List.range n).map (fun j => Value.bool (decide (j < i) && wf l j))
theorem wbs_length (l : List OpR) (n i : Nat) : (wbs l n i).length = n := by simp [wbs]
theorem wbs_get (l : List OpR) {n i j : Nat} (hj : j < n) : (wbs l n i)[j]? = some (.bool (decide (j < i) && wf l j)) := by simp [wbs, hj]
theorem wbs_zero (l : List OpR) (n : Nat) : wbs l n 0 = (madeCells (Value.bool false).cells (n * 1)).toList := by
  apply List.ext_getElem?
  intro j
  by_cases hj : j < n
  · rw [wbs_get l hj]
    simp [madeCells, Value.cells, hj, Nat.mod_one]
  · rw [List.getElem?_eq_none (by rw [wbs_length]; omega), List.getElem?_eq_none (by simp [madeCells]; omega)]
theorem wbs_set (l : List OpR) {n i : Nat} (hi : i < n) : (wbs l n i).set i (.bool (wf l i)) = wbs l n (i + 1) := by
  apply List.ext_getElem?
  intro j
  rw [List.getElem?_set]
  by_cases hij : i = j
  · subst hij
    rw [if_pos rfl, wbs_length, if_pos hi, wbs_get l hi]
    simp
  · rw [if_neg hij]
    by_cases hj : j < n
    · rw [wbs_get l hj, wbs_get l hj]
      have : decide (j < i) = decide (j < i + 1) := by rw [decide_eq_decide]; omega
      rw [this]
    · rw [List.getElem?_eq_none (by rw [wbs_length]; omega), List.getElem?_eq_none (by rw [wbs_length]; omega)]
theorem owns_wide {w : World} {base b2 : Nat} {e : TypeId} {size : Nat} {v : Value} {n : Nat} {xs : List Value} (h : w.ownsRow base e size v n xs) (hb : b2 ≤ base) : w.ownsRow b2 e size v n xs := by
  refine ⟨h.1, ?_⟩
  rcases h.2 with hn | ⟨g, cap, cur, hv, hg, r⟩
  · exact .inl hn
  · exact .inr ⟨g, cap, cur, hv, Nat.le_trans hb hg, r⟩
/-- do the first i ops take e away? -/
def gnT (l : List OpR) (e : El) (i : Nat) : Bool := (l.take i).any (fun r => wks (OpR.os l) r.o && decide (e ∈ r.o.gone))
theorem gnT_zero (l : List OpR) (e : El) : gnT l e 0 = false := by simp [gnT]
theorem gnT_succ (l : List OpR) (e : El) {i : Nat} (hi : i < l.length) : gnT l e (i + 1) = (gnT l e i || (wf l i && decide (e ∈ l[i].o.gone))) := by
  unfold gnT wf
  rw [List.take_succ_eq_append_getElem hi, List.any_append, List.getElem?_eq_getElem hi]
  simp
theorem gnT_mono (l : List OpR) (e : El) {i : Nat} (h : gnT l e i = true) : gnT l e l.length = true := by
  unfold gnT at h ⊢
  rw [List.take_length]
  rw [List.any_eq_true] at h ⊢
  obtain ⟨x, hx, h2⟩ := h
  exact ⟨x, List.mem_of_mem_take hx, h2⟩
theorem vis_gnT {l : List OpR} (hr : okRow (OpR.os l)) (e : El) : vis (OpR.os l) e = (evn (OpR.os l) e.s e.q && !gnT l e l.length) := by
  unfold vis gnT
  rw [goneE_works hr, List.take_length]
  congr 2
  simp [OpR.os, List.any_map, Function.comp_def]
/-- what is found, of what is in the order -/
theorem vis_find {l : List OpR} (hr : okRow (OpR.os l)) {e : El} (he : e ∈ ordE (OpR.os l)) : ∃ k : Nat, k < l.length ∧ findI (OpR.os l) e.s e.q = (k : Int) ∧ wf l k = evn (OpR.os l) e.s e.q := by
  obtain ⟨hk, hkd, _⟩ := ord_edit hr he
  have hfi := fk_is hk
  have hk2 : fk (OpR.os l) e.s e.q < l.length := by rw [← os_len]; exact hk
  refine ⟨fk (OpR.os l) e.s e.q, hk2, by unfold findI; rw [if_pos hk], ?_⟩
  unfold wf
  rw [List.getElem?_eq_getElem hk2]
  have ho : (OpR.os l)[fk (OpR.os l) e.s e.q] = l[fk (OpR.os l) e.s e.q].o := by simp [OpR.os]
  rw [ho] at hkd hfi
  unfold wks
  simp only
  rw [decide_eq_true hkd, hfi.1, hfi.2]
  rfl
/-- the first k of those in the order that are visible -/
def vsK (L : List OpD) (Y : List El) (k : Nat) : List El := (Y.take k).filter (vis L)
set_option maxRecDepth 100000 in
set_option maxHeartbeats 4000000 in
theorem rVis_any (a : Option Addr) (cap : Nat) (l : List OpR) (w : World) (hT : Tabs w) (hsz : Szs l) (h : OpsAt w a l) (hr : rowP (OpR.os l)) : Calls Tryz.prog 32 #[.slice a l.length cap] w (OwnPost (visE (OpR.os l)) w) := by
  have hl40 : l.length ≤ 40 := by have := hr.1; rw [os_len] at this; exact this
  have HH := Lib.hid h
  have HR := Lib.hid hr
  have HO := Lib.hid (fun wx (hx : Below w.heap.size w wx) => rOrder_any a cap l wx (hT.next hx) hsz (h.below hx) hr)
  have HE := Lib.hid (fun s q wx (hx : Below w.heap.size w wx) => rEff_same a cap l s q wx (h.below hx) (by omega))
  have HF := Lib.hid (fun s q wx (hx : Below w.heap.size w wx) => rFind_any a cap l s q wx (h.below hx))
  obtain ⟨n, hn⟩ : ∃ n, l.length = n := ⟨_, rfl⟩
  have HN := Lib.hid hn
  rw [hn] at HO HE HF hl40 ⊢
  clear h hr hT hsz hn
  obtain ⟨ib, hi0, hz0, hz1, hz2⟩ := info_parts Tryz.infoBool
  obtain ⟨w1, hmk, hown, hgr⟩ := run_makeSlice_full (P := Tryz.prog) w w.heap.size 108 4 ib (.bool false) 1 Tryz.underlying108 hi0 hz0 hz1 .i64 .i64 n (by omega) (by rw [hz2]; omega) (by simp only [maxLen]; omega) (Nat.le_refl _)
  have hbl : Below w.heap.size w w1 := (Below.refl w.heap.size w).grown hgr (Nat.le_refl _) (fun j hj => by cases hj)
  rw [← wbs_zero l n] at hown
  have HOW := Lib.hid hown
  have HBL := Lib.hid hbl
  clear hown hgr hbl hi0 hz0 hz1 hz2
  obtain ⟨i0, hi0, hz0, hz1, hz2⟩ := info_parts Tryz.infoElem
  have HI0 := Lib.hid hi0
  have HI1 := Lib.hid hz0
  have HI2 := Lib.hid hz1
  have HI3 := Lib.hid hz2
  clear hi0 hz0 hz1 hz2
  obtain ⟨wb, hwb⟩ : ∃ b, w.heap.size = b := ⟨_, rfl⟩
  have HWB := Lib.hid hwb
  rw [hwb] at hmk HOW
  clear hwb
  go_enter Tryz.func32, Tryz.ntmps32
  go_wp2_with fail
  clear hmk
  go_loopw [4] (fun s4 wr => ∃ i : Nat, s4 = .int .i64 i ∧ i ≤ n ∧ wr.ownsRow wb 4 1 (.slice (some ⟨wb, 0, none⟩) n n) n (wbs l n i) ∧ Below w.heap.size w wr) (fun s4 _ => n - (RowKit.intOf s4).toNat)
  case atStart => exact ⟨0, rfl, Nat.zero_le _, HOW.out, HBL.out⟩
  case round =>
    clear HOW HBL
    obtain ⟨i, rfl, hi, how, hb⟩ := hrel
    have HO1 := Lib.hid how
    have HB1 := Lib.hid hb
    by_cases hlt : i < n
    · have hil : i < l.length := by rw [HN.out]; exact hlt
      obtain ⟨b, off, rfl, hbb, c0, c1, c2, -⟩ := (HH.out.below hb).cells i hil
      have HWF : RowKit.Hid (wf l i = wks (OpR.os l) (l[i]'hil).o) := Lib.hid (by unfold wf; rw [List.getElem?_eq_getElem hil])
      have hfr := how.frozenAt i
      have hcl := how.cellAt i (by omega)
      rw [wbs_get l hlt] at hcl
      have hwl := (how.lt wb rfl).2
      have HSTO := Lib.hid (fun (wx : World) (hx : wx.ownsRow wb 4 1 (.slice (some ⟨wb, 0, none⟩) n n) n (wbs l n i)) (v : Bool) (hv : v = wf l i) => (by
        have h := (hx.stored i (.bool v)).1
        rw [hv, wbs_set l hlt] at h
        rw [hv]
        exact h : (wx.setCell ⟨wb, i, none⟩ (.bool v)).ownsRow wb 4 1 (.slice (some ⟨wb, 0, none⟩) n n) n (wbs l n (i + 1))))
      have HEF := Lib.hid (HE.out l[i].o.site l[i].o.seq)
      unfold wks at HWF
      generalize evn (OpR.os l) l[i].o.site l[i].o.seq = ev at *
      generalize wf l i = wfv at *
      generalize l[i].o = o at *
      clear hil how hb HE
      obtain ⟨site, seq, kind, ⟨es, eq, ei⟩, text, gone, of, num, gen⟩ := o
      simp only at c0 c1 c2 HWF HEF
      by_cases hk : kind = 1
      · have HV : RowKit.Hid (ev = wfv) := Lib.hid (by rw [HWF.out, decide_eq_true hk]; rfl)
        clear HWF
        subst hk
        have hstc := HEF.out wr.drew HB1.out.drew
        go_upto_region 5 with fail
        refine wp_region_still_tail 23 (by kernel_rfl) (by kernel_rfl) ?_
        change wpStill _ _ wr.drew (fun a' => wpList _ _ _ _ a' wr.drew) _ _
        simp only [List.take_succ_cons, List.take_zero, List.drop_succ_cons, List.drop_zero]
        iterate 20 still_step
        still_call (hstc.mono fun e w9 h => ⟨h.1, h.2.symm⟩)
        repeat still_step
        refine wpStill_nil ?_
        go_wp2_with fail
        go_roundw
        case rel => exact ⟨i + 1, by go_num, by omega, HSTO.out _ (owns_belE HO1.out (Below.refl wr.heap.size wr).drew) ev HV.out, (HB1.out.drew).setCell (by rw [HWB.out]; exact Nat.le_refl _) _⟩
        case measure => simp [RowKit.intOf]; omega
      · have HV : RowKit.Hid (false = wfv) := Lib.hid (by rw [HWF.out, decide_eq_false hk]; rfl)
        clear HWF
        go_upto_region 5 with fail
        refine wp_region_still_tail 23 (by kernel_rfl) (by kernel_rfl) ?_
        change wpStill _ _ wr.drew (fun a' => wpList _ _ _ _ a' wr.drew) _ _
        simp only [List.take_succ_cons, List.take_zero, List.drop_succ_cons, List.drop_zero]
        repeat still_step
        refine wpStill_nil ?_
        go_wp2_with fail
        go_roundw
        case rel => exact ⟨i + 1, by go_num, by omega, HSTO.out _ (owns_belE HO1.out (Below.refl wr.heap.size wr).drew) false HV.out, (HB1.out.drew).setCell (by rw [HWB.out]; exact Nat.le_refl _) _⟩
        case measure => simp [RowKit.intOf]; omega
    · have h0 : n = i := by omega
      subst h0
      clear how hb hi
      have HWBS := Lib.hid (fun (wx : World) (hx : Below wr.heap.size wr wx) => owns_belE HO1.out hx)
      obtain ⟨n5, hn5⟩ : ∃ q, (ordE (OpR.os l)).length = q := ⟨_, rfl⟩
      have HN5 := Lib.hid hn5
      have HX5 : RowKit.Hid (n5 ≤ 200) := Lib.hid (by
        have h1 := (row_inv HR.out.2 _ (Nat.le_refl _)).len
        rw [List.take_length] at h1
        have h2 := row_tot HR.out.2
        rw [← hn5]
        unfold ordE
        rw [List.length_map]
        omega)
      clear hn5
      go_wp2_with (first
        | (go_at_call 59; refine (HO.out wr HB1.out).mono ?_; rintro x2 w2 ⟨v2, rfl, hown2, hb2⟩; obtain ⟨a2, c2, hv2, he2, _⟩ := elems_own hown2; rw [HN5.out] at hv2; subst hv2; have HE2 := Lib.hid he2; have HB2 := Lib.hid hb2; clear hown2 he2 hb2)
        | fail)
      have HW2 := Lib.hid (fun (wx : World) (hx : Below w2.heap.size w2 wx) => HB1.out.trans ((HB2.out.trans (hx.mono HB2.out.size)).mono HB1.out.size))
      have HWB2 := Lib.hid (fun (wx : World) (hx : Below w2.heap.size w2 wx) => HWBS.out wx (HB2.out.trans (hx.mono HB2.out.size)))
      clear HWBS HO HO1
      go_loopw [5, 7] (fun s5 s7 wr => ∃ k : Nat, s7 = .int .i64 k ∧ k ≤ n5 ∧ wr.ownsRow w2.heap.size 37 3 s5 (vsK (OpR.os l) (ordE (OpR.os l)) k).length (ecs (vsK (OpR.os l) (ordE (OpR.os l)) k)) ∧ Below w2.heap.size w2 wr) (fun _ s7 _ => n5 - (RowKit.intOf s7).toNat)
      case atStart => exact ⟨0, rfl, Nat.zero_le _, World.ownsRow_nil _ _ _ _, Below.refl _ _⟩
      case round =>
        obtain ⟨k, rfl, hk, hox, hb⟩ := hrel
        have HOX := Lib.hid hox
        have HBK := Lib.hid hb
        by_cases hltk : k < n5
        · have hkl : k < (ordE (OpR.os l)).length := by rw [HN5.out]; exact hltk
          obtain ⟨g2, off2, rfl, hg2, x0, x1, x2⟩ := HE2.out.cell k hkl
          have hmem : (ordE (OpR.os l))[k] ∈ ordE (OpR.os l) := List.getElem_mem hkl
          obtain ⟨fq, hfq, hfi, hfw⟩ := vis_find HR.out.2 hmem
          have hvg := vis_gnT HR.out.2 (ordE (OpR.os l))[k]
          have HVS : RowKit.Hid (vsK (OpR.os l) (ordE (OpR.os l)) (k + 1) = vsK (OpR.os l) (ordE (OpR.os l)) k ++ (if vis (OpR.os l) (ordE (OpR.os l))[k] = true then [(ordE (OpR.os l))[k]] else [])) := Lib.hid (by
            unfold vsK
            rw [List.take_succ_eq_append_getElem hkl, List.filter_append]
            cases hv : vis (OpR.os l) (ordE (OpR.os l))[k] <;> simp [hv])
          rw [hvg] at HVS
          have hgz := gnT_zero l (ordE (OpR.os l))[k]
          have HGS := Lib.hid (fun i (hi : i < l.length) => gnT_succ l (ordE (OpR.os l))[k] hi)
          have HGM := Lib.hid (fun i (hi : gnT l (ordE (OpR.os l))[k] i = true) => gnT_mono l (ordE (OpR.os l))[k] hi)
          have HVL : RowKit.Hid ((vsK (OpR.os l) (ordE (OpR.os l)) k).length ≤ k) := Lib.hid (by unfold vsK; exact Nat.le_trans (List.length_filter_le _ _) (by rw [List.length_take]; exact Nat.min_le_left _ _))
          rw [HN.out] at hfq HVS
          have hx5 : n5 ≤ 200 := HX5.out
          generalize hF1 : vsK (OpR.os l) (ordE (OpR.os l)) (k + 1) = F1 at *
          have HF1E := Lib.hid hF1
          clear hF1
          generalize vsK (OpR.os l) (ordE (OpR.os l)) k = F0 at *
          generalize (ordE (OpR.os l))[k] = e at *
          clear hkl hmem hvg
          have HFQ := Lib.hid (fun wx hx => (by have h := HF.out e.s e.q wx hx; rw [hfi] at h; exact h : Calls Tryz.prog 64 #[.slice a n cap, .int .i64 e.s, .int .i64 e.q] wx (IntB (fq : Nat) wx)))
          obtain ⟨es, eq, ei⟩ := e
          simp only at x0 x1 x2 HFQ hfw
          generalize evn (OpR.os l) es eq = ev at *
          have HXC := Lib.hid (fun (wx : World) (hx : Below w2.heap.size w2 wx) => And.intro ((hx.cell (p := ⟨g2, off2 + k * 3, none⟩) hg2).trans x0) (And.intro ((hx.cell (p := ⟨g2, off2 + k * 3 + 1, none⟩) hg2).trans x1) (And.intro ((hx.cell (p := ⟨g2, off2 + k * 3 + 2, none⟩) hg2).trans x2) (Nat.lt_of_lt_of_le hg2 hx.size))))
          obtain ⟨xx0, xx1, xx2, hgl2⟩ := HXC.out wr hb
          have q0 := cell_regrown xx0
          have q1 := cell_regrown xx1
          have hwb := HWB2.out wr hb
          have hcw := hwb.cellAt fq (by omega)
          rw [wbs_get l hfq, decide_eq_true hfq, Bool.true_and, hfw] at hcw
          have qw := cell_regrown hcw
          have qwl := (hwb.lt wb rfl).2
          have hfnd := fun d os => HFQ.out _ ((HW2.out wr hb).trans ((below_regrown wr d os).mono (HW2.out wr hb).size))
          clear hfi hox hb hcw hwb
          go_upto_region 11 with fail
          refine wp_region_quiet_below (by kernel_rfl) (by kernel_rfl) ?_
          repeat (first | go_big_quiet_step (exact Calls.regrown_of (hfnd _ _)) | quiet_step (exact Calls.regrown_of (hfnd _ _)))
          refine wpQuiet_nil ?_
          intro _ hw'
          obtain ⟨⟨dq, osq⟩, hw''⟩ := hw'
          subst hw''
          have HBQ := Lib.hid (HBK.out.trans ((below_regrown wr dq osq).mono HBK.out.size))
          have HOQ := Lib.hid (owns_belE HOX.out (below_regrown wr dq osq))
          clear q0 q1 qw x0 x1 x2 hfnd HOX HBK xx0 xx1 xx2 hgl2 hg2
          generalize Sort.grow (redrawn wr dq) osq = wv at *
          have hbq := HBQ.out
          have HLG := Lib.hid (fun (wx : World) (hx : Below wv.heap.size wv wx) => HBQ.out.trans (hx.mono HBQ.out.size))
          have HOL := Lib.hid (fun (wx : World) (hx : Below wv.heap.size wv wx) => owns_belE HOQ.out hx)
          go_wp2_with fail
          go_loopw [8, 9] (fun s8 s9 wr => ∃ i : Nat, s9 = .int .i64 i ∧ i ≤ n ∧ s8 = .bool (ev && !gnT l ⟨es, eq, ei⟩ i) ∧ Below wv.heap.size wv wr) (fun _ s9 _ => n - (RowKit.intOf s9).toNat)
          case atStart => exact ⟨0, rfl, Nat.zero_le _, by rw [hgz]; simp, Below.refl _ _⟩
          case round =>
            clear hgz hbq
            obtain ⟨i, rfl, hi, rfl, hbi⟩ := hrel
            have HBI := Lib.hid hbi
            by_cases hgo : i < n ∧ (ev && !gnT l ⟨es, eq, ei⟩ i) = true
            · obtain ⟨hin, hb8⟩ := hgo
              have hil : i < l.length := by rw [HN.out]; exact hin
              have hgs := HGS.out i hil
              rw [hb8]
              have h2i := HLG.out wr hbi
              obtain ⟨xx0, xx1, xx2, hgl2⟩ := HXC.out wr h2i
              have hwn := HW2.out wr h2i
              obtain ⟨b7, off7, rfl, hb7, c0, c1, c2, c3, c4, c5, c6, c7, -⟩ := (HH.out.below hwn).cells i hil
              have hga := ((HH.out.below hwn).op i hil).gone
              have hgl := (gone_ok (row_ok HR.out.2 l[i].o (List.mem_map_of_mem (List.getElem_mem hil)))).1
              have hwb := HWB2.out wr h2i
              have hcw := hwb.cellAt i (by omega)
              rw [wbs_get l hin, decide_eq_true hin, Bool.true_and] at hcw
              have hat := fun d os => At_any l[i].a l[i].cap l[i].o.gone ⟨es, eq, ei⟩ (Sort.grow (redrawn wr d) os) (hga.below (below_regrown _ d os)) (by omega)
              have q0 := cell_regrown xx0
              have q1 := cell_regrown xx1
              have q2 := cell_regrown xx2
              have q7 := cell_regrown c7
              have qw := cell_regrown hcw
              have qwl := (hwb.lt wb rfl).2
              have hz : decide (atI l[i].o.gone ⟨es, eq, ei⟩ < 0) = !decide ((⟨es, eq, ei⟩ : El) ∈ l[i].o.gone) := by
                by_cases hm : (⟨es, eq, ei⟩ : El) ∈ l[i].o.gone
                · have := atI_pos hm
                  rw [decide_eq_true hm, decide_eq_false (by omega)]
                  rfl
                · rw [atI_neg hm, decide_eq_false hm]
                  rfl
              unfold El.v at hat
              simp only at hat
              have hd9 : decide ((i : Int) < (n : Int)) = true := decide_eq_true (by omega)
              generalize atI l[i].o.gone ⟨es, eq, ei⟩ = z at *
              generalize wf l i = wfv at *
              generalize decide ((⟨es, eq, ei⟩ : El) ∈ l[i].o.gone) = inb at *
              generalize hgn1 : gnT l ⟨es, eq, ei⟩ (i + 1) = gn1 at *
              have HGN := Lib.hid hgn1
              clear hgn1
              generalize gnT l ⟨es, eq, ei⟩ i = gn0 at *
              have hev : ev = true ∧ gn0 = false := by
                cases ev <;> cases gn0 <;> simp at hb8 ⊢
              obtain ⟨rfl, rfl⟩ := hev
              clear hb8
              cases wfv
              · have HG1 : RowKit.Hid (gn1 = false) := Lib.hid (by rw [hgs]; rfl)
                clear hgs hz
                go_upto_region 15 with fail
                refine wp_region_quiet_below (by kernel_rfl) (by kernel_rfl) ?_
                repeat (first | go_big_quiet_step (exact Calls.regrown_of (hat _ _)) | quiet_step (exact Calls.regrown_of (hat _ _)))
                refine wpQuiet_nil ?_
                intro _ hw'
                obtain ⟨⟨dq, osq⟩, hw''⟩ := hw'
                subst hw''
                have HBZ := Lib.hid (HBI.out.trans ((below_regrown wr dq osq).mono HBI.out.size))
                clear q0 q1 q2 q7 qw hat xx0 xx1 xx2 c0 c1 c2 c3 c4 c5 c6 c7 hga hcw hwb
                generalize Sort.grow (redrawn wr dq) osq = wz at *
                go_wp2_with fail
                go_roundw
                case rel => exact ⟨i + 1, by go_num, by omega, by rw [HGN.out, HG1.out]; rfl, HBZ.out⟩
                case measure => simp [RowKit.intOf]; omega
              · have HG1 : RowKit.Hid (decide (z < 0) = !gn1) := Lib.hid (by rw [hz, hgs]; cases inb <;> rfl)
                clear hgs hz
                go_upto_region 15 with fail
                refine wp_region_quiet_below (by kernel_rfl) (by kernel_rfl) ?_
                repeat (first | go_big_quiet_step (exact Calls.regrown_of (hat _ _)) | quiet_step (exact Calls.regrown_of (hat _ _)))
                refine wpQuiet_nil ?_
                intro _ hw'
                obtain ⟨⟨dq, osq⟩, hw''⟩ := hw'
                subst hw''
                have HBZ := Lib.hid (HBI.out.trans ((below_regrown wr dq osq).mono HBI.out.size))
                clear q0 q1 q2 q7 qw hat xx0 xx1 xx2 c0 c1 c2 c3 c4 c5 c6 c7 hga hcw hwb
                generalize Sort.grow (redrawn wr dq) osq = wz at *
                go_wp2_with fail
                go_roundw
                case rel => exact ⟨i + 1, by go_num, by omega, by rw [HGN.out, HG1.out, Bool.true_and], HBZ.out⟩
                case measure => simp [RowKit.intOf]; omega
            · -- the end of the ops, or it is gone
              have HF1 : RowKit.Hid (F1 = F0 ++ (if (ev && !gnT l ⟨es, eq, ei⟩ i) = true then [⟨es, eq, ei⟩] else [])) := Lib.hid (by
                rw [HVS.out]
                congr 2
                by_cases hin : i < n
                · have hf : (ev && !gnT l ⟨es, eq, ei⟩ i) = false := by
                    cases hh : (ev && !gnT l ⟨es, eq, ei⟩ i) with
                    | false => rfl
                    | true => exact absurd ⟨hin, hh⟩ hgo
                  rw [hf]
                  have hf2 : (ev && !gnT l ⟨es, eq, ei⟩ n) = false := by
                    cases ev with
                    | false => rfl
                    | true =>
                      have hg : gnT l ⟨es, eq, ei⟩ i = true := by
                        cases hh : gnT l ⟨es, eq, ei⟩ i with
                        | true => rfl
                        | false => rw [hh] at hf; cases hf
                      have := HGM.out i hg
                      rw [HN.out] at this
                      rw [this]
                      rfl
                  rw [hf2]
                · have : i = n := by omega
                  rw [this])
              have hcc : (i < n ∧ (ev && !gnT l ⟨es, eq, ei⟩ i) = false) ∨ ¬ i < n := by
                by_cases hin : i < n
                · refine .inl ⟨hin, ?_⟩
                  cases hh : (ev && !gnT l ⟨es, eq, ei⟩ i) with
                  | false => rfl
                  | true => exact absurd ⟨hin, hh⟩ hgo
                · exact .inr hin
              have h2i := HLG.out wr hbi
              have HOI := Lib.hid (HOL.out wr hbi)
              have HBI2 := Lib.hid h2i
              obtain ⟨xx0, xx1, xx2, hgl2⟩ := HXC.out wr h2i
              obtain ⟨m, hm⟩ : ∃ q, F0.length = q := ⟨_, rfl⟩
              have HM := Lib.hid hm
              have hmk : m ≤ k := by rw [← hm]; exact HVL.out
              rw [hm] at HOI
              clear hgo hbi h2i hm
              generalize (ev && !gnT l ⟨es, eq, ei⟩ i) = bb at *
              cases bb
              · have HF2 : RowKit.Hid (F1 = F0) := Lib.hid (by rw [HF1.out]; simp)
                clear HF1
                rcases hcc with ⟨hin, _⟩ | hin
                · have hd9 : decide ((i : Int) < (n : Int)) = true := decide_eq_true (by omega)
                  go_wp2_with fail
                  go_roundw
                  case rel => exact ⟨k + 1, by go_num, by omega, by rw [HF1E.out, HF2.out, HM.out]; exact HOI.out, HBI2.out⟩
                  case measure => simp [RowKit.intOf]; omega
                · have hd9 : decide ((i : Int) < (n : Int)) = false := decide_eq_false (by omega)
                  go_wp2_with fail
                  go_roundw
                  case rel => exact ⟨k + 1, by go_num, by omega, by rw [HF1E.out, HF2.out, HM.out]; exact HOI.out, HBI2.out⟩
                  case measure => simp [RowKit.intOf]; omega
              · have HF2 : RowKit.Hid (F1 = F0 ++ [⟨es, eq, ei⟩]) := Lib.hid (by rw [HF1.out]; simp)
                have hin : ¬ i < n := by
                  rcases hcc with ⟨_, h⟩ | h
                  · cases h
                  · exact h
                clear HF1 hcc
                have hd9 : decide ((i : Int) < (n : Int)) = false := decide_eq_false (by omega)
                have HM1 := Lib.hid (show m + 1 ≤ maxLen from by simp only [maxLen]; omega)
                have HM2 := Lib.hid (show (m + 1) * 24 ≤ 140737488355328 from by omega)
                go_wp2_with (first
                  | (at_builtin; refine wpList_append_own _ rfl _ _ 23 rfl w2.heap.size 37 i0 (.agg #[.int .i64 0, .int .i64 0, .int .i64 0]) 3 24 Tryz.underlying23 HI0.out HI1.out HI2.out HI3.out rfl (by decide) _ m _ rfl (HOI.out.alloc _) ⟨wr.heap.size, 0, none⟩ 1 1 (El.cs ⟨es, eq, ei⟩) rfl rfl (cell_three_new _ ⟨es, eq, ei⟩ _) (cs_one ⟨es, eq, ei⟩) HM1.out HM2.out (by have := HBI2.out.size; simp; omega) ?_; intro v8 w8 hown8 hgrow8 hnil8; have HB8 := Lib.hid ((HBI2.out.alloc HBI2.out.size _).grown hgrow8 (by have := HBI2.out.size; simp; omega) (fun q hq => own_ge HOI.out q hq)); have HO8 := Lib.hid hown8; clear hown8 hgrow8 hnil8)
                  | fail)
                go_roundw
                case rel => exact ⟨k + 1, by go_num, by omega, by
                  rw [HF1E.out, HF2.out, List.length_append, HM.out, ecs_append, show ecs [(⟨es, eq, ei⟩ : El)] = El.cs ⟨es, eq, ei⟩ from by simp [ecs]]
                  exact HO8.out, HB8.out⟩
                case measure => simp [RowKit.intOf]; omega
        · have h0 : k = n5 := by omega
          have hf : vsK (OpR.os l) (ordE (OpR.os l)) k = visE (OpR.os l) := by
            unfold vsK visE
            rw [h0, ← HN5.out, List.take_length]
          rw [hf] at HOX
          have HFIN := Lib.hid (HW2.out wr hb)
          have HZZ := Lib.hid (Nat.le_trans HB1.out.size HB2.out.size)
          clear hox hb
          go_wp2_with fail
          go_ret
          exact ⟨_, rfl, owns_wide HOX.out HZZ.out, HFIN.out⟩
end Go.Proofs.YthnedehihbploaaGreatDoor
/- the page's Rune, Text -/
namespace Go.Proofs.YthnedehihbploaaGreatDoor
open Go.RowKit Go.Lib

def RnPost (r : Int) (w : World) (x : Ending) (w' : World) : Prop := x = .returned (.int .i32 r) ∧ Below w.heap.size w w'
theorem visR_take {L : List OpD} {k : Nat} (hk : k < (visE L).length) : (visR L).take (k + 1) = (visR L).take k ++ [rnE L (visE L)[k]] := by
  have h1 : k < (visR L).length := by rw [visR_len]; exact hk
  have h2 : (visR L)[k] = rnE L (visE L)[k] := by simp [visR]
  have h3 := List.take_succ_eq_append_getElem h1
  rw [h2] at h3
  exact h3
theorem ba_join (a b : List UInt8) : Value.string ((⟨a.toArray⟩ : ByteArray) ++ (⟨b.toArray⟩ : ByteArray)) = S (a ++ b) := by
  unfold S
  congr 1
/-- the page's own Make -/
def StrPost (l : List UInt8) (w : World) (e : Ending) (w' : World) : Prop := e = .returned (S l) ∧ w = w'
set_option maxRecDepth 100000 in
set_option maxHeartbeats 1000000 in
theorem rMake (a : Option Addr) (cap : Nat) (l : List Int) (w : World) (h : RunesAt w a l) (hl : l.length ≤ 60000) : Calls Tryz.prog 16 #[.slice a l.length cap] w (StrPost (Go.Proofs.YthnedehihbploaaGreatDoor.mk l) w) := by
  have H := Lib.hid h
  clear h
  go_enter Tryz.func16, Tryz.ntmps16
  go_wp2
  go_loop [3, 4] (fun t i => ∃ k : Nat, k ≤ l.length ∧ i = .int .i64 k ∧ t = S (Go.Proofs.YthnedehihbploaaGreatDoor.mk (l.take k))) (fun _ i => l.length - (RowKit.intOf i).toNat)
  case atStart => exact ⟨0, by omega, rfl, rfl⟩
  case round =>
    obtain ⟨k, hk, rfl, rfl⟩ := hrel
    by_cases hlt : k < l.length
    · obtain ⟨b, off, ha, hb, hc⟩ := H.out.cell k hlt
      have HT := Lib.hid (take_snoc' hlt)
      have hml := mk_length (l.take k)
      have hlk : (l.take k).length ≤ k := List.length_take_le _ _
      have hel := encodeRune_le l[k]
      generalize l[k] = r at *
      have hen := encode_eq r
      generalize hM : Go.Proofs.YthnedehihbploaaGreatDoor.mk (l.take k) = M at *
      generalize hE : Lib.encodeRune r = E at *
      have HM := Lib.hid hM
      have HE := Lib.hid hE
      clear hM hE
      subst ha
      go_wp2
      go_round
      case rel =>
        refine ⟨k + 1, by omega, by go_num, ?_⟩
        rw [HT.out, mk_append, HM.out, show Go.Proofs.YthnedehihbploaaGreatDoor.mk [r] = Lib.encodeRune r from by simp [Go.Proofs.YthnedehihbploaaGreatDoor.mk], HE.out]
        exact ba_join M E
      case measure => simp [RowKit.intOf]; omega
    · have HT := Lib.hid (List.take_of_length_le (l := l) (i := k) (by omega))
      go_wp2
      go_ret
      exact ⟨(show Ending.returned (S (Go.Proofs.YthnedehihbploaaGreatDoor.mk (l.take k))) = .returned (S (Go.Proofs.YthnedehihbploaaGreatDoor.mk l)) by rw [HT.out]), rfl⟩
def RTextPost (s : List UInt8) (w : World) (x : Ending) (w' : World) : Prop := x = .returned (S s) ∧ Below w.heap.size w w'
end Go.Proofs.YthnedehihbploaaGreatDoor
/- the page's Behind: a row and an op -/
namespace Go.Proofs.YthnedehihbploaaGreatDoor
open Go.RowKit Go.Lib Go.Sort

theorem OwnO.wide {base b2 : Nat} {w : World} {v : Value} {L : List OpR} (h : OwnO base w v L) (hb : b2 ≤ base) : OwnO b2 w v L :=
  ⟨owns_base h.own hb, h.at_, h.apart, fun r hr ad ha => Nat.le_trans hb (h.ge r hr ad ha)⟩
def BehPost (l : List OpR) (o : OpD) (w : World) (x : Ending) (w' : World) : Prop := ∃ v L, x = .returned v ∧ OwnO w.heap.size w' v L ∧ OpR.os L = OpR.os l ++ [o] ∧ Below w.heap.size w w'
set_option maxRecDepth 100000 in
set_option maxHeartbeats 4000000 in
theorem rBehind_any (a : Option Addr) (cap : Nat) (l : List OpR) (o : OpD) (oa : Option Addr) (oc : Nat) (w : World) (h : OpsAt w a l) (hg : ∀ r ∈ l, r.o.gone.length ≤ 1000000) (hl : l.length ≤ 100000) (ho : ElemsAt w oa o.gone) (hgl : o.gone.length ≤ 1000000) (hts : o.text.size ≤ BIG) :
    Calls Tryz.prog 34 #[.slice a l.length cap, o.v oa oc] w (BehPost l o w) := by
  obtain ⟨i0, hq0, hz0, hz1, hz2⟩ := info_parts Tryz.infoOp
  have HCO := Lib.hid (fun wx (hx : Below w.heap.size w wx) => CopyOps_any a cap l wx (h.below hx) hg (by omega))
  have HX := Lib.hid (BoxO.new w o oa oc)
  have HB0 : RowKit.Hid (Below w.heap.size w (w.alloc (o.obj oa oc))) := Lib.hid ((Below.refl _ _).alloc (Nat.le_refl _) _)
  have HC2 := Lib.hid (fun wx (hx : Below w.heap.size w wx) => CopyOp_any o oa oc wx (ho.below hx) hgl)
  have HGL : RowKit.Hid (o.gone.length ≤ BIG) := Lib.hid (by unfold BIG; omega)
  have HTS := Lib.hid hts
  have HOS : RowKit.Hid (OpR.os l = OpR.os l) := Lib.hid rfl
  obtain ⟨n, hn⟩ : ∃ n, l.length = n := ⟨_, rfl⟩
  have HN := Lib.hid hn
  rw [hn] at HCO hl ⊢
  have HM1 := Lib.hid (show n + 1 ≤ maxLen from by simp only [maxLen]; omega)
  have HM2 := Lib.hid (show (n + 1) * 112 ≤ 140737488355328 from by omega)
  have HLN := Lib.hid hl
  clear h hg ho hgl hts hn
  unfold CopysPost at HCO
  obtain ⟨site, seq, kind, ⟨es, eq, ei⟩, text, gone, of, num, gen⟩ := o
  unfold CopyPost OpD.v at HC2
  unfold OpD.v
  unfold OpD.obj at HX HB0
  simp only at HC2 HGL HTS HX HB0 ⊢
  obtain ⟨gl, hgg⟩ : ∃ gl, gone.length = gl := ⟨_, rfl⟩
  have HGG := Lib.hid hgg
  rw [hgg] at HC2 HX HB0 ⊢
  clear hgg
  generalize hwu : (w.alloc (.cells #[.int .i64 site, .int .i64 seq, .int .i64 kind, .int .i64 es, .int .i64 eq, .int .i64 ei, .string text, .slice oa gl oc, .int .i64 of, .int .i64 num, .int .i64 gen] 39)) = wu at *
  have HWU := Lib.hid hwu
  have hx := (HX.out.step (Below.refl wu.heap.size wu).drew)
  have d0 := hx.c0
  have d1 := hx.c1
  have d2 := hx.c2
  have d3 := hx.c3
  have d4 := hx.c4
  have d5 := hx.c5
  have d6 := hx.c6
  have d7 := hx.c7
  have d8 := hx.c8
  have d9 := hx.c9
  have da := hx.ca
  have dl := hx.lt
  simp only [HGG.out] at d0 d1 d2 d3 d4 d5 d6 d7 d8 d9 da
  have HBD : RowKit.Hid (Below w.heap.size w wu.drew) := Lib.hid HB0.out.drew
  have HXD := Lib.hid hx
  clear hx
  go_enter Tryz.func34, Tryz.ntmps34
  go_upto_region 1 with fail
  go_region_law (first
    | (go_simp; go_at_call 18; refine (HCO.out wu.drew HBD.out).mono ?_; rintro x3 w3 ⟨v3, L3, rfl, hown30, hos3, hb3⟩; have hown3 := hown30.wide HBD.out.size; have hl3 : L3.length = n := (by have h := congrArg List.length hos3; rw [os_len, os_len, HN.out] at h; exact h); obtain ⟨a3, c3, hv3, _, _⟩ := hown3.ops (by unfold BIG; omega); rw [hl3] at hv3; subst hv3; have HLL := Lib.hid hl3; have HO6 := Lib.hid hown3; have HOS3 := Lib.hid hos3; have HB6 := Lib.hid (HBD.out.trans (hb3.mono HBD.out.size)); have hx3 := HXD.out.step hb3; have q0 := hx3.c0; have q1 := hx3.c1; have q2 := hx3.c2; have q3 := hx3.c3; have q4 := hx3.c4; have q5 := hx3.c5; have q6 := hx3.c6; have q7 := hx3.c7; have q8 := hx3.c8; have q9 := hx3.c9; have qa := hx3.ca; have ql := hx3.lt; simp only [HGG.out] at q0 q1 q2 q3 q4 q5 q6 q7 q8 q9 qa; clear hown30 hown3 hos3 hb3 hl3 hx3)
    | (go_simp; go_at_call 52; refine (HC2.out w3 HB6.out).mono ?_; rintro x7 w7 ⟨a7, cp7, rfl, hown7, hb7⟩; obtain ⟨a9, c9', hv9, hel9, _, _, hnone9⟩ := elems_own (by rw [HGG.out]; exact hown7); rw [HGG.out] at hv9; simp only [Value.slice.injEq] at hv9; obtain ⟨rfl, -, rfl⟩ := hv9; have HE7 := Lib.hid hel9; have HNO7 := Lib.hid hnone9; have HAP7 := Lib.hid (show ∀ ad, a7 = some ad → some ad.block ≠ (Value.slice a3 n c3).ownBlock ∧ ad.block < w7.heap.size ∧ w.heap.size ≤ ad.block from fun ad ha => by subst ha; have h9 := hown7.lt ad.block rfl; refine ⟨fun e2 => ?_, h9.2, by have := HB6.out.size; omega⟩; have := (HO6.out.own.lt _ e2.symm).2; omega); have HB7 := Lib.hid (HB6.out.trans (hb7.mono HB6.out.size)); have HO7 := Lib.hid (HO6.out.below hb7); have HOW7 := Lib.hid (show w7.ownsRow w.heap.size 39 11 (.slice a3 n c3) n (ocs L3) from by have h9 := HO7.out.own; rw [HLL.out] at h9; exact h9); clear hown7 hb7 hel9 hnone9)
    | (refine step_append_lies _ (by rfl) _ _ _ (by rfl) w.heap.size 39 i0 (.agg #[.int .i64 0, .int .i64 0, .int .i64 0, .int .i64 0, .int .i64 0, .int .i64 0, .string ⟨#[]⟩, .slice none 0 0, .int .i64 0, .int .i64 0, .int .i64 0]) 11 112 Tryz.underlying24 hq0 hz0 hz1 hz2 (by rfl) (by decide) (.slice a3 n c3) n _ (by rfl) (HOW7.out.alloc _) ⟨w7.heap.size, 0, none⟩ 1 1 (OpR.cs ⟨⟨site, seq, kind, ⟨es, eq, ei⟩, text, gone, of, num, gen⟩, a7, cp7⟩) (by rfl) (by rfl) (by have h9 := cell_op_newR w7 ⟨⟨site, seq, kind, ⟨es, eq, ei⟩, text, gone, of, num, gen⟩, a7, cp7⟩ 39; simp only [HGG.out] at h9; exact h9) (cs_oneR _) (by omega) HM1.out HM2.out (by have := HB7.out.size; simp; omega) _ rfl ?_; intro g8 c8 w8 hown8 hgrow8 hat8 hlt8; have HB8 := Lib.hid ((HB7.out.alloc HB7.out.size _).grown hgrow8 (by have := HB7.out.size; simp; omega) (fun q hq => own_ge HOW7.out q hq)); have HO8 := Lib.hid (HO7.out.push (r := ⟨⟨site, seq, kind, ⟨es, eq, ei⟩, text, gone, of, num, gen⟩, a7, cp7⟩) (v8 := .slice (some ⟨g8, 0, none⟩) (n + 1) c8) ⟨HE7.out, HGL.out, HTS.out, HNO7.out⟩ HAP7.out (by rw [HLL.out]; exact hown8) hgrow8 (by rcases hat8 with e | e; exact .inl e.symm; right; rw [e]; rfl)); clear hown8 hgrow8 hat8 hlt8)
    | fail)
  all_goals
    go_wp2_with fail
    go_ret
    exact ⟨_, _, rfl, HO8.out, by unfold OpR.os at *; rw [List.map_append]; exact congrArg (· ++ _) HOS3.out, HB8.out⟩
end Go.Proofs.YthnedehihbploaaGreatDoor
/- an op's box, written over cell by cell -/
namespace Go.Proofs.YthnedehihbploaaGreatDoor
open Go.RowKit Go.Lib Go.Sort

theorem box_of {w : World} {b n : Nat} {t : TypeId} {o : OpD} {a : Option Addr} {cap : Nat} (h : w.heap[b]? = some (.cells #[.int .i64 o.site, .int .i64 o.seq, .int .i64 o.kind, .int .i64 o.after.s, .int .i64 o.after.q, .int .i64 o.after.i, .string o.text, .slice a n cap, .int .i64 o.of, .int .i64 o.num, .int .i64 o.gen] t (0, 0))) (hn : n = o.gone.length) : BoxO w b o a cap := by
  subst hn
  refine ⟨(Array.getElem?_eq_some_iff.1 h).1, ?_, ?_, ?_, ?_, ?_, ?_, ?_, ?_, ?_, ?_, ?_⟩ <;> simp [World.cell?, h]
section
variable {w : World} {b : Nat} {t : TypeId} {c0 c1 c2 c3 c4 c5 c6 c7 c8 c9 ca : Value}
theorem blk_set2 (h : w.heap[b]? = some (.cells #[c0, c1, c2, c3, c4, c5, c6, c7, c8, c9, ca] t (0, 0))) (v : Value) : (w.setCell ⟨b, 2, none⟩ v).heap[b]? = some (.cells #[c0, c1, v, c3, c4, c5, c6, c7, c8, c9, ca] t (0, 0)) := by
  unfold World.setCell
  simp [Array.getElem?_modify, h]
theorem blk_set3 (h : w.heap[b]? = some (.cells #[c0, c1, c2, c3, c4, c5, c6, c7, c8, c9, ca] t (0, 0))) (v : Value) : (w.setCell ⟨b, 3, none⟩ v).heap[b]? = some (.cells #[c0, c1, c2, v, c4, c5, c6, c7, c8, c9, ca] t (0, 0)) := by
  unfold World.setCell
  simp [Array.getElem?_modify, h]
theorem blk_set4 (h : w.heap[b]? = some (.cells #[c0, c1, c2, c3, c4, c5, c6, c7, c8, c9, ca] t (0, 0))) (v : Value) : (w.setCell ⟨b, 4, none⟩ v).heap[b]? = some (.cells #[c0, c1, c2, c3, v, c5, c6, c7, c8, c9, ca] t (0, 0)) := by
  unfold World.setCell
  simp [Array.getElem?_modify, h]
theorem blk_set5 (h : w.heap[b]? = some (.cells #[c0, c1, c2, c3, c4, c5, c6, c7, c8, c9, ca] t (0, 0))) (v : Value) : (w.setCell ⟨b, 5, none⟩ v).heap[b]? = some (.cells #[c0, c1, c2, c3, c4, v, c6, c7, c8, c9, ca] t (0, 0)) := by
  unfold World.setCell
  simp [Array.getElem?_modify, h]
theorem blk_set6 (h : w.heap[b]? = some (.cells #[c0, c1, c2, c3, c4, c5, c6, c7, c8, c9, ca] t (0, 0))) (v : Value) : (w.setCell ⟨b, 6, none⟩ v).heap[b]? = some (.cells #[c0, c1, c2, c3, c4, c5, v, c7, c8, c9, ca] t (0, 0)) := by
  unfold World.setCell
  simp [Array.getElem?_modify, h]
theorem blk_set7 (h : w.heap[b]? = some (.cells #[c0, c1, c2, c3, c4, c5, c6, c7, c8, c9, ca] t (0, 0))) (v : Value) : (w.setCell ⟨b, 7, none⟩ v).heap[b]? = some (.cells #[c0, c1, c2, c3, c4, c5, c6, v, c8, c9, ca] t (0, 0)) := by
  unfold World.setCell
  simp [Array.getElem?_modify, h]
theorem blk_set8 (h : w.heap[b]? = some (.cells #[c0, c1, c2, c3, c4, c5, c6, c7, c8, c9, ca] t (0, 0))) (v : Value) : (w.setCell ⟨b, 8, none⟩ v).heap[b]? = some (.cells #[c0, c1, c2, c3, c4, c5, c6, c7, v, c9, ca] t (0, 0)) := by
  unfold World.setCell
  simp [Array.getElem?_modify, h]
theorem blk_set9 (h : w.heap[b]? = some (.cells #[c0, c1, c2, c3, c4, c5, c6, c7, c8, c9, ca] t (0, 0))) (v : Value) : (w.setCell ⟨b, 9, none⟩ v).heap[b]? = some (.cells #[c0, c1, c2, c3, c4, c5, c6, c7, c8, v, ca] t (0, 0)) := by
  unfold World.setCell
  simp [Array.getElem?_modify, h]
theorem blk_seta (h : w.heap[b]? = some (.cells #[c0, c1, c2, c3, c4, c5, c6, c7, c8, c9, ca] t (0, 0))) (v : Value) : (w.setCell ⟨b, 10, none⟩ v).heap[b]? = some (.cells #[c0, c1, c2, c3, c4, c5, c6, c7, c8, c9, v] t (0, 0)) := by
  unfold World.setCell
  simp [Array.getElem?_modify, h]
end
theorem cell_far {w : World} {b b2 o c : Nat} {u : Value} {v : Option Value} (h : w.cell? ⟨b2, o, none⟩ = v) (hne : b2 ≠ b) : (w.setCell ⟨b, c, none⟩ u).cell? ⟨b2, o, none⟩ = v := by
  unfold World.cell? at h ⊢
  simp only [set_other hne]
  exact h
theorem blk_cells {w : World} {b : Nat} {t : TypeId} {c0 c1 c2 c3 c4 c5 c6 c7 c8 c9 ca : Value} (h : w.heap[b]? = some (.cells #[c0, c1, c2, c3, c4, c5, c6, c7, c8, c9, ca] t (0, 0))) :
    w.cell? ⟨b, 2, none⟩ = some c2 ∧ w.cell? ⟨b, 3, none⟩ = some c3 ∧ w.cell? ⟨b, 4, none⟩ = some c4 ∧ w.cell? ⟨b, 5, none⟩ = some c5 ∧ w.cell? ⟨b, 6, none⟩ = some c6 ∧ w.cell? ⟨b, 7, none⟩ = some c7 ∧ w.cell? ⟨b, 8, none⟩ = some c8 ∧ w.cell? ⟨b, 9, none⟩ = some c9 ∧ w.cell? ⟨b, 10, none⟩ = some ca ∧ (∀ c, w.frozen? ⟨b, c, none⟩ = false) ∧ b < w.heap.size := by
  refine ⟨?_, ?_, ?_, ?_, ?_, ?_, ?_, ?_, ?_, fun c => ?_, (Array.getElem?_eq_some_iff.1 h).1⟩
  all_goals first | (simp [World.cell?, h]; done) | (simp [World.frozen?, h])
/-- what the switch leaves -/
def SwPost (bx : Nat) (wr wx : World) : Prop := ∃ (o : OpD) (oa : Option Addr) (oc : Nat), BoxO wx bx o oa oc ∧ ElemsAt wx oa o.gone ∧ o.gone.length ≤ 1 ∧ o.text.size ≤ 2 ∧ Below wr.heap.size wr wx
theorem sw_k0 {wr w : World} {bx : Nat} {s q : Int} {t : TypeId} (h : w.heap[bx]? = some (.cells #[.int .i64 s, .int .i64 q, .int .i64 0, .int .i64 0, .int .i64 0, .int .i64 0, .string ⟨#[]⟩, .slice none 0 0, .int .i64 0, .int .i64 0, .int .i64 0] t (0, 0))) (hb : Below wr.heap.size wr w) (hg : wr.heap.size ≤ bx) :
    SwPost bx wr ((w.setCell ⟨bx, 2, none⟩ (.int .i64 1)).setCell ⟨bx, 6, none⟩ (.string ⟨#[120, 121]⟩)) ∧
    ∀ x y z : Int, SwPost bx wr (((((w.setCell ⟨bx, 2, none⟩ (.int .i64 1)).setCell ⟨bx, 6, none⟩ (.string ⟨#[120, 121]⟩)).setCell ⟨bx, 3, none⟩ (.int .i64 x)).setCell ⟨bx, 4, none⟩ (.int .i64 y)).setCell ⟨bx, 5, none⟩ (.int .i64 z)) := by
  have h1 := blk_set6 (blk_set2 h (.int .i64 1)) (.string ⟨#[120, 121]⟩)
  refine ⟨⟨⟨s, q, 1, ⟨0, 0, 0⟩, ⟨#[120, 121]⟩, [], 0, 0, 0⟩, none, 0, box_of h1 rfl, ElemsAt.nil none, Nat.zero_le _, Nat.le_refl 2, (hb.setCell hg _).setCell hg _⟩, fun x y z => ?_⟩
  have h2 := blk_set5 (blk_set4 (blk_set3 h1 (.int .i64 x)) (.int .i64 y)) (.int .i64 z)
  exact ⟨⟨s, q, 1, ⟨x, y, z⟩, ⟨#[120, 121]⟩, [], 0, 0, 0⟩, none, 0, box_of h2 rfl, ElemsAt.nil none, Nat.zero_le _, Nat.le_refl 2, ((((hb.setCell hg _).setCell hg _).setCell hg _).setCell hg _).setCell hg _⟩
theorem sw_k1 {wr w : World} {bx : Nat} {s q : Int} {t t2 : TypeId} (h : w.heap[bx]? = some (.cells #[.int .i64 s, .int .i64 q, .int .i64 0, .int .i64 0, .int .i64 0, .int .i64 0, .string ⟨#[]⟩, .slice none 0 0, .int .i64 0, .int .i64 0, .int .i64 0] t (0, 0))) (hb : Below wr.heap.size wr w) (hg : wr.heap.size ≤ bx) (x y z : Int) (c : Nat) :
    SwPost bx wr (((w.alloc (.cells #[.int .i64 x, .int .i64 y, .int .i64 z] t2)).setCell ⟨bx, 2, none⟩ (.int .i64 1)).setCell ⟨bx, 7, none⟩ (.slice (some ⟨w.heap.size, 0, none⟩) 1 c)) ∧
    SwPost bx wr (((w.setCell ⟨bx, 2, none⟩ (.int .i64 1)).alloc (.cells #[.int .i64 x, .int .i64 y, .int .i64 z] t2)).setCell ⟨bx, 7, none⟩ (.slice (some ⟨w.heap.size, 0, none⟩) 1 c)) := by
  have hbl := (Array.getElem?_eq_some_iff.1 h).1
  constructor
  · have h1 : (w.alloc (.cells #[.int .i64 x, .int .i64 y, .int .i64 z] t2)).heap[bx]? = _ := (heap_alloc_old w _ hbl).trans h
    have h2 := blk_set7 (blk_set2 h1 (.int .i64 1)) (.slice (some ⟨w.heap.size, 0, none⟩) 1 c)
    have hn : (w.alloc (.cells #[.int .i64 x, .int .i64 y, .int .i64 z] t2)).heap[w.heap.size]? = some (.cells #[.int .i64 x, .int .i64 y, .int .i64 z] t2) := heap_alloc_new w _
    have hn2 : (((w.alloc (.cells #[.int .i64 x, .int .i64 y, .int .i64 z] t2)).setCell ⟨bx, 2, none⟩ (.int .i64 1)).setCell ⟨bx, 7, none⟩ (.slice (some ⟨w.heap.size, 0, none⟩) 1 c)).heap[w.heap.size]? = some (.cells #[.int .i64 x, .int .i64 y, .int .i64 z] t2) := by
      rw [set_other (by omega), set_other (by omega)]
      exact hn
    refine ⟨⟨s, q, 1, ⟨0, 0, 0⟩, ⟨#[]⟩, [⟨x, y, z⟩], 0, 0, 0⟩, some ⟨w.heap.size, 0, none⟩, c, box_of h2 rfl, ⟨fun j hj => ?_⟩, Nat.le_refl 1, Nat.zero_le _, ((hb.alloc (by omega) _).setCell hg _).setCell hg _⟩
    have h0 : j = 0 := by simpa using hj
    subst h0
    exact ⟨w.heap.size, 0, rfl, (Array.getElem?_eq_some_iff.1 hn2).1, by unfold World.cell?; simp only [hn2]; rfl, by unfold World.cell?; simp only [hn2]; rfl, by unfold World.cell?; simp only [hn2]; rfl⟩
  · have hz : (w.setCell ⟨bx, 2, none⟩ (.int .i64 1)).heap.size = w.heap.size := by simp
    have h1 : ((w.setCell ⟨bx, 2, none⟩ (.int .i64 1)).alloc (.cells #[.int .i64 x, .int .i64 y, .int .i64 z] t2)).heap[bx]? = _ := (heap_alloc_old _ _ (by rw [hz]; exact hbl)).trans (blk_set2 h (.int .i64 1))
    have h2 := blk_set7 h1 (.slice (some ⟨w.heap.size, 0, none⟩) 1 c)
    have hn : ((w.setCell ⟨bx, 2, none⟩ (.int .i64 1)).alloc (.cells #[.int .i64 x, .int .i64 y, .int .i64 z] t2)).heap[w.heap.size]? = some (.cells #[.int .i64 x, .int .i64 y, .int .i64 z] t2) := by
      have := heap_alloc_new (w.setCell ⟨bx, 2, none⟩ (.int .i64 1)) (.cells #[.int .i64 x, .int .i64 y, .int .i64 z] t2)
      rw [hz] at this
      exact this
    have hn2 : (((w.setCell ⟨bx, 2, none⟩ (.int .i64 1)).alloc (.cells #[.int .i64 x, .int .i64 y, .int .i64 z] t2)).setCell ⟨bx, 7, none⟩ (.slice (some ⟨w.heap.size, 0, none⟩) 1 c)).heap[w.heap.size]? = some (.cells #[.int .i64 x, .int .i64 y, .int .i64 z] t2) := by
      rw [set_other (by omega)]
      exact hn
    refine ⟨⟨s, q, 1, ⟨0, 0, 0⟩, ⟨#[]⟩, [⟨x, y, z⟩], 0, 0, 0⟩, some ⟨w.heap.size, 0, none⟩, c, box_of h2 rfl, ⟨fun j hj => ?_⟩, Nat.le_refl 1, Nat.zero_le _, (((hb.setCell hg _).alloc (by rw [hz]; omega) _).setCell hg _)⟩
    have h0 : j = 0 := by simpa using hj
    subst h0
    exact ⟨w.heap.size, 0, rfl, (Array.getElem?_eq_some_iff.1 hn2).1, by unfold World.cell?; simp only [hn2]; rfl, by unfold World.cell?; simp only [hn2]; rfl, by unfold World.cell?; simp only [hn2]; rfl⟩
end Go.Proofs.YthnedehihbploaaGreatDoor
/- wakes of layer 6 -/
namespace Go.Proofs.YthnedehihbploaaGreatDoor
open Go.RowKit Go.Lib

def dk1 : OpD := ⟨1, 1, 1, ⟨0, 0, 0⟩, ⟨#[97]⟩, [], 0, 0, 0⟩
def dk2 : OpD := ⟨1, 2, 2, ⟨0, 0, 0⟩, ⟨#[]⟩, [], 1, 1, 0⟩
theorem dk_row : rowP [dk1, dk2] := by
  refine ⟨by decide, fun k hk => ?_⟩
  have : k = 0 ∨ k = 1 := by simp at hk; omega
  rcases this with rfl | rfl
  · show tk [] dk1 = true
    kernel_rfl
  · show tk [dk1] dk2 = true
    kernel_rfl
theorem dk_row1 : rowP [dk1] := rowP_take dk_row 1
theorem dk_row0 : rowP [] := rowP_take dk_row 0
theorem dk_txt : docT [dk1, dk2] = [] := by kernel_rfl
theorem dk_txt1 : docT [dk1] = [97] := by kernel_rfl
theorem dk_txt0 : docT [] = [] := by kernel_rfl
theorem dk_ops (w : World) : OpsAt (w.alloc (.cells #[.int .i64 1, .int .i64 1, .int .i64 1, .int .i64 0, .int .i64 0, .int .i64 0, .string ⟨#[97]⟩, .slice none 0 0, .int .i64 0, .int .i64 0, .int .i64 0, .int .i64 1, .int .i64 2, .int .i64 2, .int .i64 0, .int .i64 0, .int .i64 0, .string ⟨#[]⟩, .slice none 0 0, .int .i64 1, .int .i64 1, .int .i64 0] 39)) (some ⟨w.heap.size, 0, none⟩) [⟨dk1, none, 0⟩, ⟨dk2, none, 0⟩] := by
  refine ⟨fun j hj => ⟨w.heap.size, 0, rfl, by simp, fun c u hu => ?_⟩, fun j hj => ?_, by decide⟩
  · have hj2 : j = 0 ∨ j = 1 := by simp at hj; omega
    have hc : c < 11 := by
      have := (List.getElem?_eq_some_iff.1 hu).1
      rcases hj2 with rfl | rfl <;> exact this
    rw [World.cell?_alloc_new, ← hu]
    have hcc : c = 0 ∨ c = 1 ∨ c = 2 ∨ c = 3 ∨ c = 4 ∨ c = 5 ∨ c = 6 ∨ c = 7 ∨ c = 8 ∨ c = 9 ∨ c = 10 := by omega
    rcases hj2 with rfl | rfl <;> rcases hcc with rfl | rfl | rfl | rfl | rfl | rfl | rfl | rfl | rfl | rfl | rfl <;> rfl
  · have hj2 : j = 0 ∨ j = 1 := by simp at hj; omega
    rcases hj2 with rfl | rfl
    · exact ⟨ElemsAt.nil _, Nat.zero_le _, (show (1 : Nat) ≤ BIG from by decide), fun _ => ⟨rfl, rfl⟩⟩
    · exact ⟨ElemsAt.nil _, Nat.zero_le _, (show (0 : Nat) ≤ BIG from by decide), fun _ => ⟨rfl, rfl⟩⟩
end Go.Proofs.YthnedehihbploaaGreatDoor
/- lectionarylaw6.with: the walk that four laws share, for what is written -/
namespace Go.Proofs.YthnedehihbploaaGreatDoor
open Go.RowKit Go.Lib Go.Sort

theorem szs_row {L : List OpR} (hr : rowP (OpR.os L)) : Szs L ∧ ∀ r ∈ L, r.o.gone.length ≤ 1000000 := by
  refine ⟨fun r hm => ?_, fun r hm => ?_⟩
  · have := (okOp_text (row_ok hr.2 r.o (List.mem_map_of_mem hm))).2.2
    omega
  · have := (gone_ok (row_ok hr.2 r.o (List.mem_map_of_mem hm))).1
    omega
/-- the row l, as it stands at the head of the inner loop -/
def WRow (w : World) (a : Option Addr) (c : Nat) (L : List OpR) : Prop := OpsAt w a L ∧ L.length ≤ c ∧ rowP (OpR.os L)
theorem WRow.below {w w' : World} {a : Option Addr} {c : Nat} {L : List OpR} (h : WRow w a c L) (hb : Below w.heap.size w w') : WRow w' a c L := ⟨h.1.below hb, h.2.1, h.2.2⟩
end Go.Proofs.YthnedehihbploaaGreatDoor
