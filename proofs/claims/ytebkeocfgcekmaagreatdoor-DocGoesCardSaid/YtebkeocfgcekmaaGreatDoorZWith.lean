/- the page's Count, Effective -/
import Derived.Test.YtebkeocfgcekmaaGreatDoorDPure
import Derived.Test.YtebkeocfgcekmaaGreatDoorRGo
import Derived.IntWalk
import Derived.Test.YtebkeocfgcekmaaGreatDoorROrders
import Derived.Test.YtebkeocfgcekmaaGreatDoorVEq
import Derived.Deep.CutBlock
import Derived.Deep.DeepCutAuto
import Derived.StillTailTactics
import Derived.Lib.QuietBelow
import Derived.Test.YtebkeocfgcekmaaGreatDoorRPage
import Derived.Laws.Runes
import Derived.Test.YtebkeocfgcekmaaGreatDoorYCut
import Derived.Deep.AppendLies
import Derived.Deep.RegionLaw
import Derived.Test.YtebkeocfgcekmaaGreatDoorDText
import Derived.Test.YtebkeocfgcekmaaGreatDoorYNear
import Derived.Deep.RegionHeld3
namespace Go.Proofs.YtebkeocfgcekmaaGreatDoor
open Go.RowKit Go.Lib

theorem ct_take (l : List OpR) (s q : Int) {k : Nat} (hk : k < l.length) : ct ((OpR.os l).take (k + 1)) s q = if l[k].o.kind = 2 ∧ l[k].o.of = s ∧ l[k].o.num = q ∧ l[k].o.gen = (ct ((OpR.os l).take k) s q : Int) then ct ((OpR.os l).take k) s q + 1 else ct ((OpR.os l).take k) s q := by
  rw [List.take_succ_eq_append_getElem (by rw [os_len]; exact hk), ct_snoc]
  rw [show (OpR.os l)[k]'(by rw [os_len]; exact hk) = l[k].o from by simp [OpR.os]]
set_option maxRecDepth 100000 in
set_option maxHeartbeats 2000000 in
theorem rCount_same (a : Option Addr) (cap : Nat) (l : List OpR) (s q : Int) (w : World) (h : OpsAt w a l) : Calls Tryz.prog 21 #[.slice a l.length cap, .int .i64 s, .int .i64 q] w (fun e w' => e = .returned (.int .i64 (ct (OpR.os l) s q)) ∧ w = w') := by
  have hbig := h.len
  have hbi := big_is
  obtain ⟨n, hn⟩ : ∃ n, l.length = n := ⟨_, rfl⟩
  have HN := Lib.hid hn
  have HH := Lib.hid h
  rw [hn]
  have h0a : (n : Int) ≤ 140737488351232 := by omega
  clear h hn hbig hbi
  go_enter Tryz.func21, Tryz.ntmps21
  go_wp2_with fail
  go_loop [7, 8] (fun s5 s6 => ∃ k : Nat, s6 = .int .i64 k ∧ k ≤ n ∧ s5 = .int .i64 (ct ((OpR.os l).take k) s q : Nat)) (fun _ s6 => n - (RowKit.intOf s6).toNat)
  case atStart => exact ⟨0, rfl, Nat.zero_le _, rfl⟩
  case round =>
    obtain ⟨k, rfl, hk, rfl⟩ := hrel
    by_cases hlt : k < n
    · have hkl : k < l.length := by rw [HN.out]; exact hlt
      obtain ⟨b, off, rfl, hbb, c0, c1, c2, c3, c4, c5, c6, c7, c8, c9, ca⟩ := HH.out.cells k hkl
      have HC := Lib.hid (ct_take l s q hkl)
      have hcle : ct ((OpR.os l).take k) s q ≤ k := Nat.le_trans (ct_le _ _ _) (by rw [List.length_take]; omega)
      generalize l[k].o = o at *
      generalize ct ((OpR.os l).take k) s q = c at *
      obtain ⟨site, seq, kind, ⟨es, eq, ei⟩, text, gone, of, num, gen⟩ := o
      simp only at HC c0 c1 c2 c8 c9 ca
      clear hkl c0 c1 c3 c4 c5 c6 c7
      by_cases h1 : kind = 2
      · by_cases h2 : of = s
        · by_cases h3 : num = q
          · by_cases h4 : gen = (c : Int)
            · have HC2 := Lib.hid (HC.out.trans (by rw [if_pos ⟨h1, h2, h3, h4⟩]))
              subst h1 h2 h3 h4
              go_wp2_with fail
              go_round
              case rel => exact ⟨k + 1, by go_num, by omega, by rw [HC2.out]; go_num⟩
              case measure => simp [RowKit.intOf]; omega
            · have HC2 := Lib.hid (HC.out.trans (by rw [if_neg (fun h => h4 h.2.2.2)]))
              subst h1 h2 h3
              go_wp2_with fail
              go_round
              case rel => exact ⟨k + 1, by go_num, by omega, by rw [HC2.out]⟩
              case measure => simp [RowKit.intOf]; omega
          · have HC2 := Lib.hid (HC.out.trans (by rw [if_neg (fun h => h3 h.2.2.1)]))
            subst h1 h2
            go_wp2_with fail
            go_round
            case rel => exact ⟨k + 1, by go_num, by omega, by rw [HC2.out]⟩
            case measure => simp [RowKit.intOf]; omega
        · have HC2 := Lib.hid (HC.out.trans (by rw [if_neg (fun h => h2 h.2.1)]))
          subst h1
          go_wp2_with fail
          go_round
          case rel => exact ⟨k + 1, by go_num, by omega, by rw [HC2.out]⟩
          case measure => simp [RowKit.intOf]; omega
      · have HC2 := Lib.hid (HC.out.trans (by rw [if_neg (fun h => h1 h.1)]))
        go_wp2_with fail
        go_round
        case rel => exact ⟨k + 1, by go_num, by omega, by rw [HC2.out]⟩
        case measure => simp [RowKit.intOf]; omega
    · have HF := Lib.hid (show (OpR.os l).take k = OpR.os l from List.take_of_length_le (by rw [os_len, HN.out]; omega))
      go_wp2_with fail
      go_ret
      exact ⟨ret_int (by rw [HF.out]), rfl⟩
theorem rCount_any (a : Option Addr) (cap : Nat) (l : List OpR) (s q : Int) (w : World) (h : OpsAt w a l) : Calls Tryz.prog 21 #[.slice a l.length cap, .int .i64 s, .int .i64 q] w (IntB (ct (OpR.os l) s q) w) :=
  (rCount_same a cap l s q w h).mono fun _ _ hp => ⟨hp.1, by rw [hp.2]; exact Below.refl _ _⟩
theorem rEff_same (a : Option Addr) (cap : Nat) (l : List OpR) (s q : Int) (w : World) (h : OpsAt w a l) (hl : l.length ≤ 1000) : Calls Tryz.prog 22 #[.slice a l.length cap, .int .i64 s, .int .i64 q] w (fun e w' => e = .returned (.bool (evn (OpR.os l) s q)) ∧ w = w') := by
  have HC := Lib.hid (rCount_same a cap l s q w h)
  have hle : ct (OpR.os l) s q ≤ 1000 := Nat.le_trans (ct_le _ _ _) (by rw [os_len]; exact hl)
  unfold evn
  clear h
  generalize ct (OpR.os l) s q = n at *
  have h1 : ((n : Int)).tmod 2 = ((n % 2 : Nat) : Int) := by
    rw [Int.tmod_eq_emod_of_nonneg (by omega)]
    rfl
  have h2 : wrap64 ((n % 2 : Nat) : Int) = ((n % 2 : Nat) : Int) := IntWalk.wrap64_in _ ⟨by omega, by omega⟩
  have h3 : decide (n % 2 = 0) = decide (((n % 2 : Nat) : Int) = 0) := by rw [decide_eq_decide]; omega
  rw [h3]
  generalize l.length = m at *
  go_enter Tryz.func22, Tryz.ntmps22
  go_wp2_with (first | (go_at_call 21; refine HC.out.mono ?_; rintro x1 w1 ⟨rfl, rfl⟩) | fail)
  go_ret
  refine ⟨ret_bool ?_, rfl⟩
  first | rfl | (rw [h1]; rfl) | (rw [h1, h2]; rfl)
theorem rEff_any (a : Option Addr) (cap : Nat) (l : List OpR) (s q : Int) (w : World) (h : OpsAt w a l) (hl : l.length ≤ 1000) : Calls Tryz.prog 22 #[.slice a l.length cap, .int .i64 s, .int .i64 q] w (BoB (evn (OpR.os l) s q) w) :=
  (rEff_same a cap l s q w h hl).mono fun _ _ hp => ⟨hp.1, by rw [hp.2]; exact Below.refl _ _⟩
end Go.Proofs.YtebkeocfgcekmaaGreatDoor
/- the page's Visible -/
namespace Go.Proofs.YtebkeocfgcekmaaGreatDoor
open Go.RowKit Go.Lib

theorem Tryz.infoBool : (Tryz.prog.info? 4).map (fun i => (i.zero, i.size, i.bytes)) = some (some (.bool false), 1, 1) := by kernel_rfl
/-- is the op at a place at work? -/
def wf (l : List OpR) (j : Nat) : Bool := match l[j]? with | some r => wks (OpR.os l) r.o | none => false
/-- the row of bools, of which i are laid -/
def wbs (l : List OpR) (n i : Nat) : List Value := (List.range n).map (fun j => Value.bool (decide (j < i) && wf l j))
theorem wbs_length (l : List OpR) (n i : Nat) : (wbs l n i).length = n := by simp [wbs]
theorem wbs_get (l : List OpR) {n i j : Nat} (hj : j < n) : (wbs l n i)[j]? = some (.bool (decide (j < i) && wf l j)) := by simp [wbs, hj]
theorem wbs_zero (l : List OpR) (n : Nat) : wbs l n 0 = (madeCells (Value.bool false).cells (n * 1)).toList := by
  apply List.ext_getElem?
  intro j
  by_cases hj : j < n
  · rw [wbs_get l hj]
    simp [madeCells, Value.cells, hj, Nat.mod_one]
  · rw [List.getElem?_eq_none (by rw [wbs_length]; omega), List.getElem?_eq_none (by simp [madeCells]; omega)]
theorem wbs_set (l : List OpR) {n i : Nat} (hi : i < n) : (wbs l n i).set i (.bool (wf l i)) = wbs l n (i + 1) := by
  apply List.ext_getElem?
  intro j
  rw [List.getElem?_set]
  by_cases hij : i = j
  · subst hij
    rw [if_pos rfl, wbs_length, if_pos hi, wbs_get l hi]
    simp
  · rw [if_neg hij]
    by_cases hj : j < n
    · rw [wbs_get l hj, wbs_get l hj]
      have : decide (j < i) = decide (j < i + 1) := by rw [decide_eq_decide]; omega
      rw [this]
    · rw [List.getElem?_eq_none (by rw [wbs_length]; omega), List.getElem?_eq_none (by rw [wbs_length]; omega)]
theorem owns_wide {w : World} {base b2 : Nat} {e : TypeId} {size : Nat} {v : Value} {n : Nat} {xs : List Value} (h : w.ownsRow base e size v n xs) (hb : b2 ≤ base) : w.ownsRow b2 e size v n xs := by
  refine ⟨h.1, ?_⟩
  rcases h.2 with hn | ⟨g, cap, cur, hv, hg, r⟩
  · exact .inl hn
  · exact .inr ⟨g, cap, cur, hv, Nat.le_trans hb hg, r⟩
/-- do the first i ops take e away? -/
def gnT (l : List OpR) (e : El) (i : Nat) : Bool := (l.take i).any (fun r => wks (OpR.os l) r.o && decide (e ∈ r.o.gone))
theorem gnT_zero (l : List OpR) (e : El) : gnT l e 0 = false := by simp [gnT]
theorem gnT_succ (l : List OpR) (e : El) {i : Nat} (hi : i < l.length) : gnT l e (i + 1) = (gnT l e i || (wf l i && decide (e ∈ l[i].o.gone))) := by
  unfold gnT wf
  rw [List.take_succ_eq_append_getElem hi, List.any_append, List.getElem?_eq_getElem hi]
  simp
theorem gnT_mono (l : List OpR) (e : El) {i : Nat} (h : gnT l e i = true) : gnT l e l.length = true := by
  unfold gnT at h ⊢
  rw [List.take_length]
  rw [List.any_eq_true] at h ⊢
  obtain ⟨x, hx, h2⟩ := h
  exact ⟨x, List.mem_of_mem_take hx, h2⟩
theorem vis_gnT {l : List OpR} (hr : okRow (OpR.os l)) (e : El) : vis (OpR.os l) e = (evn (OpR.os l) e.s e.q && !gnT l e l.length) := by
  unfold vis gnT
  rw [goneE_works hr, List.take_length]
  congr 2
  simp [OpR.os, List.any_map, Function.comp_def]
/-- what is found, of what is in the order -/
theorem vis_find {l : List OpR} (hr : okRow (OpR.os l)) {e : El} (he : e ∈ ordE (OpR.os l)) : ∃ k : Nat, k < l.length ∧ findI (OpR.os l) e.s e.q = (k : Int) ∧ wf l k = evn (OpR.os l) e.s e.q := by
  obtain ⟨hk, hkd, _⟩ := ord_edit hr he
  have hfi := fk_is hk
  have hk2 : fk (OpR.os l) e.s e.q < l.length := by rw [← os_len]; exact hk
  refine ⟨fk (OpR.os l) e.s e.q, hk2, by unfold findI; rw [if_pos hk], ?_⟩
  unfold wf
  rw [List.getElem?_eq_getElem hk2]
  have ho : (OpR.os l)[fk (OpR.os l) e.s e.q] = l[fk (OpR.os l) e.s e.q].o := by simp [OpR.os]
  rw [ho] at hkd hfi
  unfold wks
  simp only
  rw [decide_eq_true hkd, hfi.1, hfi.2]
  rfl
/-- the first k of those in the order that are visible -/
def vsK (L : List OpD) (Y : List El) (k : Nat) : List El := (Y.take k).filter (vis L)
set_option maxRecDepth 100000 in
set_option maxHeartbeats 4000000 in
theorem rVis_any (a : Option Addr) (cap : Nat) (l : List OpR) (w : World) (hT : Tabs w) (hsz : Szs l) (h : OpsAt w a l) (hr : rowP (OpR.os l)) : Calls Tryz.prog 12 #[.slice a l.length cap] w (OwnPost (visE (OpR.os l)) w) := by
  have hl40 : l.length ≤ 40 := by have := hr.1; rw [os_len] at this; exact this
  have HH := Lib.hid h
  have HR := Lib.hid hr
  have HO := Lib.hid (fun wx (hx : Below w.heap.size w wx) => rOrder_any a cap l wx (hT.next hx) hsz (h.below hx) hr)
  have HE := Lib.hid (fun s q wx (hx : Below w.heap.size w wx) => rEff_same a cap l s q wx (h.below hx) (by omega))
  have HF := Lib.hid (fun s q wx (hx : Below w.heap.size w wx) => rFind_any a cap l s q wx (h.below hx))
  obtain ⟨n, hn⟩ : ∃ n, l.length = n := ⟨_, rfl⟩
  have HN := Lib.hid hn
  rw [hn] at HO HE HF hl40 ⊢
  clear h hr hT hsz hn
  obtain ⟨ib, hi0, hz0, hz1, hz2⟩ := info_parts Tryz.infoBool
  obtain ⟨w1, hmk, hown, hgr⟩ := run_makeSlice_full (P := Tryz.prog) w w.heap.size 86 4 ib (.bool false) 1 Tryz.underlying86 hi0 hz0 hz1 .i64 .i64 n (by omega) (by rw [hz2]; omega) (by simp only [maxLen]; omega) (Nat.le_refl _)
  have hbl : Below w.heap.size w w1 := (Below.refl w.heap.size w).grown hgr (Nat.le_refl _) (fun j hj => by cases hj)
  rw [← wbs_zero l n] at hown
  have HOW := Lib.hid hown
  have HBL := Lib.hid hbl
  clear hown hgr hbl hi0 hz0 hz1 hz2
  obtain ⟨i0, hi0, hz0, hz1, hz2⟩ := info_parts Tryz.infoElem
  have HI0 := Lib.hid hi0
  have HI1 := Lib.hid hz0
  have HI2 := Lib.hid hz1
  have HI3 := Lib.hid hz2
  clear hi0 hz0 hz1 hz2
  obtain ⟨wb, hwb⟩ : ∃ b, w.heap.size = b := ⟨_, rfl⟩
  have HWB := Lib.hid hwb
  rw [hwb] at hmk HOW
  clear hwb
  go_enter Tryz.func12, Tryz.ntmps12
  go_wp2_with fail
  clear hmk
  go_loopw [4] (fun s4 wr => ∃ i : Nat, s4 = .int .i64 i ∧ i ≤ n ∧ wr.ownsRow wb 4 1 (.slice (some ⟨wb, 0, none⟩) n n) n (wbs l n i) ∧ Below w.heap.size w wr) (fun s4 _ => n - (RowKit.intOf s4).toNat)
  case atStart => exact ⟨0, rfl, Nat.zero_le _, HOW.out, HBL.out⟩
  case round =>
    clear HOW HBL
    obtain ⟨i, rfl, hi, how, hb⟩ := hrel
    have HO1 := Lib.hid how
    have HB1 := Lib.hid hb
    by_cases hlt : i < n
    · have hil : i < l.length := by rw [HN.out]; exact hlt
      obtain ⟨b, off, rfl, hbb, c0, c1, c2, -⟩ := (HH.out.below hb).cells i hil
      have HWF : RowKit.Hid (wf l i = wks (OpR.os l) (l[i]'hil).o) := Lib.hid (by unfold wf; rw [List.getElem?_eq_getElem hil])
      have hfr := how.frozenAt i
      have hcl := how.cellAt i (by omega)
      rw [wbs_get l hlt] at hcl
      have hwl := (how.lt wb rfl).2
      have HSTO := Lib.hid (fun (wx : World) (hx : wx.ownsRow wb 4 1 (.slice (some ⟨wb, 0, none⟩) n n) n (wbs l n i)) (v : Bool) (hv : v = wf l i) => (by
        have h := (hx.stored i (.bool v)).1
        rw [hv, wbs_set l hlt] at h
        rw [hv]
        exact h : (wx.setCell ⟨wb, i, none⟩ (.bool v)).ownsRow wb 4 1 (.slice (some ⟨wb, 0, none⟩) n n) n (wbs l n (i + 1))))
      have HEF := Lib.hid (HE.out l[i].o.site l[i].o.seq)
      unfold wks at HWF
      generalize evn (OpR.os l) l[i].o.site l[i].o.seq = ev at *
      generalize wf l i = wfv at *
      generalize l[i].o = o at *
      clear hil how hb HE
      obtain ⟨site, seq, kind, ⟨es, eq, ei⟩, text, gone, of, num, gen⟩ := o
      simp only at c0 c1 c2 HWF HEF
      by_cases hk : kind = 1
      · have HV : RowKit.Hid (ev = wfv) := Lib.hid (by rw [HWF.out, decide_eq_true hk]; rfl)
        clear HWF
        subst hk
        have hstc := HEF.out wr.drew HB1.out.drew
        go_upto_region 5 with fail
        refine wp_region_still_tail 23 (by kernel_rfl) (by kernel_rfl) ?_
        change wpStill _ _ wr.drew (fun a' => wpList _ _ _ _ a' wr.drew) _ _
        simp only [List.take_succ_cons, List.take_zero, List.drop_succ_cons, List.drop_zero]
        iterate 20 still_step
        still_call (hstc.mono fun e w9 h => ⟨h.1, h.2.symm⟩)
        repeat still_step
        refine wpStill_nil ?_
        go_wp2_with fail
        go_roundw
        case rel => exact ⟨i + 1, by go_num, by omega, HSTO.out _ (owns_belE HO1.out (Below.refl wr.heap.size wr).drew) ev HV.out, (HB1.out.drew).setCell (by rw [HWB.out]; exact Nat.le_refl _) _⟩
        case measure => simp [RowKit.intOf]; omega
      · have HV : RowKit.Hid (false = wfv) := Lib.hid (by rw [HWF.out, decide_eq_false hk]; rfl)
        clear HWF
        go_upto_region 5 with fail
        refine wp_region_still_tail 23 (by kernel_rfl) (by kernel_rfl) ?_
        change wpStill _ _ wr.drew (fun a' => wpList _ _ _ _ a' wr.drew) _ _
        simp only [List.take_succ_cons, List.take_zero, List.drop_succ_cons, List.drop_zero]
        repeat still_step
        refine wpStill_nil ?_
        go_wp2_with fail
        go_roundw
        case rel => exact ⟨i + 1, by go_num, by omega, HSTO.out _ (owns_belE HO1.out (Below.refl wr.heap.size wr).drew) false HV.out, (HB1.out.drew).setCell (by rw [HWB.out]; exact Nat.le_refl _) _⟩
        case measure => simp [RowKit.intOf]; omega
    · have h0 : n = i := by omega
      subst h0
      clear how hb hi
      have HWBS := Lib.hid (fun (wx : World) (hx : Below wr.heap.size wr wx) => owns_belE HO1.out hx)
      obtain ⟨n5, hn5⟩ : ∃ q, (ordE (OpR.os l)).length = q := ⟨_, rfl⟩
      have HN5 := Lib.hid hn5
      have HX5 : RowKit.Hid (n5 ≤ 200) := Lib.hid (by
        have h1 := (row_inv HR.out.2 _ (Nat.le_refl _)).len
        rw [List.take_length] at h1
        have h2 := row_tot HR.out.2
        rw [← hn5]
        unfold ordE
        rw [List.length_map]
        omega)
      clear hn5
      go_wp2_with (first
        | (go_at_call 47; refine (HO.out wr HB1.out).mono ?_; rintro x2 w2 ⟨v2, rfl, hown2, hb2⟩; obtain ⟨a2, c2, hv2, he2, _⟩ := elems_own hown2; rw [HN5.out] at hv2; subst hv2; have HE2 := Lib.hid he2; have HB2 := Lib.hid hb2; clear hown2 he2 hb2)
        | fail)
      have HW2 := Lib.hid (fun (wx : World) (hx : Below w2.heap.size w2 wx) => HB1.out.trans ((HB2.out.trans (hx.mono HB2.out.size)).mono HB1.out.size))
      have HWB2 := Lib.hid (fun (wx : World) (hx : Below w2.heap.size w2 wx) => HWBS.out wx (HB2.out.trans (hx.mono HB2.out.size)))
      clear HWBS HO HO1
      go_loopw [5, 7] (fun s5 s7 wr => ∃ k : Nat, s7 = .int .i64 k ∧ k ≤ n5 ∧ wr.ownsRow w2.heap.size 44 3 s5 (vsK (OpR.os l) (ordE (OpR.os l)) k).length (ecs (vsK (OpR.os l) (ordE (OpR.os l)) k)) ∧ Below w2.heap.size w2 wr) (fun _ s7 _ => n5 - (RowKit.intOf s7).toNat)
      case atStart => exact ⟨0, rfl, Nat.zero_le _, World.ownsRow_nil _ _ _ _, Below.refl _ _⟩
      case round =>
        obtain ⟨k, rfl, hk, hox, hb⟩ := hrel
        have HOX := Lib.hid hox
        have HBK := Lib.hid hb
        by_cases hltk : k < n5
        · have hkl : k < (ordE (OpR.os l)).length := by rw [HN5.out]; exact hltk
          obtain ⟨g2, off2, rfl, hg2, x0, x1, x2⟩ := HE2.out.cell k hkl
          have hmem : (ordE (OpR.os l))[k] ∈ ordE (OpR.os l) := List.getElem_mem hkl
          obtain ⟨fq, hfq, hfi, hfw⟩ := vis_find HR.out.2 hmem
          have hvg := vis_gnT HR.out.2 (ordE (OpR.os l))[k]
          have HVS : RowKit.Hid (vsK (OpR.os l) (ordE (OpR.os l)) (k + 1) = vsK (OpR.os l) (ordE (OpR.os l)) k ++ (if vis (OpR.os l) (ordE (OpR.os l))[k] = true then [(ordE (OpR.os l))[k]] else [])) := Lib.hid (by
            unfold vsK
            rw [List.take_succ_eq_append_getElem hkl, List.filter_append]
            cases hv : vis (OpR.os l) (ordE (OpR.os l))[k] <;> simp [hv])
          rw [hvg] at HVS
          have hgz := gnT_zero l (ordE (OpR.os l))[k]
          have HGS := Lib.hid (fun i (hi : i < l.length) => gnT_succ l (ordE (OpR.os l))[k] hi)
          have HGM := Lib.hid (fun i (hi : gnT l (ordE (OpR.os l))[k] i = true) => gnT_mono l (ordE (OpR.os l))[k] hi)
          have HVL : RowKit.Hid ((vsK (OpR.os l) (ordE (OpR.os l)) k).length ≤ k) := Lib.hid (by unfold vsK; exact Nat.le_trans (List.length_filter_le _ _) (by rw [List.length_take]; exact Nat.min_le_left _ _))
          rw [HN.out] at hfq HVS
          have hx5 : n5 ≤ 200 := HX5.out
          generalize hF1 : vsK (OpR.os l) (ordE (OpR.os l)) (k + 1) = F1 at *
          have HF1E := Lib.hid hF1
          clear hF1
          generalize vsK (OpR.os l) (ordE (OpR.os l)) k = F0 at *
          generalize (ordE (OpR.os l))[k] = e at *
          clear hkl hmem hvg
          have HFQ := Lib.hid (fun wx hx => (by have h := HF.out e.s e.q wx hx; rw [hfi] at h; exact h : Calls Tryz.prog 48 #[.slice a n cap, .int .i64 e.s, .int .i64 e.q] wx (IntB (fq : Nat) wx)))
          obtain ⟨es, eq, ei⟩ := e
          simp only at x0 x1 x2 HFQ hfw
          generalize evn (OpR.os l) es eq = ev at *
          have HXC := Lib.hid (fun (wx : World) (hx : Below w2.heap.size w2 wx) => And.intro ((hx.cell (p := ⟨g2, off2 + k * 3, none⟩) hg2).trans x0) (And.intro ((hx.cell (p := ⟨g2, off2 + k * 3 + 1, none⟩) hg2).trans x1) (And.intro ((hx.cell (p := ⟨g2, off2 + k * 3 + 2, none⟩) hg2).trans x2) (Nat.lt_of_lt_of_le hg2 hx.size))))
          obtain ⟨xx0, xx1, xx2, hgl2⟩ := HXC.out wr hb
          have q0 := cell_regrown xx0
          have q1 := cell_regrown xx1
          have hwb := HWB2.out wr hb
          have hcw := hwb.cellAt fq (by omega)
          rw [wbs_get l hfq, decide_eq_true hfq, Bool.true_and, hfw] at hcw
          have qw := cell_regrown hcw
          have qwl := (hwb.lt wb rfl).2
          have hfnd := fun d os => HFQ.out _ ((HW2.out wr hb).trans ((below_regrown wr d os).mono (HW2.out wr hb).size))
          clear hfi hox hb hcw hwb
          go_upto_region 11 with fail
          refine wp_region_quiet_below (by kernel_rfl) (by kernel_rfl) ?_
          repeat (first | go_big_quiet_step (exact Calls.regrown_of (hfnd _ _)) | quiet_step (exact Calls.regrown_of (hfnd _ _)))
          refine wpQuiet_nil ?_
          intro _ hw'
          obtain ⟨⟨dq, osq⟩, hw''⟩ := hw'
          subst hw''
          have HBQ := Lib.hid (HBK.out.trans ((below_regrown wr dq osq).mono HBK.out.size))
          have HOQ := Lib.hid (owns_belE HOX.out (below_regrown wr dq osq))
          clear q0 q1 qw x0 x1 x2 hfnd HOX HBK xx0 xx1 xx2 hgl2 hg2
          generalize Sort.grow (redrawn wr dq) osq = wv at *
          have hbq := HBQ.out
          have HLG := Lib.hid (fun (wx : World) (hx : Below wv.heap.size wv wx) => HBQ.out.trans (hx.mono HBQ.out.size))
          have HOL := Lib.hid (fun (wx : World) (hx : Below wv.heap.size wv wx) => owns_belE HOQ.out hx)
          go_wp2_with fail
          go_loopw [8, 9] (fun s8 s9 wr => ∃ i : Nat, s9 = .int .i64 i ∧ i ≤ n ∧ s8 = .bool (ev && !gnT l ⟨es, eq, ei⟩ i) ∧ Below wv.heap.size wv wr) (fun _ s9 _ => n - (RowKit.intOf s9).toNat)
          case atStart => exact ⟨0, rfl, Nat.zero_le _, by rw [hgz]; simp, Below.refl _ _⟩
          case round =>
            clear hgz hbq
            obtain ⟨i, rfl, hi, rfl, hbi⟩ := hrel
            have HBI := Lib.hid hbi
            by_cases hgo : i < n ∧ (ev && !gnT l ⟨es, eq, ei⟩ i) = true
            · obtain ⟨hin, hb8⟩ := hgo
              have hil : i < l.length := by rw [HN.out]; exact hin
              have hgs := HGS.out i hil
              rw [hb8]
              have h2i := HLG.out wr hbi
              obtain ⟨xx0, xx1, xx2, hgl2⟩ := HXC.out wr h2i
              have hwn := HW2.out wr h2i
              obtain ⟨b7, off7, rfl, hb7, c0, c1, c2, c3, c4, c5, c6, c7, -⟩ := (HH.out.below hwn).cells i hil
              have hga := ((HH.out.below hwn).op i hil).gone
              have hgl := (gone_ok (row_ok HR.out.2 l[i].o (List.mem_map_of_mem (List.getElem_mem hil)))).1
              have hwb := HWB2.out wr h2i
              have hcw := hwb.cellAt i (by omega)
              rw [wbs_get l hin, decide_eq_true hin, Bool.true_and] at hcw
              have hat := fun d os => At_any l[i].a l[i].cap l[i].o.gone ⟨es, eq, ei⟩ (Sort.grow (redrawn wr d) os) (hga.below (below_regrown _ d os)) (by omega)
              have q0 := cell_regrown xx0
              have q1 := cell_regrown xx1
              have q2 := cell_regrown xx2
              have q7 := cell_regrown c7
              have qw := cell_regrown hcw
              have qwl := (hwb.lt wb rfl).2
              have hz : decide (atI l[i].o.gone ⟨es, eq, ei⟩ < 0) = !decide ((⟨es, eq, ei⟩ : El) ∈ l[i].o.gone) := by
                by_cases hm : (⟨es, eq, ei⟩ : El) ∈ l[i].o.gone
                · have := atI_pos hm
                  rw [decide_eq_true hm, decide_eq_false (by omega)]
                  rfl
                · rw [atI_neg hm, decide_eq_false hm]
                  rfl
              unfold El.v at hat
              simp only at hat
              have hd9 : decide ((i : Int) < (n : Int)) = true := decide_eq_true (by omega)
              generalize atI l[i].o.gone ⟨es, eq, ei⟩ = z at *
              generalize wf l i = wfv at *
              generalize decide ((⟨es, eq, ei⟩ : El) ∈ l[i].o.gone) = inb at *
              generalize hgn1 : gnT l ⟨es, eq, ei⟩ (i + 1) = gn1 at *
              have HGN := Lib.hid hgn1
              clear hgn1
              generalize gnT l ⟨es, eq, ei⟩ i = gn0 at *
              have hev : ev = true ∧ gn0 = false := by
                cases ev <;> cases gn0 <;> simp at hb8 ⊢
              obtain ⟨rfl, rfl⟩ := hev
              clear hb8
              cases wfv
              · have HG1 : RowKit.Hid (gn1 = false) := Lib.hid (by rw [hgs]; rfl)
                clear hgs hz
                go_upto_region 15 with fail
                refine wp_region_quiet_below (by kernel_rfl) (by kernel_rfl) ?_
                repeat (first | go_big_quiet_step (exact Calls.regrown_of (hat _ _)) | quiet_step (exact Calls.regrown_of (hat _ _)))
                refine wpQuiet_nil ?_
                intro _ hw'
                obtain ⟨⟨dq, osq⟩, hw''⟩ := hw'
                subst hw''
                have HBZ := Lib.hid (HBI.out.trans ((below_regrown wr dq osq).mono HBI.out.size))
                clear q0 q1 q2 q7 qw hat xx0 xx1 xx2 c0 c1 c2 c3 c4 c5 c6 c7 hga hcw hwb
                generalize Sort.grow (redrawn wr dq) osq = wz at *
                go_wp2_with fail
                go_roundw
                case rel => exact ⟨i + 1, by go_num, by omega, by rw [HGN.out, HG1.out]; rfl, HBZ.out⟩
                case measure => simp [RowKit.intOf]; omega
              · have HG1 : RowKit.Hid (decide (z < 0) = !gn1) := Lib.hid (by rw [hz, hgs]; cases inb <;> rfl)
                clear hgs hz
                go_upto_region 15 with fail
                refine wp_region_quiet_below (by kernel_rfl) (by kernel_rfl) ?_
                repeat (first | go_big_quiet_step (exact Calls.regrown_of (hat _ _)) | quiet_step (exact Calls.regrown_of (hat _ _)))
                refine wpQuiet_nil ?_
                intro _ hw'
                obtain ⟨⟨dq, osq⟩, hw''⟩ := hw'
                subst hw''
                have HBZ := Lib.hid (HBI.out.trans ((below_regrown wr dq osq).mono HBI.out.size))
                clear q0 q1 q2 q7 qw hat xx0 xx1 xx2 c0 c1 c2 c3 c4 c5 c6 c7 hga hcw hwb
                generalize Sort.grow (redrawn wr dq) osq = wz at *
                go_wp2_with fail
                go_roundw
                case rel => exact ⟨i + 1, by go_num, by omega, by rw [HGN.out, HG1.out, Bool.true_and], HBZ.out⟩
                case measure => simp [RowKit.intOf]; omega
            · -- the end of the ops, or it is gone
              have HF1 : RowKit.Hid (F1 = F0 ++ (if (ev && !gnT l ⟨es, eq, ei⟩ i) = true then [⟨es, eq, ei⟩] else [])) := Lib.hid (by
                rw [HVS.out]
                congr 2
                by_cases hin : i < n
                · have hf : (ev && !gnT l ⟨es, eq, ei⟩ i) = false := by
                    cases hh : (ev && !gnT l ⟨es, eq, ei⟩ i) with
                    | false => rfl
                    | true => exact absurd ⟨hin, hh⟩ hgo
                  rw [hf]
                  have hf2 : (ev && !gnT l ⟨es, eq, ei⟩ n) = false := by
                    cases ev with
                    | false => rfl
                    | true =>
                      have hg : gnT l ⟨es, eq, ei⟩ i = true := by
                        cases hh : gnT l ⟨es, eq, ei⟩ i with
                        | true => rfl
                        | false => rw [hh] at hf; cases hf
                      have := HGM.out i hg
                      rw [HN.out] at this
                      rw [this]
                      rfl
                  rw [hf2]
                · have : i = n := by omega
                  rw [this])
              have hcc : (i < n ∧ (ev && !gnT l ⟨es, eq, ei⟩ i) = false) ∨ ¬ i < n := by
                by_cases hin : i < n
                · refine .inl ⟨hin, ?_⟩
                  cases hh : (ev && !gnT l ⟨es, eq, ei⟩ i) with
                  | false => rfl
                  | true => exact absurd ⟨hin, hh⟩ hgo
                · exact .inr hin
              have h2i := HLG.out wr hbi
              have HOI := Lib.hid (HOL.out wr hbi)
              have HBI2 := Lib.hid h2i
              obtain ⟨xx0, xx1, xx2, hgl2⟩ := HXC.out wr h2i
              obtain ⟨m, hm⟩ : ∃ q, F0.length = q := ⟨_, rfl⟩
              have HM := Lib.hid hm
              have hmk : m ≤ k := by rw [← hm]; exact HVL.out
              rw [hm] at HOI
              clear hgo hbi h2i hm
              generalize (ev && !gnT l ⟨es, eq, ei⟩ i) = bb at *
              cases bb
              · have HF2 : RowKit.Hid (F1 = F0) := Lib.hid (by rw [HF1.out]; simp)
                clear HF1
                rcases hcc with ⟨hin, _⟩ | hin
                · have hd9 : decide ((i : Int) < (n : Int)) = true := decide_eq_true (by omega)
                  go_wp2_with fail
                  go_roundw
                  case rel => exact ⟨k + 1, by go_num, by omega, by rw [HF1E.out, HF2.out, HM.out]; exact HOI.out, HBI2.out⟩
                  case measure => simp [RowKit.intOf]; omega
                · have hd9 : decide ((i : Int) < (n : Int)) = false := decide_eq_false (by omega)
                  go_wp2_with fail
                  go_roundw
                  case rel => exact ⟨k + 1, by go_num, by omega, by rw [HF1E.out, HF2.out, HM.out]; exact HOI.out, HBI2.out⟩
                  case measure => simp [RowKit.intOf]; omega
              · have HF2 : RowKit.Hid (F1 = F0 ++ [⟨es, eq, ei⟩]) := Lib.hid (by rw [HF1.out]; simp)
                have hin : ¬ i < n := by
                  rcases hcc with ⟨_, h⟩ | h
                  · cases h
                  · exact h
                clear HF1 hcc
                have hd9 : decide ((i : Int) < (n : Int)) = false := decide_eq_false (by omega)
                have HM1 := Lib.hid (show m + 1 ≤ maxLen from by simp only [maxLen]; omega)
                have HM2 := Lib.hid (show (m + 1) * 24 ≤ 140737488355328 from by omega)
                go_wp2_with (first
                  | (at_builtin; refine wpList_append_own _ rfl _ _ 23 rfl w2.heap.size 44 i0 (.agg #[.int .i64 0, .int .i64 0, .int .i64 0]) 3 24 Tryz.underlying23 HI0.out HI1.out HI2.out HI3.out rfl (by decide) _ m _ rfl (HOI.out.alloc _) ⟨wr.heap.size, 0, none⟩ 1 1 (El.cs ⟨es, eq, ei⟩) rfl rfl (cell_three_new _ ⟨es, eq, ei⟩ _) (cs_one ⟨es, eq, ei⟩) HM1.out HM2.out (by have := HBI2.out.size; simp; omega) ?_; intro v8 w8 hown8 hgrow8 hnil8; have HB8 := Lib.hid ((HBI2.out.alloc HBI2.out.size _).grown hgrow8 (by have := HBI2.out.size; simp; omega) (fun q hq => own_ge HOI.out q hq)); have HO8 := Lib.hid hown8; clear hown8 hgrow8 hnil8)
                  | fail)
                go_roundw
                case rel => exact ⟨k + 1, by go_num, by omega, by
                  rw [HF1E.out, HF2.out, List.length_append, HM.out, ecs_append, show ecs [(⟨es, eq, ei⟩ : El)] = El.cs ⟨es, eq, ei⟩ from by simp [ecs]]
                  exact HO8.out, HB8.out⟩
                case measure => simp [RowKit.intOf]; omega
        · have h0 : k = n5 := by omega
          have hf : vsK (OpR.os l) (ordE (OpR.os l)) k = visE (OpR.os l) := by
            unfold vsK visE
            rw [h0, ← HN5.out, List.take_length]
          rw [hf] at HOX
          have HFIN := Lib.hid (HW2.out wr hb)
          have HZZ := Lib.hid (Nat.le_trans HB1.out.size HB2.out.size)
          clear hox hb
          go_wp2_with fail
          go_ret
          exact ⟨_, rfl, owns_wide HOX.out HZZ.out, HFIN.out⟩
end Go.Proofs.YtebkeocfgcekmaaGreatDoor
/- the page's Rune, Text -/
namespace Go.Proofs.YtebkeocfgcekmaaGreatDoor
open Go.RowKit Go.Lib

def RnPost (r : Int) (w : World) (x : Ending) (w' : World) : Prop := x = .returned (.int .i32 r) ∧ Below w.heap.size w w'
set_option maxRecDepth 100000 in
set_option maxHeartbeats 4000000 in
theorem rRn_any (a : Option Addr) (cap : Nat) (l : List OpR) (e : El) (w : World) (hT : Tabs w) (hsz : Szs l) (h : OpsAt w a l) (hr : rowP (OpR.os l)) (he : e ∈ ordE (OpR.os l)) : Calls Tryz.prog 24 #[.slice a l.length cap, e.v] w (RnPost (rnE (OpR.os l) e) w) := by
  obtain ⟨hk, hkd, hok, hi0, hi1, _⟩ := ord_edit hr.2 he
  have hk2 : fk (OpR.os l) e.s e.q < l.length := by rw [← os_len]; exact hk
  have ho : (OpR.os l)[fk (OpR.os l) e.s e.q] = l[fk (OpR.os l) e.s e.q].o := by simp [OpR.os]
  have hfi : findI (OpR.os l) e.s e.q = (fk (OpR.os l) e.s e.q : Nat) := by unfold findI; rw [if_pos hk]
  have hrn : rnE (OpR.os l) e = ((rns l[fk (OpR.os l) e.s e.q].o.text)[e.i.toNat]?).getD 0 := by
    unfold rnE rnP
    rw [List.getElem?_eq_getElem hk]
    simp only
    rw [if_pos hi0, ho]
  rw [ho] at hok hi1
  have HF := Lib.hid (fun wx (hx : Below w.heap.size w wx) => rFind_any a cap l e.s e.q wx (h.below hx))
  rw [hfi] at HF
  have hcl := h.cells (fk (OpR.os l) e.s e.q) hk2
  have hts := hsz l[fk (OpR.os l) e.s e.q] (List.getElem_mem hk2)
  generalize fk (OpR.os l) e.s e.q = f at *
  have hrns := fun wx (hx : Below w.heap.size w wx) => rRunes_ok l[f].o.text wx (hT.next hx) hts hok
  obtain ⟨b, off, rfl, hbb, -, -, -, -, -, -, c6, -⟩ := hcl
  generalize l[f].o.text = tx at *
  obtain ⟨n, hn⟩ : ∃ n, l.length = n := ⟨_, rfl⟩
  rw [hn] at HF hk2 ⊢
  have HB0 : RowKit.Hid (Below w.heap.size w (w.alloc (.cells #[.int .i64 e.s, .int .i64 e.q, .int .i64 e.i] 44))) := Lib.hid ((Below.refl _ _).alloc (Nat.le_refl _) _)
  have HBX := Lib.hid (BoxE.new w e)
  rw [hrn]
  clear hrn ho hfi hk hkd he hr hsz h hT hn
  have HC6 := Lib.hid (fun (wx : World) (hx : Below w.heap.size w wx) => And.intro ((hx.cell (p := ⟨b, off + f * 11 + 6, none⟩) hbb).trans c6) (Nat.lt_of_lt_of_le hbb hx.size))
  have HRN := Lib.hid hrns
  unfold RRunesPost at HRN
  obtain ⟨s, q, i⟩ := e
  unfold El.v
  simp only at HF HB0 HBX hi0 hi1 ⊢
  obtain ⟨j, hj⟩ : ∃ j : Nat, i = (j : Int) := ⟨i.toNat, by omega⟩
  subst hj
  obtain ⟨nr, hnr⟩ : ∃ q, (rns tx).length = q := ⟨_, rfl⟩
  have HNR := Lib.hid hnr
  rw [hnr] at hi1
  have hjn : j < nr := by omega
  have hjr : j < (rns tx).length := by rw [hnr]; exact hjn
  have hrv : ((rns tx)[((j : Int)).toNat]?).getD 0 = (rns tx)[j] := by
    rw [Int.toNat_natCast, List.getElem?_eq_getElem hjr]
    rfl
  rw [hrv]
  clear hrns hi0 hi1 hrv c6 hnr
  obtain ⟨rv0, hrv0⟩ : ∃ r, (rns tx)[j] = r := ⟨_, rfl⟩
  have HRV := Lib.hid (show ∃ h : j < (rns tx).length, (rns tx)[j] = rv0 from ⟨hjr, hrv0⟩)
  rw [hrv0]
  clear hrv0 hjr
  have p0 := HBX.out.c0
  have p1 := HBX.out.c1
  have p2 := HBX.out.c2
  have pl := HBX.out.lt
  simp only at p0 p1 p2
  go_enter Tryz.func24, Tryz.ntmps24
  go_wp2_with (first
    | (go_at_call 48; refine (HF.out _ HB0.out).mono ?_; rintro x1 w1 ⟨rfl, hb1⟩; have HB1 := Lib.hid (HB0.out.trans (hb1.mono HB0.out.size)); have HX1 := Lib.hid (HBX.out.step hb1); obtain ⟨k6, k6l⟩ := HC6.out w1 HB1.out; clear hb1)
    | (go_at_call 54; refine (HRN.out w1 HB1.out).mono ?_; rintro x2 w2 ⟨ra, rc, rfl, hra, hrc, _, hb2⟩; rw [HNR.out] at hrc ⊢; have HB2 := Lib.hid (HB1.out.trans (hb2.mono HB1.out.size)); have hx2 := HX1.out.step hb2; have y2 := hx2.c2; have yl := hx2.lt; simp only at y2; obtain ⟨hjr, hjv⟩ := HRV.out; obtain ⟨b5, off5, rfl, hb5, z0⟩ := hra.cell j hjr; rw [hjv] at z0; clear hb2 hx2 hra)
    | fail)
  go_ret
  exact ⟨rfl, HB2.out⟩
theorem visR_take {L : List OpD} {k : Nat} (hk : k < (visE L).length) : (visR L).take (k + 1) = (visR L).take k ++ [rnE L (visE L)[k]] := by
  have h1 : k < (visR L).length := by rw [visR_len]; exact hk
  have h2 : (visR L)[k] = rnE L (visE L)[k] := by simp [visR]
  have h3 := List.take_succ_eq_append_getElem h1
  rw [h2] at h3
  exact h3
theorem ba_join (a b : List UInt8) : Value.string ((⟨a.toArray⟩ : ByteArray) ++ (⟨b.toArray⟩ : ByteArray)) = S (a ++ b) := by
  unfold S
  congr 1
/-- the page's own Make -/
def StrPost (l : List UInt8) (w : World) (e : Ending) (w' : World) : Prop := e = .returned (S l) ∧ w = w'
set_option maxRecDepth 100000 in
set_option maxHeartbeats 1000000 in
theorem rMake (a : Option Addr) (cap : Nat) (l : List Int) (w : World) (h : RunesAt w a l) (hl : l.length ≤ 60000) : Calls Tryz.prog 50 #[.slice a l.length cap] w (StrPost (Go.Proofs.YtebkeocfgcekmaaGreatDoor.mk l) w) := by
  have H := Lib.hid h
  clear h
  go_enter Tryz.func50, Tryz.ntmps50
  go_wp2
  go_loop [3, 4] (fun t i => ∃ k : Nat, k ≤ l.length ∧ i = .int .i64 k ∧ t = S (Go.Proofs.YtebkeocfgcekmaaGreatDoor.mk (l.take k))) (fun _ i => l.length - (RowKit.intOf i).toNat)
  case atStart => exact ⟨0, by omega, rfl, rfl⟩
  case round =>
    obtain ⟨k, hk, rfl, rfl⟩ := hrel
    by_cases hlt : k < l.length
    · obtain ⟨b, off, ha, hb, hc⟩ := H.out.cell k hlt
      have HT := Lib.hid (take_snoc' hlt)
      have hml := mk_length (l.take k)
      have hlk : (l.take k).length ≤ k := List.length_take_le _ _
      have hel := encodeRune_le l[k]
      generalize l[k] = r at *
      have hen := encode_eq r
      generalize hM : Go.Proofs.YtebkeocfgcekmaaGreatDoor.mk (l.take k) = M at *
      generalize hE : Lib.encodeRune r = E at *
      have HM := Lib.hid hM
      have HE := Lib.hid hE
      clear hM hE
      subst ha
      go_wp2
      go_round
      case rel =>
        refine ⟨k + 1, by omega, by go_num, ?_⟩
        rw [HT.out, mk_append, HM.out, show Go.Proofs.YtebkeocfgcekmaaGreatDoor.mk [r] = Lib.encodeRune r from by simp [Go.Proofs.YtebkeocfgcekmaaGreatDoor.mk], HE.out]
        exact ba_join M E
      case measure => simp [RowKit.intOf]; omega
    · have HT := Lib.hid (List.take_of_length_le (l := l) (i := k) (by omega))
      go_wp2
      go_ret
      exact ⟨(show Ending.returned (S (Go.Proofs.YtebkeocfgcekmaaGreatDoor.mk (l.take k))) = .returned (S (Go.Proofs.YtebkeocfgcekmaaGreatDoor.mk l)) by rw [HT.out]), rfl⟩
def RTextPost (s : List UInt8) (w : World) (x : Ending) (w' : World) : Prop := x = .returned (S s) ∧ Below w.heap.size w w'
set_option maxRecDepth 100000 in
set_option maxHeartbeats 4000000 in
theorem rText_any (a : Option Addr) (cap : Nat) (l : List OpR) (w : World) (hT : Tabs w) (hsz : Szs l) (h : OpsAt w a l) (hr : rowP (OpR.os l)) : Calls Tryz.prog 13 #[.slice a l.length cap] w (RTextPost (docT (OpR.os l)) w) := by
  obtain ⟨i0, hi, hz0, hz1, hz2⟩ := info_parts Tryz.info21
  have HV := Lib.hid (rVis_any a cap l w hT hsz h hr)
  have HRN := Lib.hid (fun (e : El) (he : e ∈ visE (OpR.os l)) (wx : World) (hx : Below w.heap.size w wx) => rRn_any a cap l e wx (hT.next hx) hsz (h.below hx) hr (visE_ord he))
  have hle := visE_le hr.2
  have HRL := Lib.hid (visR_len (OpR.os l))
  have HTK := Lib.hid (fun (k : Nat) (hk : k < (visE (OpR.os l)).length) => visR_take hk)
  have HRO := Lib.hid (visR_ok hr.2)
  obtain ⟨n, hn⟩ : ∃ n, l.length = n := ⟨_, rfl⟩
  rw [hn] at HV HRN ⊢
  clear h hr hT hsz hn
  generalize OpR.os l = L at *
  have HDT : RowKit.Hid (docT L = Go.Proofs.YtebkeocfgcekmaaGreatDoor.mk (visR L)) := Lib.hid rfl
  obtain ⟨X, hX⟩ : ∃ X, visE L = X := ⟨_, rfl⟩
  obtain ⟨n5, hn5⟩ : ∃ n, X.length = n := ⟨_, rfl⟩
  have HN5 := Lib.hid hn5
  rw [hX] at HV HRN hle HRL HTK
  rw [hn5] at hle
  clear hX hn5
  go_enter Tryz.func13, Tryz.ntmps13
  go_wp2_with (first
    | (go_at_call 12; refine HV.out.mono ?_; rintro x1 w1 ⟨v1, rfl, hown1, hb1⟩; obtain ⟨a1, c1, hv1, he1, _⟩ := elems_own hown1; rw [HN5.out] at hv1; subst hv1; have HE1 := Lib.hid he1; have HB1 := Lib.hid hb1; clear hb1 hown1 he1)
    | fail)
  have HW1 := Lib.hid (fun (wx : World) (hx : Below w1.heap.size w1 wx) => HB1.out.trans (hx.mono HB1.out.size))
  go_loopw [4, 5] (fun s4 s5 wr => ∃ k : Nat, s5 = .int .i64 k ∧ k ≤ n5 ∧ wr.ownsRow w1.heap.size 21 1 s4 k (rv ((visR L).take k)) ∧ Below w1.heap.size w1 wr) (fun _ s5 _ => n5 - (RowKit.intOf s5).toNat)
  case atStart => exact ⟨0, rfl, Nat.zero_le _, World.ownsRow_nil _ _ _ _, Below.refl _ _⟩
  case round =>
    obtain ⟨k, rfl, hk, ho, hb⟩ := hrel
    have HO := Lib.hid ho
    have HB := Lib.hid hb
    by_cases hlt : k < n5
    · have hkl : k < X.length := by rw [HN5.out]; exact hlt
      obtain ⟨b, off, rfl, hbb, x0, x1, x2⟩ := (HE1.out.below hb).cell k hkl
      have HT := Lib.hid (HTK.out k hkl)
      have HRQ := Lib.hid (HRN.out X[k] (List.getElem_mem hkl))
      generalize rnE L X[k] = r at *
      generalize X[k] = x at *
      clear hkl ho hb
      obtain ⟨xs, xq, xi⟩ := x
      unfold El.v at HRQ
      simp only at x0 x1 x2 HRQ
      have c2 : k + 1 ≤ maxLen := by simp only [maxLen]; omega
      have c3 : (k + 1) * 4 ≤ 140737488355328 := by omega
      have HM1 := Lib.hid c2
      have HM2 := Lib.hid c3
      clear c2 c3
      go_wp2_with (first
        | (go_at_call 24; refine (HRQ.out wr (HW1.out wr HB.out)).mono ?_; rintro x2 w2 ⟨rfl, hb2⟩; have HO2 := Lib.hid (owns_belE HO.out hb2); have HB2 := Lib.hid (HB.out.trans (hb2.mono HB.out.size)); clear hb2)
        | (at_builtin; refine wpList_append_own _ rfl _ _ 88 rfl w1.heap.size 21 i0 (.int .i32 0) 1 4 Tryz.underlying88 hi hz0 hz1 hz2 rfl (by decide) _ k _ rfl (HO2.out.alloc _) ⟨w2.heap.size, 0, none⟩ 1 1 [.int .i32 r] rfl rfl (cell_one_new _ _ _) (oneInt _ _) HM1.out HM2.out (by have := HB2.out.size; simp; omega) ?_; intro v8 w8 hown8 hgrow8 hnil8; have HB8 := Lib.hid ((HB2.out.alloc HB2.out.size _).grown hgrow8 (by have := HB2.out.size; simp; omega) (fun q hq => own_ge HO2.out q hq)); have HO8 := Lib.hid hown8; clear hown8 hgrow8 hnil8)
        | fail)
      go_roundw
      case rel => exact ⟨k + 1, by go_num, by omega, by rw [HT.out, ← rv_snoc]; exact HO8.out, HB8.out⟩
      case measure => simp [RowKit.intOf]; omega
    · have h0 : k = n5 := by omega
      have HK6 := Lib.hid (show k ≤ 60000 from by omega)
      have hT : (visR L).take k = visR L := List.take_of_length_le (by rw [HRL.out, HN5.out]; omega)
      have hln : (visR L).length = k := by rw [HRL.out, HN5.out, h0]
      clear h0 hk
      rw [hT, ← hln] at ho
      obtain ⟨a4, c4, hv4, hra, _⟩ := reads_own ho (fun r hr => by
        have := okR_of (HRO.out r hr)
        omega)
      have hmk := rMake a4 c4 (visR L) wr hra (by rw [hln]; exact HK6.out)
      rw [hln] at hv4 hmk
      have HMK := Lib.hid hmk
      have HFIN := Lib.hid (HW1.out wr hb)
      subst hv4
      clear ho hb hmk hra HO hT hln
      go_wp2_with (first | (go_at_call 50; refine HMK.out.mono ?_; rintro x5 w5 ⟨rfl, rfl⟩) | fail)
      go_ret
      exact ⟨(show Ending.returned (S (Go.Proofs.YtebkeocfgcekmaaGreatDoor.mk (visR L))) = _ from by rw [HDT.out]), HFIN.out⟩
end Go.Proofs.YtebkeocfgcekmaaGreatDoor
/- the page's Behind: a row and an op -/
namespace Go.Proofs.YtebkeocfgcekmaaGreatDoor
open Go.RowKit Go.Lib Go.Sort

theorem OwnO.wide {base b2 : Nat} {w : World} {v : Value} {L : List OpR} (h : OwnO base w v L) (hb : b2 ≤ base) : OwnO b2 w v L :=
  ⟨owns_base h.own hb, h.at_, h.apart, fun r hr ad ha => Nat.le_trans hb (h.ge r hr ad ha)⟩
def BehPost (l : List OpR) (o : OpD) (w : World) (x : Ending) (w' : World) : Prop := ∃ v L, x = .returned v ∧ OwnO w.heap.size w' v L ∧ OpR.os L = OpR.os l ++ [o] ∧ Below w.heap.size w w'
set_option maxRecDepth 100000 in
set_option maxHeartbeats 4000000 in
theorem rBehind_any (a : Option Addr) (cap : Nat) (l : List OpR) (o : OpD) (oa : Option Addr) (oc : Nat) (w : World) (h : OpsAt w a l) (hg : ∀ r ∈ l, r.o.gone.length ≤ 1000000) (hl : l.length ≤ 100000) (ho : ElemsAt w oa o.gone) (hgl : o.gone.length ≤ 1000000) (hts : o.text.size ≤ BIG) :
    Calls Tryz.prog 28 #[.slice a l.length cap, o.v oa oc] w (BehPost l o w) := by
  obtain ⟨i0, hq0, hz0, hz1, hz2⟩ := info_parts Tryz.infoOp
  have HCO := Lib.hid (fun wx (hx : Below w.heap.size w wx) => CopyOps_any a cap l wx (h.below hx) hg (by omega))
  have HX := Lib.hid (BoxO.new w o oa oc)
  have HB0 : RowKit.Hid (Below w.heap.size w (w.alloc (o.obj oa oc))) := Lib.hid ((Below.refl _ _).alloc (Nat.le_refl _) _)
  have HC2 := Lib.hid (fun wx (hx : Below w.heap.size w wx) => CopyOp_any o oa oc wx (ho.below hx) hgl)
  have HGL : RowKit.Hid (o.gone.length ≤ BIG) := Lib.hid (by unfold BIG; omega)
  have HTS := Lib.hid hts
  have HOS : RowKit.Hid (OpR.os l = OpR.os l) := Lib.hid rfl
  obtain ⟨n, hn⟩ : ∃ n, l.length = n := ⟨_, rfl⟩
  have HN := Lib.hid hn
  rw [hn] at HCO hl ⊢
  have HM1 := Lib.hid (show n + 1 ≤ maxLen from by simp only [maxLen]; omega)
  have HM2 := Lib.hid (show (n + 1) * 112 ≤ 140737488355328 from by omega)
  have HLN := Lib.hid hl
  clear h hg ho hgl hts hn
  unfold CopysPost at HCO
  obtain ⟨site, seq, kind, ⟨es, eq, ei⟩, text, gone, of, num, gen⟩ := o
  unfold CopyPost OpD.v at HC2
  unfold OpD.v
  unfold OpD.obj at HX HB0
  simp only at HC2 HGL HTS HX HB0 ⊢
  obtain ⟨gl, hgg⟩ : ∃ gl, gone.length = gl := ⟨_, rfl⟩
  have HGG := Lib.hid hgg
  rw [hgg] at HC2 HX HB0 ⊢
  clear hgg
  generalize hwu : (w.alloc (.cells #[.int .i64 site, .int .i64 seq, .int .i64 kind, .int .i64 es, .int .i64 eq, .int .i64 ei, .string text, .slice oa gl oc, .int .i64 of, .int .i64 num, .int .i64 gen] 54)) = wu at *
  have HWU := Lib.hid hwu
  have hx := (HX.out.step (Below.refl wu.heap.size wu).drew)
  have d0 := hx.c0
  have d1 := hx.c1
  have d2 := hx.c2
  have d3 := hx.c3
  have d4 := hx.c4
  have d5 := hx.c5
  have d6 := hx.c6
  have d7 := hx.c7
  have d8 := hx.c8
  have d9 := hx.c9
  have da := hx.ca
  have dl := hx.lt
  simp only [HGG.out] at d0 d1 d2 d3 d4 d5 d6 d7 d8 d9 da
  have HBD : RowKit.Hid (Below w.heap.size w wu.drew) := Lib.hid HB0.out.drew
  have HXD := Lib.hid hx
  clear hx
  go_enter Tryz.func28, Tryz.ntmps28
  go_upto_region 1 with fail
  go_region_law (first
    | (go_simp; go_at_call 8; refine (HCO.out wu.drew HBD.out).mono ?_; rintro x3 w3 ⟨v3, L3, rfl, hown30, hos3, hb3⟩; have hown3 := hown30.wide HBD.out.size; have hl3 : L3.length = n := (by have h := congrArg List.length hos3; rw [os_len, os_len, HN.out] at h; exact h); obtain ⟨a3, c3, hv3, _, _⟩ := hown3.ops (by unfold BIG; omega); rw [hl3] at hv3; subst hv3; have HLL := Lib.hid hl3; have HO6 := Lib.hid hown3; have HOS3 := Lib.hid hos3; have HB6 := Lib.hid (HBD.out.trans (hb3.mono HBD.out.size)); have hx3 := HXD.out.step hb3; have q0 := hx3.c0; have q1 := hx3.c1; have q2 := hx3.c2; have q3 := hx3.c3; have q4 := hx3.c4; have q5 := hx3.c5; have q6 := hx3.c6; have q7 := hx3.c7; have q8 := hx3.c8; have q9 := hx3.c9; have qa := hx3.ca; have ql := hx3.lt; simp only [HGG.out] at q0 q1 q2 q3 q4 q5 q6 q7 q8 q9 qa; clear hown30 hown3 hos3 hb3 hl3 hx3)
    | (go_simp; go_at_call 25; refine (HC2.out w3 HB6.out).mono ?_; rintro x7 w7 ⟨a7, cp7, rfl, hown7, hb7⟩; obtain ⟨a9, c9', hv9, hel9, _, _, hnone9⟩ := elems_own (by rw [HGG.out]; exact hown7); rw [HGG.out] at hv9; simp only [Value.slice.injEq] at hv9; obtain ⟨rfl, -, rfl⟩ := hv9; have HE7 := Lib.hid hel9; have HNO7 := Lib.hid hnone9; have HAP7 := Lib.hid (show ∀ ad, a7 = some ad → some ad.block ≠ (Value.slice a3 n c3).ownBlock ∧ ad.block < w7.heap.size ∧ w.heap.size ≤ ad.block from fun ad ha => by subst ha; have h9 := hown7.lt ad.block rfl; refine ⟨fun e2 => ?_, h9.2, by have := HB6.out.size; omega⟩; have := (HO6.out.own.lt _ e2.symm).2; omega); have HB7 := Lib.hid (HB6.out.trans (hb7.mono HB6.out.size)); have HO7 := Lib.hid (HO6.out.below hb7); have HOW7 := Lib.hid (show w7.ownsRow w.heap.size 54 11 (.slice a3 n c3) n (ocs L3) from by have h9 := HO7.out.own; rw [HLL.out] at h9; exact h9); clear hown7 hb7 hel9 hnone9)
    | (refine step_append_lies _ (by rfl) _ _ _ (by rfl) w.heap.size 54 i0 (.agg #[.int .i64 0, .int .i64 0, .int .i64 0, .int .i64 0, .int .i64 0, .int .i64 0, .string ⟨#[]⟩, .slice none 0 0, .int .i64 0, .int .i64 0, .int .i64 0]) 11 112 Tryz.underlying24 hq0 hz0 hz1 hz2 (by rfl) (by decide) (.slice a3 n c3) n _ (by rfl) (HOW7.out.alloc _) ⟨w7.heap.size, 0, none⟩ 1 1 (OpR.cs ⟨⟨site, seq, kind, ⟨es, eq, ei⟩, text, gone, of, num, gen⟩, a7, cp7⟩) (by rfl) (by rfl) (by have h9 := cell_op_newR w7 ⟨⟨site, seq, kind, ⟨es, eq, ei⟩, text, gone, of, num, gen⟩, a7, cp7⟩ 54; simp only [HGG.out] at h9; exact h9) (cs_oneR _) (by omega) HM1.out HM2.out (by have := HB7.out.size; simp; omega) _ rfl ?_; intro g8 c8 w8 hown8 hgrow8 hat8 hlt8; have HB8 := Lib.hid ((HB7.out.alloc HB7.out.size _).grown hgrow8 (by have := HB7.out.size; simp; omega) (fun q hq => own_ge HOW7.out q hq)); have HO8 := Lib.hid (HO7.out.push (r := ⟨⟨site, seq, kind, ⟨es, eq, ei⟩, text, gone, of, num, gen⟩, a7, cp7⟩) (v8 := .slice (some ⟨g8, 0, none⟩) (n + 1) c8) ⟨HE7.out, HGL.out, HTS.out, HNO7.out⟩ HAP7.out (by rw [HLL.out]; exact hown8) hgrow8 (by rcases hat8 with e | e; exact .inl e.symm; right; rw [e]; rfl)); clear hown8 hgrow8 hat8 hlt8)
    | fail)
  all_goals
    go_wp2_with fail
    go_ret
    exact ⟨_, _, rfl, HO8.out, by unfold OpR.os at *; rw [List.map_append]; exact congrArg (· ++ _) HOS3.out, HB8.out⟩
end Go.Proofs.YtebkeocfgcekmaaGreatDoor
/- an op's box, written over cell by cell -/
namespace Go.Proofs.YtebkeocfgcekmaaGreatDoor
open Go.RowKit Go.Lib Go.Sort

theorem box_of {w : World} {b n : Nat} {t : TypeId} {o : OpD} {a : Option Addr} {cap : Nat} (h : w.heap[b]? = some (.cells #[.int .i64 o.site, .int .i64 o.seq, .int .i64 o.kind, .int .i64 o.after.s, .int .i64 o.after.q, .int .i64 o.after.i, .string o.text, .slice a n cap, .int .i64 o.of, .int .i64 o.num, .int .i64 o.gen] t (0, 0))) (hn : n = o.gone.length) : BoxO w b o a cap := by
  subst hn
  refine ⟨(Array.getElem?_eq_some_iff.1 h).1, ?_, ?_, ?_, ?_, ?_, ?_, ?_, ?_, ?_, ?_, ?_⟩ <;> simp [World.cell?, h]
section
variable {w : World} {b : Nat} {t : TypeId} {c0 c1 c2 c3 c4 c5 c6 c7 c8 c9 ca : Value}
theorem blk_set2 (h : w.heap[b]? = some (.cells #[c0, c1, c2, c3, c4, c5, c6, c7, c8, c9, ca] t (0, 0))) (v : Value) : (w.setCell ⟨b, 2, none⟩ v).heap[b]? = some (.cells #[c0, c1, v, c3, c4, c5, c6, c7, c8, c9, ca] t (0, 0)) := by
  unfold World.setCell
  simp [Array.getElem?_modify, h]
theorem blk_set3 (h : w.heap[b]? = some (.cells #[c0, c1, c2, c3, c4, c5, c6, c7, c8, c9, ca] t (0, 0))) (v : Value) : (w.setCell ⟨b, 3, none⟩ v).heap[b]? = some (.cells #[c0, c1, c2, v, c4, c5, c6, c7, c8, c9, ca] t (0, 0)) := by
  unfold World.setCell
  simp [Array.getElem?_modify, h]
theorem blk_set4 (h : w.heap[b]? = some (.cells #[c0, c1, c2, c3, c4, c5, c6, c7, c8, c9, ca] t (0, 0))) (v : Value) : (w.setCell ⟨b, 4, none⟩ v).heap[b]? = some (.cells #[c0, c1, c2, c3, v, c5, c6, c7, c8, c9, ca] t (0, 0)) := by
  unfold World.setCell
  simp [Array.getElem?_modify, h]
theorem blk_set5 (h : w.heap[b]? = some (.cells #[c0, c1, c2, c3, c4, c5, c6, c7, c8, c9, ca] t (0, 0))) (v : Value) : (w.setCell ⟨b, 5, none⟩ v).heap[b]? = some (.cells #[c0, c1, c2, c3, c4, v, c6, c7, c8, c9, ca] t (0, 0)) := by
  unfold World.setCell
  simp [Array.getElem?_modify, h]
theorem blk_set6 (h : w.heap[b]? = some (.cells #[c0, c1, c2, c3, c4, c5, c6, c7, c8, c9, ca] t (0, 0))) (v : Value) : (w.setCell ⟨b, 6, none⟩ v).heap[b]? = some (.cells #[c0, c1, c2, c3, c4, c5, v, c7, c8, c9, ca] t (0, 0)) := by
  unfold World.setCell
  simp [Array.getElem?_modify, h]
theorem blk_set7 (h : w.heap[b]? = some (.cells #[c0, c1, c2, c3, c4, c5, c6, c7, c8, c9, ca] t (0, 0))) (v : Value) : (w.setCell ⟨b, 7, none⟩ v).heap[b]? = some (.cells #[c0, c1, c2, c3, c4, c5, c6, v, c8, c9, ca] t (0, 0)) := by
  unfold World.setCell
  simp [Array.getElem?_modify, h]
theorem blk_set8 (h : w.heap[b]? = some (.cells #[c0, c1, c2, c3, c4, c5, c6, c7, c8, c9, ca] t (0, 0))) (v : Value) : (w.setCell ⟨b, 8, none⟩ v).heap[b]? = some (.cells #[c0, c1, c2, c3, c4, c5, c6, c7, v, c9, ca] t (0, 0)) := by
  unfold World.setCell
  simp [Array.getElem?_modify, h]
theorem blk_set9 (h : w.heap[b]? = some (.cells #[c0, c1, c2, c3, c4, c5, c6, c7, c8, c9, ca] t (0, 0))) (v : Value) : (w.setCell ⟨b, 9, none⟩ v).heap[b]? = some (.cells #[c0, c1, c2, c3, c4, c5, c6, c7, c8, v, ca] t (0, 0)) := by
  unfold World.setCell
  simp [Array.getElem?_modify, h]
theorem blk_seta (h : w.heap[b]? = some (.cells #[c0, c1, c2, c3, c4, c5, c6, c7, c8, c9, ca] t (0, 0))) (v : Value) : (w.setCell ⟨b, 10, none⟩ v).heap[b]? = some (.cells #[c0, c1, c2, c3, c4, c5, c6, c7, c8, c9, v] t (0, 0)) := by
  unfold World.setCell
  simp [Array.getElem?_modify, h]
end
theorem cell_far {w : World} {b b2 o c : Nat} {u : Value} {v : Option Value} (h : w.cell? ⟨b2, o, none⟩ = v) (hne : b2 ≠ b) : (w.setCell ⟨b, c, none⟩ u).cell? ⟨b2, o, none⟩ = v := by
  unfold World.cell? at h ⊢
  simp only [set_other hne]
  exact h
theorem blk_cells {w : World} {b : Nat} {t : TypeId} {c0 c1 c2 c3 c4 c5 c6 c7 c8 c9 ca : Value} (h : w.heap[b]? = some (.cells #[c0, c1, c2, c3, c4, c5, c6, c7, c8, c9, ca] t (0, 0))) :
    w.cell? ⟨b, 2, none⟩ = some c2 ∧ w.cell? ⟨b, 3, none⟩ = some c3 ∧ w.cell? ⟨b, 4, none⟩ = some c4 ∧ w.cell? ⟨b, 5, none⟩ = some c5 ∧ w.cell? ⟨b, 6, none⟩ = some c6 ∧ w.cell? ⟨b, 7, none⟩ = some c7 ∧ w.cell? ⟨b, 8, none⟩ = some c8 ∧ w.cell? ⟨b, 9, none⟩ = some c9 ∧ w.cell? ⟨b, 10, none⟩ = some ca ∧ (∀ c, w.frozen? ⟨b, c, none⟩ = false) ∧ b < w.heap.size := by
  refine ⟨?_, ?_, ?_, ?_, ?_, ?_, ?_, ?_, ?_, fun c => ?_, (Array.getElem?_eq_some_iff.1 h).1⟩
  all_goals first | (simp [World.cell?, h]; done) | (simp [World.frozen?, h])
/-- what the switch leaves -/
def SwPost (bx : Nat) (wr wx : World) : Prop := ∃ (o : OpD) (oa : Option Addr) (oc : Nat), BoxO wx bx o oa oc ∧ ElemsAt wx oa o.gone ∧ o.gone.length ≤ 1 ∧ o.text.size ≤ 2 ∧ Below wr.heap.size wr wx
theorem sw_k0 {wr w : World} {bx : Nat} {s q : Int} {t : TypeId} (h : w.heap[bx]? = some (.cells #[.int .i64 s, .int .i64 q, .int .i64 0, .int .i64 0, .int .i64 0, .int .i64 0, .string ⟨#[]⟩, .slice none 0 0, .int .i64 0, .int .i64 0, .int .i64 0] t (0, 0))) (hb : Below wr.heap.size wr w) (hg : wr.heap.size ≤ bx) :
    SwPost bx wr ((w.setCell ⟨bx, 2, none⟩ (.int .i64 1)).setCell ⟨bx, 6, none⟩ (.string ⟨#[120, 121]⟩)) ∧
    ∀ x y z : Int, SwPost bx wr (((((w.setCell ⟨bx, 2, none⟩ (.int .i64 1)).setCell ⟨bx, 6, none⟩ (.string ⟨#[120, 121]⟩)).setCell ⟨bx, 3, none⟩ (.int .i64 x)).setCell ⟨bx, 4, none⟩ (.int .i64 y)).setCell ⟨bx, 5, none⟩ (.int .i64 z)) := by
  have h1 := blk_set6 (blk_set2 h (.int .i64 1)) (.string ⟨#[120, 121]⟩)
  refine ⟨⟨⟨s, q, 1, ⟨0, 0, 0⟩, ⟨#[120, 121]⟩, [], 0, 0, 0⟩, none, 0, box_of h1 rfl, ElemsAt.nil none, Nat.zero_le _, Nat.le_refl 2, (hb.setCell hg _).setCell hg _⟩, fun x y z => ?_⟩
  have h2 := blk_set5 (blk_set4 (blk_set3 h1 (.int .i64 x)) (.int .i64 y)) (.int .i64 z)
  exact ⟨⟨s, q, 1, ⟨x, y, z⟩, ⟨#[120, 121]⟩, [], 0, 0, 0⟩, none, 0, box_of h2 rfl, ElemsAt.nil none, Nat.zero_le _, Nat.le_refl 2, ((((hb.setCell hg _).setCell hg _).setCell hg _).setCell hg _).setCell hg _⟩
theorem sw_k1 {wr w : World} {bx : Nat} {s q : Int} {t t2 : TypeId} (h : w.heap[bx]? = some (.cells #[.int .i64 s, .int .i64 q, .int .i64 0, .int .i64 0, .int .i64 0, .int .i64 0, .string ⟨#[]⟩, .slice none 0 0, .int .i64 0, .int .i64 0, .int .i64 0] t (0, 0))) (hb : Below wr.heap.size wr w) (hg : wr.heap.size ≤ bx) (x y z : Int) (c : Nat) :
    SwPost bx wr (((w.alloc (.cells #[.int .i64 x, .int .i64 y, .int .i64 z] t2)).setCell ⟨bx, 2, none⟩ (.int .i64 1)).setCell ⟨bx, 7, none⟩ (.slice (some ⟨w.heap.size, 0, none⟩) 1 c)) ∧
    SwPost bx wr (((w.setCell ⟨bx, 2, none⟩ (.int .i64 1)).alloc (.cells #[.int .i64 x, .int .i64 y, .int .i64 z] t2)).setCell ⟨bx, 7, none⟩ (.slice (some ⟨w.heap.size, 0, none⟩) 1 c)) := by
  have hbl := (Array.getElem?_eq_some_iff.1 h).1
  constructor
  · have h1 : (w.alloc (.cells #[.int .i64 x, .int .i64 y, .int .i64 z] t2)).heap[bx]? = _ := (heap_alloc_old w _ hbl).trans h
    have h2 := blk_set7 (blk_set2 h1 (.int .i64 1)) (.slice (some ⟨w.heap.size, 0, none⟩) 1 c)
    have hn : (w.alloc (.cells #[.int .i64 x, .int .i64 y, .int .i64 z] t2)).heap[w.heap.size]? = some (.cells #[.int .i64 x, .int .i64 y, .int .i64 z] t2) := heap_alloc_new w _
    have hn2 : (((w.alloc (.cells #[.int .i64 x, .int .i64 y, .int .i64 z] t2)).setCell ⟨bx, 2, none⟩ (.int .i64 1)).setCell ⟨bx, 7, none⟩ (.slice (some ⟨w.heap.size, 0, none⟩) 1 c)).heap[w.heap.size]? = some (.cells #[.int .i64 x, .int .i64 y, .int .i64 z] t2) := by
      rw [set_other (by omega), set_other (by omega)]
      exact hn
    refine ⟨⟨s, q, 1, ⟨0, 0, 0⟩, ⟨#[]⟩, [⟨x, y, z⟩], 0, 0, 0⟩, some ⟨w.heap.size, 0, none⟩, c, box_of h2 rfl, ⟨fun j hj => ?_⟩, Nat.le_refl 1, Nat.zero_le _, ((hb.alloc (by omega) _).setCell hg _).setCell hg _⟩
    have h0 : j = 0 := by simpa using hj
    subst h0
    exact ⟨w.heap.size, 0, rfl, (Array.getElem?_eq_some_iff.1 hn2).1, by unfold World.cell?; simp only [hn2]; rfl, by unfold World.cell?; simp only [hn2]; rfl, by unfold World.cell?; simp only [hn2]; rfl⟩
  · have hz : (w.setCell ⟨bx, 2, none⟩ (.int .i64 1)).heap.size = w.heap.size := by simp
    have h1 : ((w.setCell ⟨bx, 2, none⟩ (.int .i64 1)).alloc (.cells #[.int .i64 x, .int .i64 y, .int .i64 z] t2)).heap[bx]? = _ := (heap_alloc_old _ _ (by rw [hz]; exact hbl)).trans (blk_set2 h (.int .i64 1))
    have h2 := blk_set7 h1 (.slice (some ⟨w.heap.size, 0, none⟩) 1 c)
    have hn : ((w.setCell ⟨bx, 2, none⟩ (.int .i64 1)).alloc (.cells #[.int .i64 x, .int .i64 y, .int .i64 z] t2)).heap[w.heap.size]? = some (.cells #[.int .i64 x, .int .i64 y, .int .i64 z] t2) := by
      have := heap_alloc_new (w.setCell ⟨bx, 2, none⟩ (.int .i64 1)) (.cells #[.int .i64 x, .int .i64 y, .int .i64 z] t2)
      rw [hz] at this
      exact this
    have hn2 : (((w.setCell ⟨bx, 2, none⟩ (.int .i64 1)).alloc (.cells #[.int .i64 x, .int .i64 y, .int .i64 z] t2)).setCell ⟨bx, 7, none⟩ (.slice (some ⟨w.heap.size, 0, none⟩) 1 c)).heap[w.heap.size]? = some (.cells #[.int .i64 x, .int .i64 y, .int .i64 z] t2) := by
      rw [set_other (by omega)]
      exact hn
    refine ⟨⟨s, q, 1, ⟨0, 0, 0⟩, ⟨#[]⟩, [⟨x, y, z⟩], 0, 0, 0⟩, some ⟨w.heap.size, 0, none⟩, c, box_of h2 rfl, ⟨fun j hj => ?_⟩, Nat.le_refl 1, Nat.zero_le _, (((hb.setCell hg _).alloc (by rw [hz]; omega) _).setCell hg _)⟩
    have h0 : j = 0 := by simpa using hj
    subst h0
    exact ⟨w.heap.size, 0, rfl, (Array.getElem?_eq_some_iff.1 hn2).1, by unfold World.cell?; simp only [hn2]; rfl, by unfold World.cell?; simp only [hn2]; rfl, by unfold World.cell?; simp only [hn2]; rfl⟩
end Go.Proofs.YtebkeocfgcekmaaGreatDoor
/- wakes of layer 6 -/
namespace Go.Proofs.YtebkeocfgcekmaaGreatDoor
open Go.RowKit Go.Lib

theorem num6_same (n : Int) (w : World) : Calls Tryz.prog 14 #[.int .i64 n] w fun e w' => e = .returned (.int .i64 n) ∧ w' = w := by
  go_enter Tryz.func14, Tryz.ntmps14
  go_wp2
  go_ret
  exact ⟨rfl, rfl⟩
def dk1 : OpD := ⟨1, 1, 1, ⟨0, 0, 0⟩, ⟨#[97]⟩, [], 0, 0, 0⟩
def dk2 : OpD := ⟨1, 2, 2, ⟨0, 0, 0⟩, ⟨#[]⟩, [], 1, 1, 0⟩
theorem dk_row : rowP [dk1, dk2] := by
  refine ⟨by decide, fun k hk => ?_⟩
  have : k = 0 ∨ k = 1 := by simp at hk; omega
  rcases this with rfl | rfl
  · show tk [] dk1 = true
    kernel_rfl
  · show tk [dk1] dk2 = true
    kernel_rfl
theorem dk_row1 : rowP [dk1] := rowP_take dk_row 1
theorem dk_row0 : rowP [] := rowP_take dk_row 0
theorem dk_txt : docT [dk1, dk2] = [] := by kernel_rfl
theorem dk_txt1 : docT [dk1] = [97] := by kernel_rfl
theorem dk_txt0 : docT [] = [] := by kernel_rfl
theorem dk_ops (w : World) : OpsAt (w.alloc (.cells #[.int .i64 1, .int .i64 1, .int .i64 1, .int .i64 0, .int .i64 0, .int .i64 0, .string ⟨#[97]⟩, .slice none 0 0, .int .i64 0, .int .i64 0, .int .i64 0, .int .i64 1, .int .i64 2, .int .i64 2, .int .i64 0, .int .i64 0, .int .i64 0, .string ⟨#[]⟩, .slice none 0 0, .int .i64 1, .int .i64 1, .int .i64 0] 54)) (some ⟨w.heap.size, 0, none⟩) [⟨dk1, none, 0⟩, ⟨dk2, none, 0⟩] := by
  refine ⟨fun j hj => ⟨w.heap.size, 0, rfl, by simp, fun c u hu => ?_⟩, fun j hj => ?_, by decide⟩
  · have hj2 : j = 0 ∨ j = 1 := by simp at hj; omega
    have hc : c < 11 := by
      have := (List.getElem?_eq_some_iff.1 hu).1
      rcases hj2 with rfl | rfl <;> exact this
    rw [World.cell?_alloc_new, ← hu]
    have hcc : c = 0 ∨ c = 1 ∨ c = 2 ∨ c = 3 ∨ c = 4 ∨ c = 5 ∨ c = 6 ∨ c = 7 ∨ c = 8 ∨ c = 9 ∨ c = 10 := by omega
    rcases hj2 with rfl | rfl <;> rcases hcc with rfl | rfl | rfl | rfl | rfl | rfl | rfl | rfl | rfl | rfl | rfl <;> rfl
  · have hj2 : j = 0 ∨ j = 1 := by simp at hj; omega
    rcases hj2 with rfl | rfl
    · exact ⟨ElemsAt.nil _, Nat.zero_le _, (show (1 : Nat) ≤ BIG from by decide), fun _ => ⟨rfl, rfl⟩⟩
    · exact ⟨ElemsAt.nil _, Nat.zero_le _, (show (0 : Nat) ≤ BIG from by decide), fun _ => ⟨rfl, rfl⟩⟩
set_option maxRecDepth 100000 in
set_option maxHeartbeats 2000000 in
theorem wakes6_any (w : World) : Calls Tryz.prog 32 #[] w (BoB true w) := by
  have h0 := dText_ok none 0 [] w ⟨fun j hj => absurd hj (by simp), fun j hj => absurd hj (by simp), by decide⟩ dk_row0
  rw [show OpR.os [] = [] from rfl, dk_txt0] at h0
  unfold TextPost at h0
  have H0 := Lib.hid h0
  clear h0
  have HT := Lib.hid (fun (w1 wx : World) (hx : Below (w1.alloc (.cells #[.int .i64 1, .int .i64 1, .int .i64 1, .int .i64 0, .int .i64 0, .int .i64 0, .string ⟨#[97]⟩, .slice none 0 0, .int .i64 0, .int .i64 0, .int .i64 0, .int .i64 1, .int .i64 2, .int .i64 2, .int .i64 0, .int .i64 0, .int .i64 0, .string ⟨#[]⟩, .slice none 0 0, .int .i64 1, .int .i64 1, .int .i64 0] 54)).heap.size (w1.alloc (.cells #[.int .i64 1, .int .i64 1, .int .i64 1, .int .i64 0, .int .i64 0, .int .i64 0, .string ⟨#[97]⟩, .slice none 0 0, .int .i64 0, .int .i64 0, .int .i64 0, .int .i64 1, .int .i64 2, .int .i64 2, .int .i64 0, .int .i64 0, .int .i64 0, .string ⟨#[]⟩, .slice none 0 0, .int .i64 1, .int .i64 1, .int .i64 0] 54)) wx) => (by
    have h := dText_ok (some ⟨w1.heap.size, 0, none⟩) 2 _ wx ((dk_ops w1).below hx) dk_row
    rw [show OpR.os [⟨dk1, none, 0⟩, ⟨dk2, none, 0⟩] = [dk1, dk2] from rfl, dk_txt] at h
    exact h : Calls Tryz.prog 11 #[.slice (some ⟨w1.heap.size, 0, none⟩) 2 2] wx (TextPost [] 0 wx)))
  have HT1 := Lib.hid (fun (w1 : World) => (by
    have h := dText_ok (some ⟨w1.heap.size, 0, none⟩) 2 _ _ ((dk_ops w1).take 1) dk_row1
    rw [show OpR.os ([⟨dk1, none, 0⟩, ⟨dk2, none, 0⟩].take 1) = [dk1] from rfl, dk_txt1] at h
    exact h : Calls Tryz.prog 11 #[.slice (some ⟨w1.heap.size, 0, none⟩) 1 2] (w1.alloc (.cells #[.int .i64 1, .int .i64 1, .int .i64 1, .int .i64 0, .int .i64 0, .int .i64 0, .string ⟨#[97]⟩, .slice none 0 0, .int .i64 0, .int .i64 0, .int .i64 0, .int .i64 1, .int .i64 2, .int .i64 2, .int .i64 0, .int .i64 0, .int .i64 0, .string ⟨#[]⟩, .slice none 0 0, .int .i64 1, .int .i64 1, .int .i64 0] 54)) (TextPost [97] 0 (w1.alloc (.cells #[.int .i64 1, .int .i64 1, .int .i64 1, .int .i64 0, .int .i64 0, .int .i64 0, .string ⟨#[97]⟩, .slice none 0 0, .int .i64 0, .int .i64 0, .int .i64 0, .int .i64 1, .int .i64 2, .int .i64 2, .int .i64 0, .int .i64 0, .int .i64 0, .string ⟨#[]⟩, .slice none 0 0, .int .i64 1, .int .i64 1, .int .i64 0] 54)))))
  unfold TextPost at HT HT1
  go_enter Tryz.func32, Tryz.ntmps32
  go_wp2_with (first
    | (go_at_call_has 11 (Value.slice none 0 0); refine H0.out.mono ?_; rintro x1 w1 ⟨rfl, hb1⟩; have HB1 := Lib.hid hb1; clear hb1)
    | (go_at_call_has 11 (Value.slice (some ⟨w1.heap.size, 0, none⟩) 1 2); refine (HT1.out w1).mono ?_; rintro x2 w2 ⟨rfl, hb2⟩; have HB2 := Lib.hid hb2; clear hb2)
    | (go_at_call_has 11 (Value.slice (some ⟨w1.heap.size, 0, none⟩) 2 2); refine (HT.out w1 w2 HB2.out).mono ?_; rintro x3 w3 ⟨rfl, hb3⟩; have HB3 := Lib.hid (HB2.out.trans (hb3.mono HB2.out.size)); clear hb3)
    | (go_at_call 14; refine (num6_same _ _).mono ?_; rintro x7 w7 ⟨rfl, h7⟩; have h7s := h7.symm; clear h7; subst h7s)
    | fail)
  go_ret
  exact ⟨rfl, HB1.out.trans ((((Below.refl _ _).alloc (Nat.le_refl _) _).trans (HB3.out.mono (by simp))).mono HB1.out.size)⟩
end Go.Proofs.YtebkeocfgcekmaaGreatDoor
/- lectionarylaw6.with: the walk that four laws share, for what is written -/
namespace Go.Proofs.YtebkeocfgcekmaaGreatDoor
open Go.RowKit Go.Lib Go.Sort

theorem szs_row {L : List OpR} (hr : rowP (OpR.os L)) : Szs L ∧ ∀ r ∈ L, r.o.gone.length ≤ 1000000 := by
  refine ⟨fun r hm => ?_, fun r hm => ?_⟩
  · have := (okOp_text (row_ok hr.2 r.o (List.mem_map_of_mem hm))).2.2
    omega
  · have := (gone_ok (row_ok hr.2 r.o (List.mem_map_of_mem hm))).1
    omega
/-- the row l, as it stands at the head of the inner loop -/
def WRow (w : World) (a : Option Addr) (c : Nat) (L : List OpR) : Prop := OpsAt w a L ∧ L.length ≤ c ∧ rowP (OpR.os L)
theorem WRow.below {w w' : World} {a : Option Addr} {c : Nat} {L : List OpR} (h : WRow w a c L) (hb : Below w.heap.size w w') : WRow w' a c L := ⟨h.1.below hb, h.2.1, h.2.2⟩
set_option maxRecDepth 100000 in
set_option maxHeartbeats 16000000 in
theorem with_any (p : AskD) (kind : Nat) (hkind : kind = 0) (W : World) (h : AskAt W p) (hT : Tabs W) : Calls Tryz.prog 33 #[p.v, .int .i64 kind] W (BoB true W) := by
  have HHV := Lib.hid (fun wx (hx : Below W.heap.size W wx) => Heavy_light p wx (h.below hx))
  have HX := Lib.hid (BoxA.new W p)
  have hb0 : Below W.heap.size W (W.alloc p.obj) := (Below.refl _ _).alloc (Nat.le_refl _) _
  have HB0 := Lib.hid hb0
  have HRW := Lib.hid h.l
  have HTB := Lib.hid (fun wx (hx : Below W.heap.size W wx) => hT.next hx)
  have hl3 := h.l.len
  obtain ⟨i0, hi0, hz0, hz1, hz2⟩ := info_parts Tryz.infoElem
  have HWK := Lib.hid wakes6_any
  clear h hb0 hT
  unfold AskD.v at HHV ⊢
  generalize hLP : Light p = LP at HHV
  have HLP := Lib.hid (show LP → Light p from fun h => by rw [hLP]; exact h)
  clear hLP
  unfold Light at HLP
  obtain ⟨lr, le, lo, ln, ar, ae, ao, an, cr, ce, co, cn⟩ := p
  unfold AskD.obj at HX HB0
  simp only at HHV HX HB0 HRW hl3 HLP ⊢
  have hbi := big_is
  obtain ⟨n0, hn0⟩ : ∃ n, lr.length = n := ⟨_, rfl⟩
  have HL0 := Lib.hid hn0
  have h0a : (n0 : Int) ≤ 140737488351232 := by omega
  rw [hn0] at HHV HX HB0 ⊢
  clear hl3 hbi hn0
  generalize hn2 : le.length = n2 at *
  generalize hn1 : lo.length = n1 at *
  generalize hn3 : ln.length = n3 at *
  have HL2 := Lib.hid hn2
  have HL1 := Lib.hid hn1
  have HL3 := Lib.hid hn3
  clear hn1 hn2 hn3
  go_enter Tryz.func33, Tryz.ntmps33
  go_wp2_with (first | (go_at_call 7; refine (HHV.out _ HB0.out).mono ?_; rintro x1 w1 ⟨b1, rfl, hlp, hb1⟩; have HPP := Lib.hid hlp; have HB1 := Lib.hid (HB0.out.trans (hb1.mono HB0.out.size)); have HA1 := Lib.hid (HX.out.next hb1 HX.out.lt); clear hb1 hlp; cases b1) | fail)
  rotate_left
  · go_wp2_with fail
    go_ret
    exact ⟨rfl, HB1.out⟩
  have HLT := Lib.hid (HLP.out (HPP.out (by simp)))
  clear HLP HPP
  go_wp2_with fail
  clear HHV
  have HXX := Lib.hid (fun (wx : World) (hx : Below w1.heap.size w1 wx) => And.intro ((hx.cell (p := ⟨W.heap.size, 0, none⟩) HA1.out.lt).trans HA1.out.c0) (And.intro ((hx.cell (p := ⟨W.heap.size, 1, none⟩) HA1.out.lt).trans HA1.out.c1) (And.intro ((hx.cell (p := ⟨W.heap.size, 2, none⟩) HA1.out.lt).trans HA1.out.c2) (And.intro ((hx.cell (p := ⟨W.heap.size, 3, none⟩) HA1.out.lt).trans HA1.out.c3) (And.intro (Nat.lt_of_lt_of_le HA1.out.lt hx.size) (HB1.out.trans (hx.mono HB1.out.size)))))))
  simp only [HL0.out, HL1.out, HL2.out, HL3.out] at HXX
  go_loopw [5] (fun s5 wr => ∃ i : Nat, s5 = .int .i64 i ∧ i ≤ n0 ∧ Below w1.heap.size w1 wr) (fun s5 _ => n0 - (RowKit.intOf s5).toNat)
  case atStart => exact ⟨0, rfl, Nat.zero_le _, Below.refl _ _⟩
  case round =>
    obtain ⟨i, rfl, hi, hb⟩ := hrel
    obtain ⟨q0, q1, q2, q3, hq0, hbW⟩ := HXX.out _ hb
    have HB := Lib.hid hb
    have HBW := Lib.hid hbW
    by_cases hlt : i < n0
    · by_cases h4 : (i : Int) < 4
      · have hil : i < lr.length := by rw [HL0.out]; exact hlt
        obtain ⟨b, off, rfl, hbb, cW⟩ := HRW.out.cell i hil
        have hro := HRW.out.row i hil
        have hlr := light_row (HLT.out.2.2.2 i hil)
        generalize lr[i] = r at *
        clear hil
        obtain ⟨rl, ra, rc⟩ := r
        simp only at cW hro hlr
        have HRO := Lib.hid hro.1
        have hcap := hro.2
        have HRR := Lib.hid (fun (wx : World) (hx : Below W.heap.size W wx) => rRow_any ra rc rl wx (HTB.out _ hx) (fun r hr => by have := (hlr.2 r hr).1; omega) (hro.1.below hx) hro.2)
        have HCO := Lib.hid (fun (wx : World) (hx : Below W.heap.size W wx) => CopyOps_any ra rc rl wx (hro.1.below hx) (fun r hr => by have := (hlr.2 r hr).2; omega) (by omega))
        obtain ⟨nr, hnr⟩ : ∃ n, rl.length = n := ⟨_, rfl⟩
        have HNR := Lib.hid hnr
        rw [hnr] at cW hcap HRR HCO
        have HCW := Lib.hid (fun (wx : World) (hx : Below W.heap.size W wx) => And.intro ((hx.cell (p := ⟨b, off + i, none⟩) hbb).trans cW) (Nat.lt_of_lt_of_le hbb hx.size))
        obtain ⟨cr0, hbr⟩ := HCW.out _ hbW
        have hlr9 := hlr.1
        rw [hnr] at hlr9
        clear hnr hro hb hbW cW hlr HRW
        unfold CopysPost at HCO
        by_cases hrow : rowP (OpR.os rl)
        · rw [show rowB (OpR.os rl) = true from (rowB_iff _).2 hrow] at HRR
          have HROW := Lib.hid hrow
          clear hrow
          go_wp2_with (first
            | (go_at_call 9; refine (HRR.out wr HBW.out).mono ?_; rintro x2 w2 ⟨rfl, hb2⟩; have HB2 := Lib.hid (HB.out.trans (hb2.mono HB.out.size)); obtain ⟨p0, p1, p2, p3, hp0, hpW⟩ := HXX.out _ HB2.out; obtain ⟨cr1, hbr1⟩ := HCW.out _ hpW; clear hb2)
            | (go_at_call 8; refine (HCO.out w2 hpW).mono ?_; rintro x3 w3 ⟨v3, L3, rfl, hown3, hos3, hb3⟩; have hl3 : L3.length = nr := (by have h := congrArg List.length hos3; rw [os_len, os_len, HNR.out] at h; exact h); obtain ⟨a3, c3, rfl, hat3, hc3⟩ := hown3.ops (by unfold BIG; omega); have HWR := Lib.hid (show WRow w3 a3 c3 L3 from ⟨hat3, hc3, by rw [hos3]; exact HROW.out⟩); have HB3 := Lib.hid (HB2.out.trans (hb3.mono HB2.out.size)); clear hown3 hat3 hos3 hb3 hl3 hc3)
            | fail)
          clear HRR HCO hcap cr0 hbr cr1 hbr1 q0 q1 q2 q3 hq0 p0 p1 p2 p3 hp0 hpW
          go_loopw [6, 7] (fun s6 s7 wr => ∃ (n : Nat) (al : Option Addr) (cl : Nat) (Ll : List OpR), s7 = .int .i64 n ∧ n ≤ 8 ∧ s6 = .slice al Ll.length cl ∧ WRow wr al cl Ll ∧ Below w1.heap.size w1 wr) (fun _ s7 _ => 8 - (RowKit.intOf s7).toNat)
          case atStart => exact ⟨0, a3, c3, L3, rfl, by omega, rfl, HWR.out, HB3.out⟩
          case round =>
            clear HWR HB3
            obtain ⟨n, al, cl, Ll, rfl, hn, rfl, hwr, hb⟩ := hrel
            have HBN := Lib.hid hb
            by_cases hn8 : n < 8
            · have hn8i : (n : Int) < 8 := by omega
              have HWR := Lib.hid hwr
              have hrw := hwr.2.2
              have hsz := szs_row hrw
              have hl40 : Ll.length ≤ 40 := by have := hrw.1; rw [os_len] at this; exact this
              have htab := HTB.out _ (HB1.out.trans (hb.mono HB1.out.size))
              have HTBN := Lib.hid (fun (wx : World) (hx : Below wr.heap.size wr wx) => htab.next hx)
              have HMN := Lib.hid (fun (s : Int) => rMany_any al cl Ll s wr hwr.1)
              have HMC : RowKit.Hid (∀ s, cnt (OpR.os Ll) s ≤ 40) := Lib.hid (fun s => Nat.le_trans (cnt_le _ _) (by rw [os_len]; exact hl40))
              have HVS := Lib.hid (fun wx (hx : Below wr.heap.size wr wx) => rVis_any al cl Ll wx (htab.next hx) hsz.1 (hwr.1.below hx) hrw)
              have hv200 := visE_le hrw.2
              obtain ⟨nl, hnl⟩ : ∃ q, Ll.length = q := ⟨_, rfl⟩
              have HNL := Lib.hid hnl
              rw [hnl] at HMN HVS hl40 ⊢
              obtain ⟨XV, hXV⟩ : ∃ X, visE (OpR.os Ll) = X := ⟨_, rfl⟩
              rw [hXV] at HVS hv200
              obtain ⟨nv, hnv⟩ : ∃ q, XV.length = q := ⟨_, rfl⟩
              have HNV := Lib.hid hnv
              have HXV := Lib.hid hXV
              rw [hnv] at hv200
              have hsite : ((((n : Int) + (i : Int))).tmod 3) = (((n + i) % 3 : Nat) : Int) := by
                rw [show ((n : Int) + (i : Int)) = ((n + i : Nat) : Int) from by omega, Int.tmod_eq_emod_of_nonneg (by omega)]
                rfl
              have hs3 : (n + i) % 3 < 3 := Nat.mod_lt _ (by decide)
              generalize hst : (n + i) % 3 = st at *
              clear hst hwr hrw hsz htab hnl hXV hnv
              go_upto_block 4 with (first
                | (go_at_call 26; refine (HMN.out _).mono ?_; rintro x4 w4 ⟨rfl, hb4⟩; have HB4 := Lib.hid hb4; clear hb4)
                | (go_at_call 12; have hba := (HB4.out.alloc HB4.out.size (.cells #[.int .i64 (1 + (st : Int)), .int .i64 (wrap64 ((cnt (OpR.os Ll) (1 + (st : Int)) : Int) + 1)), .int .i64 0, .int .i64 0, .int .i64 0, .int .i64 0, .string ⟨#[]⟩, .slice none 0 0, .int .i64 0, .int .i64 0, .int .i64 0] 54)); have hbx := BoxO.new w4 ⟨1 + (st : Int), wrap64 ((cnt (OpR.os Ll) (1 + (st : Int)) : Int) + 1), 0, ⟨0, 0, 0⟩, ⟨#[]⟩, [], 0, 0, 0⟩ none 0; refine (HVS.out _ hba).mono ?_; rintro x5 w5 ⟨v5, rfl, hown5, hb5⟩; obtain ⟨a5, c5, hv5, he5, _⟩ := elems_own hown5; rw [HNV.out] at hv5; subst hv5; have hblk := (hb5.block w4.heap.size (by simp)).trans (heap_alloc_new w4 _); have HBLK := Lib.hid hblk; have HG5 := Lib.hid (show ∀ ad, a5 = some ad → w4.heap.size < ad.block ∧ ad.block < w5.heap.size from fun ad ha => by subst ha; have h9 := hown5.lt ad.block rfl; simp at h9; omega); have HE5 := Lib.hid he5; have HB5 := Lib.hid (hba.trans (hb5.mono hba.size)); have HBX5 := Lib.hid (hbx.step hb5); clear hb5 hown5 he5 hba hbx hblk)
                | fail)
              have HSB := Lib.hid (fun (wx : World) (hx : Below wr.heap.size wr wx) => HBN.out.trans (hx.mono HBN.out.size))
              obtain ⟨bx, hbx0⟩ : ∃ q, w4.heap.size = q := ⟨_, rfl⟩
              have HBG := Lib.hid (show wr.heap.size ≤ bx from by rw [← hbx0]; exact HB4.out.size)
              rw [hbx0] at HBX5 HBLK HG5 ⊢
              clear hbx0 HVS
              go_cut [] (fun wx => SwPost bx wr wx)
              case first =>
                have hblk := HBLK.out
                have k2 : w5.cell? ⟨bx, 2, none⟩ = some (.int .i64 0) := by simp [World.cell?, hblk]
                have k3 : w5.cell? ⟨bx, 3, none⟩ = some (.int .i64 0) := by simp [World.cell?, hblk]
                have k4 : w5.cell? ⟨bx, 4, none⟩ = some (.int .i64 0) := by simp [World.cell?, hblk]
                have k5 : w5.cell? ⟨bx, 5, none⟩ = some (.int .i64 0) := by simp [World.cell?, hblk]
                have k6 : w5.cell? ⟨bx, 6, none⟩ = some (.string ⟨#[]⟩) := by simp [World.cell?, hblk]
                have k7 : w5.cell? ⟨bx, 7, none⟩ = some (.slice none 0 0) := by simp [World.cell?, hblk]
                have k8 : w5.cell? ⟨bx, 8, none⟩ = some (.int .i64 0) := by simp [World.cell?, hblk]
                have k9 : w5.cell? ⟨bx, 9, none⟩ = some (.int .i64 0) := by simp [World.cell?, hblk]
                have ka : w5.cell? ⟨bx, 10, none⟩ = some (.int .i64 0) := by simp [World.cell?, hblk]
                have kf : ∀ c, w5.frozen? ⟨bx, c, none⟩ = false := fun c => by simp [World.frozen?, hblk]
                have kf2 := kf 2
                have kf3 := kf 3
                have kf4 := kf 4
                have kf5 := kf 5
                have kf6 := kf 6
                have kf7 := kf 7
                have kf8 := kf 8
                have kf9 := kf 9
                have kfa := kf 10
                have kl := HBX5.out.lt
                clear hblk kf
                subst hkind
                have HFIN := Lib.hid (sw_k0 HBLK.out HB5.out HBG.out)
                have hm2 : ((n : Int)).tmod 2 = ((n % 2 : Nat) : Int) := by
                  rw [Int.tmod_eq_emod_of_nonneg (by omega)]
                  rfl
                have hn2 : n % 2 < 2 := Nat.mod_lt _ (by decide)
                generalize hn22 : n % 2 = r2 at *
                clear hn22
                rcases Nat.eq_zero_or_pos nv with rfl | hpos
                · go_wp2_with fail
                  go_meet
                  exact HFIN.out.1
                · have hposi : (0 : Int) < (nv : Int) := by omega
                  have hmv : ((n : Int)).tmod (nv : Int) = ((n % nv : Nat) : Int) := by
                    rw [Int.tmod_eq_emod_of_nonneg (by omega)]
                    rfl
                  have hlv : n % nv < nv := Nat.mod_lt _ hpos
                  obtain ⟨b6, off6, rfl, hb6, x0, x1, x2⟩ := HE5.out.cell (n % nv) (by rw [HNV.out]; exact hlv)
                  have hbne := (HG5.out _ rfl).1
                  simp only at hbne
                  have hbne2 : ¬ b6 = bx := by omega
                  have hwz : wrap64 ((n % nv : Nat) : Int) = ((n % nv : Nat) : Int) := IntWalk.wrap64_in _ ⟨by omega, by omega⟩
                  generalize XV[n % nv]'(by rw [HNV.out]; exact hlv) = x at *
                  generalize n % nv = jv at *
                  obtain ⟨xs, xq, xi⟩ := x
                  simp only at x0 x1 x2
                  have hr2 : r2 = 0 ∨ r2 = 1 := by omega
                  rcases hr2 with rfl | rfl
                  · go_upto_region 24 with fail
                    have hbk := blk_set6 (blk_set2 HBLK.out (.int .i64 1)) (.string ⟨#[120, 121]⟩)
                    have y0 := cell_far (b := bx) (c := 6) (u := .string ⟨#[120, 121]⟩) (cell_far (b := bx) (c := 2) (u := .int .i64 1) x0 hbne2) hbne2
                    have y1 := cell_far (b := bx) (c := 6) (u := .string ⟨#[120, 121]⟩) (cell_far (b := bx) (c := 2) (u := .int .i64 1) x1 hbne2) hbne2
                    have y2 := cell_far (b := bx) (c := 6) (u := .string ⟨#[120, 121]⟩) (cell_far (b := bx) (c := 2) (u := .int .i64 1) x2 hbne2) hbne2
                    have HFX := Lib.hid (HFIN.out.2 xs xq xi)
                    have hzl : b6 < ((w5.setCell ⟨bx, 2, none⟩ (.int .i64 1)).setCell ⟨bx, 6, none⟩ (.string ⟨#[120, 121]⟩)).heap.size := by simpa using hb6
                    clear k2 k3 k4 k5 k6 k7 k8 k9 ka kf2 kf3 kf4 kf5 kf6 kf7 kf8 kf9 kfa kl x0 x1 x2 HFIN
                    generalize (w5.setCell ⟨bx, 2, none⟩ (.int .i64 1)).setCell ⟨bx, 6, none⟩ (.string ⟨#[120, 121]⟩) = wk at *
                    obtain ⟨_, k3, k4, k5, _, _, _, _, _, kf, kl⟩ := blk_cells hbk
                    have kf3 := kf 3
                    have kf4 := kf 4
                    have kf5 := kf 5
                    clear kf hbk
                    go_wp2_with fail
                    go_meet
                    exact HFX.out
                  · go_wp2_with fail
                    go_meet
                    exact HFIN.out.1
              case rest =>
                obtain ⟨o, oa, oc, hbx, hel, hgl, hts, hbw⟩ := hcut
                have hwr2 := HWR.out.below hbw
                have hsz := szs_row HWR.out.2.2
                have HSZ2 := Lib.hid (show ∀ Lm : List OpR, OpR.os Lm = OpR.os Ll ++ [o] → Szs Lm from fun Lm hL r hr => by
                  have h1 : r.o ∈ OpR.os Ll ++ [o] := by rw [← hL]; exact List.mem_map_of_mem hr
                  rcases List.mem_append.1 h1 with h1 | h1
                  · obtain ⟨r2, h2, h3⟩ := List.mem_map.1 h1
                    rw [← h3]
                    exact hsz.1 r2 h2
                  · rw [List.mem_singleton.1 h1]
                    omega)
                have hbh := rBehind_any al cl Ll o oa oc wc hwr2.1 hsz.2 (by rw [HNL.out]; omega) hel (by omega) (by unfold BIG; omega)
                unfold BehPost at hbh
                rw [HNL.out] at hbh
                have HLN := Lib.hid (show ∀ Lm : List OpR, OpR.os Lm = OpR.os Ll ++ [o] → Lm.length = nl + 1 from fun Lm hL => by
                  have h1 := congrArg List.length hL
                  rw [os_len, List.length_append, os_len, HNL.out] at h1
                  exact h1)
                have HBW := Lib.hid hbw
                have HWR2 := Lib.hid hwr2
                have HBH := Lib.hid hbh
                obtain ⟨L9, hL9⟩ : ∃ L, OpR.os Ll ++ [o] = L := ⟨_, rfl⟩
                rw [hL9] at HBH HSZ2 HLN
                have d0 := hbx.c0
                have d1 := hbx.c1
                have d2 := hbx.c2
                have d3 := hbx.c3
                have d4 := hbx.c4
                have d5 := hbx.c5
                have d6 := hbx.c6
                have d7 := hbx.c7
                have d8 := hbx.c8
                have d9 := hbx.c9
                have da := hbx.ca
                have dl := hbx.lt
                clear hbx hel hgl hts hbw hwr2 hsz hbh hL9
                obtain ⟨os, oq, ok, ⟨oe, oeq, oei⟩, otx, ogo, oof, onu, oge⟩ := o
                unfold OpD.v at HBH
                simp only at HBH d0 d1 d2 d3 d4 d5 d6 d7 d8 d9 da
                by_cases hrow2 : rowP L9
                · have htl := visE_le hrow2.2
                  obtain ⟨X9, hX9⟩ : ∃ X, visE L9 = X := ⟨_, rfl⟩
                  obtain ⟨n9, hn9⟩ : ∃ q, X9.length = q := ⟨_, rfl⟩
                  have HX9 := Lib.hid hX9
                  have HN9 := Lib.hid hn9
                  have HR9 := Lib.hid hrow2
                  obtain ⟨T9, hT9⟩ : ∃ T, docT L9 = T := ⟨_, rfl⟩
                  have HT9 := Lib.hid hT9
                  rw [hX9, hn9] at htl
                  clear hX9 hn9 hrow2 hT9
                  go_wp2_with (first
                    | (go_at_call 28; refine HBH.out.mono ?_; rintro x6 w6 ⟨v6, Lm, rfl, hown6, hos6, hb6⟩; have hlm := HLN.out Lm hos6; obtain ⟨am, cm, rfl, ham, hcm⟩ := hown6.ops (by unfold BIG; omega); have HAM := Lib.hid ham; have HCM := Lib.hid hcm; have HLM := Lib.hid hlm; have HOM := Lib.hid hos6; have HB6 := Lib.hid (HBW.out.trans (hb6.mono HBW.out.size)); rw [hlm]; clear hown6 ham hcm hos6 hb6 hlm)
                    | (go_at_call 9; have hrr := rRow_any am cm Lm w6 (HTBN.out _ HB6.out) (HSZ2.out Lm HOM.out) HAM.out HCM.out; rw [HLM.out, HOM.out, show rowB L9 = true from (rowB_iff _).2 HR9.out] at hrr; refine hrr.mono ?_; rintro x7 w7 ⟨rfl, hb7⟩; have HB7 := Lib.hid (HB6.out.trans (hb7.mono HB6.out.size)); have HA7 := Lib.hid (HAM.out.below hb7); clear hb7 hrr)
                    | (go_at_call 11; have ht := dText_ok am cm Lm w7 HA7.out (by rw [HOM.out]; exact HR9.out); unfold TextPost at ht; rw [HLM.out, HOM.out, HT9.out] at ht; refine ht.mono ?_; rintro x8 w8 ⟨rfl, hb8⟩; have HB8 := Lib.hid (HB7.out.trans (hb8.mono HB7.out.size)); have HA8 := Lib.hid (HA7.out.below hb8); clear hb8 ht)
                    | (go_at_call 10; have ht := dVis_ok am cm Lm w8 HA8.out (by rw [HOM.out]; exact HR9.out); unfold VisPost at ht; rw [HLM.out, HOM.out, HX9.out] at ht; refine ht.mono ?_; rintro x9 w9 ⟨v9, rfl, hown9, hb9⟩; obtain ⟨a9, c9, hv9, he9, _⟩ := elems_own hown9; rw [HN9.out] at hv9; subst hv9; have HE9 := Lib.hid he9; have HB9 := Lib.hid (HB8.out.trans (hb9.mono HB8.out.size)); have HA9 := Lib.hid (HA8.out.below hb9); clear hb9 ht hown9 he9)
                    | (go_at_call 14; refine (num6_same _ _).mono ?_; rintro x7 w7' ⟨rfl, h7⟩; have h7s := h7.symm; clear h7; subst h7s)
                    | (go_at_call 13; have ht := rText_any am cm Lm w9 (HTBN.out _ HB9.out) (HSZ2.out Lm HOM.out) HA9.out (by rw [HOM.out]; exact HR9.out); unfold RTextPost at ht; rw [HLM.out, HOM.out, HT9.out] at ht; refine ht.mono ?_; rintro x10 w10 ⟨rfl, hb10⟩; have HB10 := Lib.hid (HB9.out.trans (hb10.mono HB9.out.size)); have HA10 := Lib.hid (HA9.out.below hb10); have HE10 := Lib.hid (HE9.out.below hb10); clear hb10 ht)
                    | (go_at_call 12; have ht := rVis_any am cm Lm w10 (HTBN.out _ HB10.out) (HSZ2.out Lm HOM.out) HA10.out (by rw [HOM.out]; exact HR9.out); unfold OwnPost at ht; rw [HLM.out, HOM.out, HX9.out] at ht; refine ht.mono ?_; rintro x11 w11 ⟨v11, rfl, hown11, hb11⟩; obtain ⟨a11, c11, hv11, he11, _⟩ := elems_own hown11; rw [HN9.out] at hv11; subst hv11; have HE11 := Lib.hid he11; have HE12 := Lib.hid (HE10.out.below hb11); have HB11 := Lib.hid (HB10.out.trans (hb11.mono HB10.out.size)); have HA11 := Lib.hid (HA10.out.below hb11); clear hb11 ht hown11 he11)
                    | (go_at_call 15; have ht := EqElems_any a9 a11 c9 c11 X9 X9 w11 HE12.out HE11.out (by rw [HN9.out]; omega) (by rw [HN9.out]; omega); rw [HN9.out, decide_eq_true (rfl : X9 = X9)] at ht; refine ht.mono ?_; rintro x12 w12 ⟨rfl, hb12⟩; have HB12 := Lib.hid (HB11.out.trans (hb12.mono HB11.out.size)); have HA12 := Lib.hid (HA11.out.below hb12); clear hb12 ht)
                    | fail)
                  go_roundw
                  case rel => exact ⟨n + 1, am, cm, Lm, by go_num, by omega, by rw [HLM.out], ⟨HA12.out, HCM.out, by rw [HOM.out]; exact HR9.out⟩, HSB.out _ HB12.out⟩
                  case measure => simp [RowKit.intOf]; omega
                · go_wp2_with (first
                    | (go_at_call 28; refine HBH.out.mono ?_; rintro x6 w6 ⟨v6, Lm, rfl, hown6, hos6, hb6⟩; have hlm := HLN.out Lm hos6; obtain ⟨am, cm, rfl, ham, hcm⟩ := hown6.ops (by unfold BIG; omega); have HAM := Lib.hid ham; have HCM := Lib.hid hcm; have HLM := Lib.hid hlm; have HOM := Lib.hid hos6; have HB6 := Lib.hid (HBW.out.trans (hb6.mono HBW.out.size)); rw [hlm]; clear hown6 ham hcm hos6 hb6 hlm)
                    | (go_at_call 9; have hrr := rRow_any am cm Lm w6 (HTBN.out _ HB6.out) (HSZ2.out Lm HOM.out) HAM.out HCM.out; rw [HLM.out, HOM.out, show rowB L9 = false from by cases h : rowB L9 with | false => rfl | true => exact absurd ((rowB_iff _).1 h) hrow2] at hrr; refine hrr.mono ?_; rintro x7 w7 ⟨rfl, hb7⟩; have HB7 := Lib.hid (HB6.out.trans (hb7.mono HB6.out.size)); clear hb7 hrr)
                    | fail)
                  go_roundw
                  case rel => exact ⟨n + 1, al, cl, Ll, by go_num, by omega, by rw [HNL.out], HWR.out.below HB7.out, HSB.out _ HB7.out⟩
                  case measure => simp [RowKit.intOf]; omega
            · have hn8i : n = 8 := by omega
              subst hn8i
              have HBZ := Lib.hid hb
              clear hb hwr
              go_wp2_with fail
              go_roundw
              case rel => exact ⟨i + 1, by go_num, by omega, HBZ.out⟩
              case measure => simp [RowKit.intOf]; omega
        · rw [show rowB (OpR.os rl) = false from by cases h : rowB (OpR.os rl) with | false => rfl | true => exact absurd ((rowB_iff _).1 h) hrow] at HRR
          go_wp2_with (first
            | (go_at_call 9; refine (HRR.out wr HBW.out).mono ?_; rintro x2 w2 ⟨rfl, hb2⟩; have HB2 := Lib.hid (HB.out.trans (hb2.mono HB.out.size)); clear hb2)
            | fail)
          go_roundw
          case rel => exact ⟨i + 1, by go_num, by omega, HB2.out⟩
          case measure => simp [RowKit.intOf]; omega
      · have hd4 : decide ((i : Int) < 4) = false := decide_eq_false h4
        go_wp2_with (first | (go_at_call 32; refine (HWK.out _).mono ?_; rintro x2 w2 ⟨rfl, hb2⟩; have HB2 := Lib.hid (HBW.out.trans (hb2.mono HBW.out.size)); clear hb2) | fail)
        go_ret
        exact ⟨rfl, HB2.out⟩
    · have hd4 : decide ((i : Int) < (n0 : Int)) = false := decide_eq_false (by omega)
      go_wp2_with (first | (go_at_call 32; refine (HWK.out _).mono ?_; rintro x2 w2 ⟨rfl, hb2⟩; have HB2 := Lib.hid (HBW.out.trans (hb2.mono HBW.out.size)); clear hb2) | fail)
      go_ret
      exact ⟨rfl, HB2.out⟩
end Go.Proofs.YtebkeocfgcekmaaGreatDoor
