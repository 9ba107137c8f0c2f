/- TreeLimits: the walk -/
import Derived.Test.YtbalcamjccfkdaaDoorROps
import Derived.Test.YtbalcamjccfkdaaDoorRGo
import Derived.Test.YtbalcamjccfkdaaDoorVWakes
import Derived.Deep.DeepCutAuto
namespace Go.Proofs.YtbalcamjccfkdaaDoor
open Go.RowKit Go.Lib

def limO (j : Nat) : OpD := ⟨1 + (j : Int) % 4, 1 + (j : Int) / 4, 1, ⟨0, 0, 0⟩, ⟨#[97]⟩, [], 0, 0, 0⟩
def lim (i : Nat) : List OpD := (List.range i).map limO
theorem lim_succ (i : Nat) : lim (i + 1) = lim i ++ [limO i] := by unfold lim; rw [List.range_succ, List.map_append]; rfl
theorem lim_len (i : Nat) : (lim i).length = i := by simp [lim]
theorem lim_take {i k : Nat} (h : k ≤ i) : (lim i).take k = lim k := by
  unfold lim
  rw [← List.map_take, List.take_range, Nat.min_eq_left h]
theorem lim_40 : (List.range 40).all (fun k => tk (lim k) (limO k)) = true := by kernel_rfl
theorem lim_row {i : Nat} (h : i ≤ 40) : rowP (lim i) := by
  refine ⟨by rw [lim_len]; exact h, fun k hk => ?_⟩
  rw [lim_len] at hk
  rw [lim_take (by omega)]
  have h2 := lim_40
  rw [List.all_eq_true] at h2
  have h3 := h2 k (List.mem_range.2 (by omega))
  have h4 : (lim i)[k]'(by rw [lim_len]; exact hk) = limO k := by simp [lim]
  rw [h4]
  exact h3
theorem lim_rowB (i : Nat) : rowB (lim i) = decide (i ≤ 40) := by
  by_cases h : i ≤ 40
  · rw [decide_eq_true h]
    exact (rowB_iff _).2 (lim_row h)
  · rw [decide_eq_false h]
    exact rowB_no (fun hr => by have := hr.1; rw [lim_len] at this; omega)
/-- the digits and two letters, so many of them -/
def limT (j : Nat) : ByteArray := (⟨#[48, 49, 50, 51, 52, 53, 54, 55, 56, 57, 97, 98]⟩ : ByteArray).extract 0 (10 + j % 3)
def limP (j : Nat) : OpD := ⟨1, 1 + (j : Int), 1, ⟨0, 0, 0⟩, limT j, [], 0, 0, 0⟩
def lip (i : Nat) : List OpD := (List.range i).map limP
theorem lip_succ (i : Nat) : lip (i + 1) = lip i ++ [limP i] := by unfold lip; rw [List.range_succ, List.map_append]; rfl
theorem lip_len (i : Nat) : (lip i).length = i := by simp [lip]
theorem limT_size (j : Nat) : (limT j).size ≤ 12 := by
  unfold limT
  rw [ByteArray.size_extract]
  have h2 : (⟨#[48, 49, 50, 51, 52, 53, 54, 55, 56, 57, 97, 98]⟩ : ByteArray).size = 12 := rfl
  rw [h2]
  omega
theorem lim_at (i : Nat) (w : World) : ∀ r ∈ (lim i).map mkR, OpAt w r.o r.a r.cap := by
  intro r hr
  obtain ⟨o, ho, rfl⟩ := List.mem_map.1 hr
  obtain ⟨j, _, rfl⟩ := List.mem_map.1 ho
  exact mk_at (o := limO j) rfl (by show (⟨#[97]⟩ : ByteArray).size ≤ BIG; decide) w
theorem lip_at (i : Nat) (w : World) : ∀ r ∈ (lip i).map mkR, OpAt w r.o r.a r.cap := by
  intro r hr
  obtain ⟨o, ho, rfl⟩ := List.mem_map.1 hr
  obtain ⟨j, _, rfl⟩ := List.mem_map.1 ho
  exact mk_at rfl (Nat.le_trans (limT_size j) (by decide)) w
theorem lip_szs (i : Nat) : Szs ((lip i).map mkR) := by
  intro r hr
  obtain ⟨o, ho, rfl⟩ := List.mem_map.1 hr
  obtain ⟨j, _, rfl⟩ := List.mem_map.1 ho
  exact Nat.le_trans (limT_size j) (by decide)
set_option maxRecDepth 100000 in
set_option maxHeartbeats 8000000 in
theorem treeLimits_walk (p : AskD) (W : World) (h : AskAt W p) (hT : Tabs W) : Calls Tryd.prog 7 #[p.v] W (BoB true W) := by
  obtain ⟨i0, hq0, hz0, hz1, hz2⟩ := info_parts Tryd.infoOp
  have HX := Lib.hid (BoxA.new W p)
  have hb0 : Below W.heap.size W (W.alloc p.obj) := (Below.refl _ _).alloc (Nat.le_refl _) _
  have HB0 := Lib.hid hb0
  have HWK := Lib.hid wakes_any
  have HTT := Lib.hid (hT.next hb0)
  have hl3 := h.l.len
  have hbi := big_is
  clear h hb0 hT
  unfold AskD.v
  obtain ⟨lr, le, lo, ln, ar, ae, ao, an, cr, ce, co, cn⟩ := p
  unfold AskD.obj at HX HB0 HTT
  simp only at HX HB0 HTT hl3 ⊢
  have HCL := Lib.hid HX.out.c0
  simp only at HCL
  generalize lr.length = n0 at *
  have h0a : (n0 : Int) ≤ 140737488351232 := by omega
  clear hl3 hbi
  generalize le.length = n2 at *
  generalize lo.length = n1 at *
  generalize ln.length = n3 at *
  go_enter Tryd.func7, Tryd.ntmps7
  go_wp2_with fail
  generalize W.alloc (.cells #[.slice ar n0 cr, .slice ae n2 ce, .slice ao n1 co, .slice an n3 cn] 27) = W0 at *
  go_loopw [3, 4] (fun s3 s4 wr => ∃ i : Nat, s4 = .int .i64 i ∧ i ≤ 42 ∧ wr.ownsRow W0.heap.size 33 11 s3 i (ocs ((lim i).map mkR)) ∧ Below W0.heap.size W0 wr) (fun _ s4 _ => 42 - (RowKit.intOf s4).toNat)
  case atStart => exact ⟨0, rfl, Nat.zero_le _, World.ownsRow_nil _ _ _ _, Below.refl _ _⟩
  case round =>
    obtain ⟨i, rfl, hi, ho, hb⟩ := hrel
    have HO := Lib.hid ho
    have HB := Lib.hid hb
    clear ho hb
    by_cases h42 : (i : Int) < 42
    · have HM1 := Lib.hid (show i + 1 ≤ maxLen from by simp only [maxLen]; omega)
      have HM2 := Lib.hid (show (i + 1) * 112 ≤ 140737488355328 from by omega)
      have HRB := Lib.hid (lim_rowB (i + 1))
      have HCK := Lib.hid (fun (a : Option Addr) (c : Nat) wx (hx : OpsAt wx a ((lim (i + 1)).map mkR)) => (by have h9 := tCheck_any a c _ wx hx; rw [os_mk, List.length_map, lim_len] at h9; exact h9 : Calls Tryd.prog 10 #[.slice a (i + 1) c] wx (IntB (errO (rowB (lim (i + 1)))) wx)))
      have HOW := Lib.hid (fun (v : Value) (wx : World) (hx : wx.ownsRow W0.heap.size 33 11 v (i + 1) (ocs ((lim (i + 1)).map mkR))) => (by
        have h9 := ops_own (L := (lim (i + 1)).map mkR) (by rw [List.length_map, lim_len]; exact hx) (lim_at _ wx) (by rw [List.length_map, lim_len]; unfold BIG; omega)
        rw [List.length_map, lim_len] at h9
        exact h9 : ∃ a c, v = .slice a (i + 1) c ∧ OpsAt wx a ((lim (i + 1)).map mkR) ∧ i + 1 ≤ c))
      have HSN := Lib.hid (show ocs ((lim (i + 1)).map mkR) = ocs ((lim i).map mkR) ++ (mkR (limO i)).cs from by rw [lim_succ, List.map_append, ocs_append]; show _ ++ ocs [mkR (limO i)] = _; rw [ocs_one])
      by_cases h40 : i + 1 ≤ 40
      · have HR2 := Lib.hid (show errO (rowB (lim (i + 1))) = 0 from by rw [HRB.out, decide_eq_true h40]; rfl)
        rw [HR2.out] at HCK
        have h41 : ((i : Int) + 1) ≤ 40 := by omega
        go_wp2_with (first
          | (at_builtin; refine wpList_append_own _ rfl _ _ 24 rfl W0.heap.size 33 i0 (.agg #[.int .i64 0, .int .i64 0, .int .i64 0, .int .i64 0, .int .i64 0, .int .i64 0, .string ⟨#[]⟩, .slice none 0 0, .int .i64 0, .int .i64 0, .int .i64 0]) 11 112 Tryd.underlying24 hq0 hz0 hz1 hz2 rfl (by decide) _ i _ rfl (HO.out.alloc _) ⟨wr.heap.size, 0, none⟩ 1 1 (mkR (limO i)).cs rfl rfl (cell_op_new wr (limO i) _) (cs_oneO _) HM1.out HM2.out (by have := HB.out.size; simp; omega) ?_; intro v8 w8 hown8 hgrow8 hnil8; have HB8 := Lib.hid ((HB.out.alloc HB.out.size _).grown hgrow8 (by have := HB.out.size; simp; omega) (fun q hq => own_ge HO.out q hq)); have HO8 := Lib.hid hown8; obtain ⟨a8, c8, hv8, hops8, hc8⟩ := HOW.out v8 w8 (by rw [HSN.out]; exact hown8); have HP8 := Lib.hid hops8; have HC8 := Lib.hid hc8; subst hv8; clear hown8 hgrow8 hnil8 hops8 hc8)
          | (go_at_call 10; refine (HCK.out _ _ _ HP8.out).mono ?_; rintro x9 w9 ⟨rfl, hb9⟩; have HB9 := Lib.hid (HB8.out.trans (hb9.mono HB8.out.size)); have HO9 := Lib.hid (owns_belE HO8.out hb9); have HP9 := Lib.hid (HP8.out.below hb9); clear hb9)
          | (go_at_call 9; refine (num_same _ _).mono ?_; rintro x3 w9 ⟨rfl, rfl⟩)
          | fail)
        go_roundw
        case rel => exact ⟨i + 1, by go_num, by omega, by rw [HSN.out]; exact HO9.out, HB9.out⟩
        case measure => simp [RowKit.intOf] <;> omega
      · have HR2 := Lib.hid (show errO (rowB (lim (i + 1))) = 1 from by rw [HRB.out, decide_eq_false h40]; rfl)
        rw [HR2.out] at HCK
        have h41 : decide (((i : Int) + 1) ≤ 40) = false := decide_eq_false (by omega)
        go_wp2_with (first
          | (at_builtin; refine wpList_append_own _ rfl _ _ 24 rfl W0.heap.size 33 i0 (.agg #[.int .i64 0, .int .i64 0, .int .i64 0, .int .i64 0, .int .i64 0, .int .i64 0, .string ⟨#[]⟩, .slice none 0 0, .int .i64 0, .int .i64 0, .int .i64 0]) 11 112 Tryd.underlying24 hq0 hz0 hz1 hz2 rfl (by decide) _ i _ rfl (HO.out.alloc _) ⟨wr.heap.size, 0, none⟩ 1 1 (mkR (limO i)).cs rfl rfl (cell_op_new wr (limO i) _) (cs_oneO _) HM1.out HM2.out (by have := HB.out.size; simp; omega) ?_; intro v8 w8 hown8 hgrow8 hnil8; have HB8 := Lib.hid ((HB.out.alloc HB.out.size _).grown hgrow8 (by have := HB.out.size; simp; omega) (fun q hq => own_ge HO.out q hq)); have HO8 := Lib.hid hown8; obtain ⟨a8, c8, hv8, hops8, hc8⟩ := HOW.out v8 w8 (by rw [HSN.out]; exact hown8); have HP8 := Lib.hid hops8; have HC8 := Lib.hid hc8; subst hv8; clear hown8 hgrow8 hnil8 hops8 hc8)
          | (go_at_call 10; refine (HCK.out _ _ _ HP8.out).mono ?_; rintro x9 w9 ⟨rfl, hb9⟩; have HB9 := Lib.hid (HB8.out.trans (hb9.mono HB8.out.size)); have HO9 := Lib.hid (owns_belE HO8.out hb9); have HP9 := Lib.hid (HP8.out.below hb9); clear hb9)
          | (go_at_call 9; refine (num_same _ _).mono ?_; rintro x3 w9 ⟨rfl, rfl⟩)
          | fail)
        go_roundw
        case rel => exact ⟨i + 1, by go_num, by omega, by rw [HSN.out]; exact HO9.out, HB9.out⟩
        case measure => simp [RowKit.intOf] <;> omega
    · have hd : decide ((i : Int) < 42) = false := decide_eq_false h42
      clear HO
      go_wp2_with fail
      go_loopw [5, 6] (fun s5 s6 wy => ∃ j : Nat, s6 = .int .i64 j ∧ j ≤ 20 ∧ wy.ownsRow W0.heap.size 33 11 s5 j (ocs ((lip j).map mkR)) ∧ Below W0.heap.size W0 wy) (fun _ s6 _ => 20 - (RowKit.intOf s6).toNat)
      case atStart => exact ⟨0, rfl, Nat.zero_le _, World.ownsRow_nil _ _ _ _, HB.out⟩
      case round =>
        clear HB
        obtain ⟨j, rfl, hj, ho, hb⟩ := hrel
        have HO := Lib.hid ho
        have HB := Lib.hid hb
        by_cases h20 : (j : Int) < 20
        · have HM1 := Lib.hid (show j + 1 ≤ maxLen from by simp only [maxLen]; omega)
          have HM2 := Lib.hid (show (j + 1) * 112 ≤ 140737488355328 from by omega)
          have HCK := Lib.hid (fun (a : Option Addr) (c : Nat) wx (hx : OpsAt wx a ((lip (j + 1)).map mkR)) => (by have h9 := tCheck_any a c _ wx hx; rw [os_mk, List.length_map, lip_len] at h9; exact h9 : Calls Tryd.prog 10 #[.slice a (j + 1) c] wx (IntB (errO (rowB (lip (j + 1)))) wx)))
          have HRW := Lib.hid (fun (a : Option Addr) (c : Nat) wx (hx : OpsAt wx a ((lip (j + 1)).map mkR)) (hbx : Below W0.heap.size W0 wx) (hc : j + 1 ≤ c) => (by have h9 := rRow_any a c _ wx (HTT.out.next hbx) (lip_szs (j + 1)) hx (by rw [List.length_map, lip_len]; exact hc); rw [os_mk, List.length_map, lip_len] at h9; exact h9 : Calls Tryd.prog 11 #[.slice a (j + 1) c] wx (BoB (rowB (lip (j + 1))) wx)))
          have HOW := Lib.hid (fun (v : Value) (wx : World) (hx : wx.ownsRow W0.heap.size 33 11 v (j + 1) (ocs ((lip (j + 1)).map mkR))) => (by
            have h9 := ops_own (L := (lip (j + 1)).map mkR) (by rw [List.length_map, lip_len]; exact hx) (lip_at _ wx) (by rw [List.length_map, lip_len]; unfold BIG; omega)
            rw [List.length_map, lip_len] at h9
            exact h9 : ∃ a c, v = .slice a (j + 1) c ∧ OpsAt wx a ((lip (j + 1)).map mkR) ∧ j + 1 ≤ c))
          have HSN := Lib.hid (show ocs ((lip (j + 1)).map mkR) = ocs ((lip j).map mkR) ++ (mkR (limP j)).cs from by rw [lip_succ, List.map_append, ocs_append]; show _ ++ ocs [mkR (limP j)] = _; rw [ocs_one])
          generalize rowB (lip (j + 1)) = rb at *
          clear ho hb
          cases rb
          · rw [show errO false = 1 from rfl] at HCK
            go_wp2_with (first
          | (at_builtin; refine wpList_append_own _ rfl _ _ 24 rfl W0.heap.size 33 i0 (.agg #[.int .i64 0, .int .i64 0, .int .i64 0, .int .i64 0, .int .i64 0, .int .i64 0, .string ⟨#[]⟩, .slice none 0 0, .int .i64 0, .int .i64 0, .int .i64 0]) 11 112 Tryd.underlying24 hq0 hz0 hz1 hz2 rfl (by decide) _ j _ rfl (HO.out.alloc _) ⟨wr.heap.size, 0, none⟩ 1 1 (mkR (limP j)).cs rfl rfl (cell_op_new wr (limP j) _) (cs_oneO _) HM1.out HM2.out (by have := HB.out.size; simp; omega) ?_; intro v8 w8 hown8 hgrow8 hnil8; have HB8 := Lib.hid ((HB.out.alloc HB.out.size _).grown hgrow8 (by have := HB.out.size; simp; omega) (fun q hq => own_ge HO.out q hq)); have HO8 := Lib.hid hown8; obtain ⟨a8, c8, hv8, hops8, hc8⟩ := HOW.out v8 w8 (by rw [HSN.out]; exact hown8); have HP8 := Lib.hid hops8; have HC8 := Lib.hid hc8; subst hv8; clear hown8 hgrow8 hnil8 hops8 hc8)
          | (go_at_call 10; refine (HCK.out _ _ _ HP8.out).mono ?_; rintro x9 w9 ⟨rfl, hb9⟩; have HB9 := Lib.hid (HB8.out.trans (hb9.mono HB8.out.size)); have HO9 := Lib.hid (owns_belE HO8.out hb9); have HP9 := Lib.hid (HP8.out.below hb9); clear hb9)
          | (go_at_call 9; refine (num_same _ _).mono ?_; rintro x3 w9 ⟨rfl, rfl⟩)
              | (go_at_call 11; refine (HRW.out _ _ _ HP9.out HB9.out HC8.out).mono ?_; rintro x11 w11 ⟨rfl, hb11⟩; have HB11 := Lib.hid (HB9.out.trans (hb11.mono HB9.out.size)); have HO11 := Lib.hid (owns_belE HO9.out hb11); clear hb11)
              | fail)
            go_roundw
            case rel => exact ⟨j + 1, by go_num, by omega, by rw [HSN.out]; exact HO11.out, HB11.out⟩
            case measure => simp [RowKit.intOf] <;> omega
          · rw [show errO true = 0 from rfl] at HCK
            go_wp2_with (first
          | (at_builtin; refine wpList_append_own _ rfl _ _ 24 rfl W0.heap.size 33 i0 (.agg #[.int .i64 0, .int .i64 0, .int .i64 0, .int .i64 0, .int .i64 0, .int .i64 0, .string ⟨#[]⟩, .slice none 0 0, .int .i64 0, .int .i64 0, .int .i64 0]) 11 112 Tryd.underlying24 hq0 hz0 hz1 hz2 rfl (by decide) _ j _ rfl (HO.out.alloc _) ⟨wr.heap.size, 0, none⟩ 1 1 (mkR (limP j)).cs rfl rfl (cell_op_new wr (limP j) _) (cs_oneO _) HM1.out HM2.out (by have := HB.out.size; simp; omega) ?_; intro v8 w8 hown8 hgrow8 hnil8; have HB8 := Lib.hid ((HB.out.alloc HB.out.size _).grown hgrow8 (by have := HB.out.size; simp; omega) (fun q hq => own_ge HO.out q hq)); have HO8 := Lib.hid hown8; obtain ⟨a8, c8, hv8, hops8, hc8⟩ := HOW.out v8 w8 (by rw [HSN.out]; exact hown8); have HP8 := Lib.hid hops8; have HC8 := Lib.hid hc8; subst hv8; clear hown8 hgrow8 hnil8 hops8 hc8)
          | (go_at_call 10; refine (HCK.out _ _ _ HP8.out).mono ?_; rintro x9 w9 ⟨rfl, hb9⟩; have HB9 := Lib.hid (HB8.out.trans (hb9.mono HB8.out.size)); have HO9 := Lib.hid (owns_belE HO8.out hb9); have HP9 := Lib.hid (HP8.out.below hb9); clear hb9)
          | (go_at_call 9; refine (num_same _ _).mono ?_; rintro x3 w9 ⟨rfl, rfl⟩)
              | (go_at_call 11; refine (HRW.out _ _ _ HP9.out HB9.out HC8.out).mono ?_; rintro x11 w11 ⟨rfl, hb11⟩; have HB11 := Lib.hid (HB9.out.trans (hb11.mono HB9.out.size)); have HO11 := Lib.hid (owns_belE HO9.out hb11); clear hb11)
              | fail)
            go_roundw
            case rel => exact ⟨j + 1, by go_num, by omega, by rw [HSN.out]; exact HO11.out, HB11.out⟩
            case measure => simp [RowKit.intOf] <;> omega
        · have hd2 : decide ((j : Int) < 20) = false := decide_eq_false h20
          have a0 := (hb.cell (p := ⟨W.heap.size, 0, none⟩) HX.out.lt).trans HCL.out
          have hlt : W.heap.size < wr.heap.size := Nat.lt_of_lt_of_le HX.out.lt hb.size
          clear ho hb HO
          go_wp2_with (first
            | (go_at_call 12; refine (HWK.out wr).mono ?_; rintro x12 w12 ⟨rfl, hb12⟩; have HB12 := Lib.hid (HB0.out.trans ((HB.out.trans (hb12.mono HB.out.size)).mono HB0.out.size)); clear hb12)
            | fail)
          go_ret
          exact ⟨rfl, HB12.out⟩
end Go.Proofs.YtbalcamjccfkdaaDoor
