/- TreeStays: the walk -/
import Derived.Test.YtbalcamjccfkdaaVStays
import Derived.Test.YtbalcamjccfkdaaVWakes
import Derived.Test.YtbalcamjccfkdaaVHeavy
import Derived.Deep.DeepCutAuto
import Derived.Deep.CutBlock
import Derived.IntWalk
namespace Go.Proofs.Ytbalcamjccfkdaa
open Go.RowKit Go.Lib

theorem OpsAt.take {w : World} {a : Option Addr} {l : List OpR} (h : OpsAt w a l) (k : Nat) : OpsAt w a (l.take k) :=
  ⟨fun j hj => by
    rw [List.length_take] at hj
    obtain ⟨b, off, h1, h2, h3⟩ := h.cell j (by omega)
    exact ⟨b, off, h1, h2, fun c u hu => h3 c u (by rw [List.getElem_take] at hu; exact hu)⟩, fun j hj => by
    rw [List.length_take] at hj
    rw [List.getElem_take]
    exact h.op j (by omega), by rw [List.length_take]; have := h.len; omega⟩
theorem rowP_take {l : List OpD} (h : rowP l) (k : Nat) : rowP (l.take k) := ⟨by rw [List.length_take]; have := h.1; omega, okRow_take h.2 k⟩
/-- all that the law asks of one op of a row -/
structure Stay (La X : List El) (o : OpD) (P : Nat) : Prop where
  filt : X.filter (fun e => decide (e ∈ La)) = La
  len : X.length = La.length + nR o.text
  le : X.length ≤ 200
  first : o.after = B0 → P = 0
  aft : o.after ≠ B0 → atI X o.after + 1 = (P : Nat) ∧ 0 < P
  new : ∀ k : Nat, k < nR o.text → X[P + k]? = some ⟨o.site, o.seq, (k : Int)⟩
  ple : P ≤ La.length
theorem stay_all {l : List OpD} (hr : rowP l) {n : Nat} (hn : n < l.length) : ∃ P, Stay (ordE (l.take n)) (ordE (l.take (n + 1))) l[n] P := by
  have hinv := row_inv hr.2 n (by omega)
  have ht := hr.2 n hn
  have he : l.take (n + 1) = l.take n ++ [l[n]] := List.take_succ_eq_append_getElem hn
  rw [he]
  have hple : pos (ordT (l.take n)) l[n].after ≤ (ordE (l.take n)).length := by
    by_cases hb : l[n].after = B0
    · unfold pos; rw [if_pos hb]; exact Nat.zero_le _
    · exact (after_at hinv ht hb).2.2
  refine ⟨pos (ordT (l.take n)) l[n].after, stays_filter hinv ht, ordE_length _ _, ?_, fun hb => by unfold pos; rw [if_pos hb], fun hb => ⟨(after_at hinv ht hb).1, (after_at hinv ht hb).2.1⟩, fun k hk => new_at hple hk, hple⟩
  rw [← he]
  have h1 := row_inv hr.2 (n + 1) (by omega)
  have h2 := h1.len
  have h3 := row_tot (okRow_take hr.2 (n + 1))
  unfold ordE
  rw [List.length_map, h2]
  exact h3
theorem atI_pos {l : List El} {e : El} (h : e ∈ l) : 0 ≤ atI l e := by unfold atI; rw [if_pos h]; omega
theorem atI_neg {l : List El} {e : El} (h : ¬ e ∈ l) : atI l e = -1 := by unfold atI; rw [if_neg h]
theorem atI_le {l : List El} {e : El} : atI l e ≤ l.length := by
  unfold atI
  split
  · have := List.findIdx_le_length (xs := l) (p := fun x => decide (x = e)); omega
  · omega
theorem ordE_nil : ordE [] = [] := rfl
/-- of the first k of X those that are in La -/
def fil (La X : List El) (k : Nat) : List El := (X.take k).filter (fun e => decide (e ∈ La))
theorem fil_step (La X : List El) (k : Nat) (hk : k < X.length) : (fil La X (k + 1) = fil La X k ++ [X[k]] ∧ 0 ≤ atI La X[k]) ∨ (fil La X (k + 1) = fil La X k ∧ atI La X[k] < 0) := by
  unfold fil
  rw [take_snocE hk, List.filter_append]
  by_cases h : X[k] ∈ La
  · exact .inl ⟨by simp [h], atI_pos h⟩
  · exact .inr ⟨by simp [h], by rw [atI_neg h]; omega⟩
theorem fil_le (La X : List El) (k : Nat) : (fil La X k).length ≤ k := by
  unfold fil
  exact Nat.le_trans (List.length_filter_le _ _) (by rw [List.length_take]; omega)
theorem fil_all {La X : List El} (h : X.filter (fun e => decide (e ∈ La)) = La) : fil La X X.length = La := by
  unfold fil
  rw [List.take_length]
  exact h

set_option maxRecDepth 100000 in
set_option maxHeartbeats 16000000 in
theorem treeStays_walk (p : AskD) (W : World) (h : AskAt W p) : Calls Try.prog 3 #[p.v] W (BoB true W) := by
  have HHV := Lib.hid (fun wx (hx : Below W.heap.size W wx) => Heavy_any p wx (h.below hx))
  have HX := Lib.hid (BoxA.new W p)
  have hb0 : Below W.heap.size W (W.alloc p.obj) := (Below.refl _ _).alloc (Nat.le_refl _) _
  have HB0 := Lib.hid hb0
  have HRW := Lib.hid h.l
  have hl3 := h.l.len
  obtain ⟨i0, hi0, hz0, hz1, hz2⟩ := info_parts Try.infoElem
  have HWK := Lib.hid wakes_any
  clear h hb0
  unfold AskD.v at HHV ⊢
  obtain ⟨lr, le, lo, ln, ar, ae, ao, an, cr, ce, co, cn⟩ := p
  unfold AskD.obj at HX HB0
  simp only at HHV HX HB0 HRW hl3 ⊢
  have hbi := big_is
  obtain ⟨n0, hn0⟩ : ∃ n, lr.length = n := ⟨_, rfl⟩
  have HL0 := Lib.hid hn0
  have h0a : (n0 : Int) ≤ 140737488351232 := by omega
  rw [hn0] at HHV HX HB0 ⊢
  clear hl3 hbi hn0
  generalize le.length = n2 at *
  generalize lo.length = n1 at *
  generalize ln.length = n3 at *
  go_enter Try.func3, Try.ntmps3
  go_wp2_with (first | (go_at_call 4; refine (HHV.out _ HB0.out).mono ?_; rintro x1 w1 ⟨b1, rfl, hb1⟩; have HB1 := Lib.hid (HB0.out.trans (hb1.mono HB0.out.size)); have HA1 := Lib.hid (HX.out.next hb1 HX.out.lt); clear hb1; cases b1) | fail)
  rotate_left
  · go_wp2_with fail
    go_ret
    exact ⟨rfl, HB1.out⟩
  go_wp2_with fail
  clear HHV
  have HXX := Lib.hid (fun (wx : World) (hx : Below w1.heap.size w1 wx) => And.intro ((hx.cell (p := ⟨W.heap.size, 0, none⟩) HA1.out.lt).trans HA1.out.c0) (And.intro (Nat.lt_of_lt_of_le HA1.out.lt hx.size) (HB1.out.trans (hx.mono HB1.out.size))))
  simp only [HL0.out] at HXX
  go_loopw [3] (fun s3 wr => ∃ i : Nat, s3 = .int .i64 i ∧ i ≤ n0 ∧ Below w1.heap.size w1 wr) (fun s3 _ => n0 - (RowKit.intOf s3).toNat)
  case atStart => exact ⟨0, rfl, Nat.zero_le _, Below.refl _ _⟩
  case round =>
    obtain ⟨i, rfl, hi, hb⟩ := hrel
    obtain ⟨q0, hq0, hbW⟩ := HXX.out _ hb
    have HB := Lib.hid hb
    have HBW := Lib.hid hbW
    by_cases hlt : i < n0
    · by_cases h4 : (i : Int) < 4
      · have hil : i < lr.length := by rw [HL0.out]; exact hlt
        obtain ⟨b, off, rfl, hbb, cW⟩ := HRW.out.cell i hil
        have hro := HRW.out.row i hil
        generalize lr[i] = r at *
        clear hil
        obtain ⟨rl, ra, rc⟩ := r
        simp only at cW hro
        have HRO := Lib.hid hro.1
        have hcap := hro.2
        obtain ⟨nr, hnr⟩ : ∃ n, rl.length = n := ⟨_, rfl⟩
        have HNR := Lib.hid hnr
        rw [hnr] at cW hcap
        have HCW := Lib.hid (fun (wx : World) (hx : Below W.heap.size W wx) => And.intro ((hx.cell (p := ⟨b, off + i, none⟩) hbb).trans cW) (Nat.lt_of_lt_of_le hbb hx.size))
        obtain ⟨cr0, hbr⟩ := HCW.out _ hbW
        have HCK := Lib.hid (fun wx hx => tCheck_any ra rc rl wx (HRO.out.below hx))
        rw [hnr] at HCK
        clear hnr hro hb hbW cW
        by_cases hrow : rowP (OpR.os rl)
        · rw [(rowB_iff _).2 hrow, show errO true = 0 from rfl] at HCK
          have HROW := Lib.hid hrow
          have hn40 : nr ≤ 40 := by have := hrow.1; simp [OpR.os, HNR.out] at this; exact this
          clear hrow
          go_wp2_with (first
            | (go_at_call 6; refine (HCK.out _ HBW.out).mono ?_; rintro x2 w2 ⟨rfl, hb2⟩; have HB2 := Lib.hid (HB.out.trans (hb2.mono HB.out.size)); clear hb2)
            | (go_at_call 5; refine (num_same _ _).mono ?_; rintro x3 w3 ⟨rfl, rfl⟩)
            | fail)
          clear q0 hq0 cr0 hbr
          go_loopw [4, 5] (fun s4 s5 wr => ∃ (n : Nat) (al : Option Addr) (cl : Nat), s5 = .int .i64 n ∧ n ≤ nr ∧ s4 = .slice al (ordE ((OpR.os rl).take n)).length cl ∧ ElemsAt wr al (ordE ((OpR.os rl).take n)) ∧ Below w1.heap.size w1 wr) (fun _ s5 _ => nr - (RowKit.intOf s5).toNat)
          case atStart => exact ⟨0, none, 0, rfl, Nat.zero_le _, rfl, ElemsAt.nil none, HB2.out⟩
          case round =>
            clear HB2
            obtain ⟨n, al, cl, rfl, hn, rfl, hel, hb⟩ := hrel
            obtain ⟨q0, hq0, hbW⟩ := HXX.out _ hb
            obtain ⟨cr0, hbr⟩ := HCW.out _ hbW
            have HBN := Lib.hid hb
            have HBWN := Lib.hid hbW
            have HEL := Lib.hid hel
            by_cases hltn : n < nr
            · have hos : n < (OpR.os rl).length := by simp [OpR.os, HNR.out]; exact hltn
              obtain ⟨P, hst⟩ := stay_all HROW.out hos
              have hnl : n < rl.length := by rw [HNR.out]; exact hltn
              have hoo : (OpR.os rl)[n] = rl[n].o := by simp [OpR.os]
              rw [hoo] at hst
              have hor := fun wx hx => tOrder_ok ra rc (rl.take (n + 1)) wx ((HRO.out.below hx).take (n + 1)) (by rw [← os_take]; exact rowP_take HROW.out (n + 1))
              have htl : (rl.take (n + 1)).length = n + 1 := by rw [List.length_take, HNR.out]; omega
              rw [htl, ← os_take] at hor
              unfold OrdPost at hor
              have HOR := Lib.hid hor
              obtain ⟨ob, ooff, hra, hobb, o0, o1, o2, o3, o4, o5, o6, o7, o8, o9, oa⟩ := HRO.out.cells n hnl
              subst hra
              have hxl := hst.len
              have hxle := hst.le
              have hple := hst.ple
              have HOB := Lib.hid (fun wx (hx : Below W.heap.size W wx) => (HRO.out.below hx).cells n hnl)
              generalize (ordE ((OpR.os rl).take n)) = La at *
              generalize hXd : (ordE ((OpR.os rl).take (n + 1))) = X at *
              have HXE := Lib.hid hXd
              obtain ⟨nl, hnla⟩ : ∃ k, La.length = k := ⟨_, rfl⟩
              obtain ⟨nx, hnx⟩ : ∃ k, X.length = k := ⟨_, rfl⟩
              have HNL := Lib.hid hnla
              have HNX := Lib.hid hnx
              generalize rl[n] = ro at *
              clear hoo htl hor hnl hos hXd
              obtain ⟨⟨site, seq, kind, ⟨es, eq, ei⟩, text, gone, of, num, gen⟩, oA, oC⟩ := ro
              simp only at hst hxl HOB
              clear o0 o1 o2 o3 o4 o5 o6 o7 o8 o9 oa
              obtain ⟨nn, hnn⟩ : ∃ k, nR text = k := ⟨_, rfl⟩
              rw [hnn, hnx, hnla] at hxl
              rw [hnx] at hxle
              rw [hnla] at hple
              have HST := Lib.hid hst
              have HNN := Lib.hid hnn
              rw [hnla]
              rw [hnx] at HOR
              have hln : nl ≤ nx := by omega
              have hd0 : decide (nx < nl) = false := decide_eq_false (by omega)
              have HXL := Lib.hid hxl
              clear hst hnla hnx hel hb hbW hnn hxl
              go_wp2_with (first
                | (go_at_call 7; refine (HOR.out _ HBWN.out).mono ?_; rintro x4 w4 ⟨v4, rfl, hown4, hb4⟩; obtain ⟨ax, cx, hv4, hex, _⟩ := elems_own (by rw [HNX.out]; exact hown4); have HEX := Lib.hid hex; rw [HNX.out] at hv4; subst hv4; have HB4 := Lib.hid (HBN.out.trans (hb4.mono HBN.out.size)); have HEL4 := Lib.hid (HEL.out.below hb4); clear hb4 hown4 hex)
                | (go_at_call 5; refine (num_same _ _).mono ?_; rintro x3 w4 ⟨rfl, rfl⟩)
                | fail)
              clear HOR q0 hq0 cr0 hbr hd0
              go_loopw [8, 9] (fun s8 s9 wr => ∃ k : Nat, s9 = .int .i64 k ∧ k ≤ nx ∧ wr.ownsRow w4.heap.size 36 3 s8 (fil La X k).length (ecs (fil La X k)) ∧ Below w4.heap.size w4 wr) (fun _ s9 _ => nx - (RowKit.intOf s9).toNat)
              case atStart => exact ⟨0, rfl, Nat.zero_le _, World.ownsRow_nil _ _ _ _, Below.refl _ _⟩
              case round =>
                obtain ⟨k, rfl, hk, ho, hb⟩ := hrel
                have HO := Lib.hid ho
                have HBK := Lib.hid hb
                have hbz := hb.size
                by_cases hkx : k < nx
                · have hkl : k < X.length := by rw [HNX.out]; exact hkx
                  obtain ⟨b5, off5, hax, hbb5, x0, x1, x2⟩ := (HEX.out.below hb).cell k hkl
                  subst hax
                  have HAT := Lib.hid (fun wx (hx : Below w4.heap.size w4 wx) => At_any al cl La X[k] wx (HEL4.out.below hx) (by rw [HNL.out]; omega))
                  rw [HNL.out] at HAT
                  have hfs := fil_step La X k hkl
                  have hfl := fil_le La X k
                  clear ho hb
                  generalize atI La X[k] = z at *
                  generalize X[k] = x at *
                  generalize fil La X k = F at *
                  clear hkl
                  obtain ⟨xs, xq, xi⟩ := x
                  simp only at x0 x1 x2
                  unfold El.v at HAT
                  simp only at HAT
                  obtain ⟨m, hm⟩ : ∃ m, F.length = m := ⟨_, rfl⟩
                  rw [hm] at hfl HO
                  have HM := Lib.hid hm
                  clear hm
                  rcases hfs with ⟨hfs, hz⟩ | ⟨hfs, hz⟩
                  ·
                    -- @A
                    have HFS := Lib.hid hfs
                    have HM1 := Lib.hid (show m + 1 ≤ maxLen from by simp only [maxLen]; omega)
                    have HM2 := Lib.hid (show (m + 1) * 24 ≤ 140737488355328 from by omega)
                    clear hfs
                    go_wp2_with (first
                      | (go_at_call 8; refine (HAT.out wr HBK.out).mono ?_; rintro x5 w5 ⟨rfl, hb5⟩; have y0 := (hb5.cell (p := ⟨b5, off5 + k * 3, none⟩) hbb5).trans x0; have y1 := (hb5.cell (p := ⟨b5, off5 + k * 3 + 1, none⟩) hbb5).trans x1; have y2 := (hb5.cell (p := ⟨b5, off5 + k * 3 + 2, none⟩) hbb5).trans x2; have hz5 := hb5.size; have HO5 := Lib.hid (owns_belE HO.out hb5); have HB5 := Lib.hid (HBK.out.trans (hb5.mono HBK.out.size)); clear hb5)
                      | (at_builtin; refine wpList_append_own _ rfl _ _ 23 rfl w4.heap.size 36 i0 (.agg #[.int .i64 0, .int .i64 0, .int .i64 0]) 3 24 Try.underlying23 hi0 hz0 hz1 hz2 rfl (by decide) _ m _ rfl (HO5.out.alloc _) ⟨w5.heap.size, 0, none⟩ 1 1 (El.cs ⟨xs, xq, xi⟩) rfl rfl (cell_three_new _ ⟨xs, xq, xi⟩ _) (cs_one ⟨xs, xq, xi⟩) HM1.out HM2.out (by simp; omega) ?_; intro v8 w8 hown8 hgrow8 hnil8; have HB8 := Lib.hid ((HB5.out.alloc HB5.out.size _).grown hgrow8 (by have := HB5.out.size; simp; omega) (fun q hq => own_ge HO5.out q hq)); have HO8 := Lib.hid hown8; clear hown8 hgrow8 hnil8)
                      | fail)
                    go_roundw
                    case rel => exact ⟨k + 1, by go_num, by omega, by
                      rw [HFS.out, List.length_append, HM.out, ecs_append, show ecs [(⟨xs, xq, xi⟩ : El)] = El.cs ⟨xs, xq, xi⟩ from by simp [ecs]]
                      exact HO8.out, HB8.out⟩
                    case measure => simp [RowKit.intOf]; omega
                    -- @A end
                  ·
                    -- @B
                    have HFS := Lib.hid hfs
                    clear hfs
                    go_wp2_with (first
                      | (go_at_call 8; refine (HAT.out wr HBK.out).mono ?_; rintro x5 w5 ⟨rfl, hb5⟩; have HO5 := Lib.hid (owns_belE HO.out hb5); have HB5 := Lib.hid (HBK.out.trans (hb5.mono HBK.out.size)); clear hb5)
                      | fail)
                    go_roundw
                    case rel => exact ⟨k + 1, by go_num, by omega, by rw [HFS.out, HM.out]; exact HO5.out, HB5.out⟩
                    case measure => simp [RowKit.intOf]; omega
                    -- @B end
                ·
                  -- @C
                  have h0 : k = nx := by omega
                  have ho2 : wr.ownsRow w4.heap.size 36 3 u8 La.length (ecs La) := by
                    have h2 := ho
                    rw [h0, ← HNX.out, fil_all HST.out.filt] at h2
                    exact h2
                  obtain ⟨ao, co, hvo, heo, _⟩ := elems_own ho2
                  rw [HNL.out] at hvo
                  subst hvo
                  have heq := EqElems_any ao al co cl La La wr heo (HEL4.out.below hb) (by rw [HNL.out]; omega) (by rw [HNL.out]; omega)
                  rw [HNL.out, decide_eq_true (rfl : La = La)] at heq
                  have HEQ := Lib.hid heq
                  clear heq heo ho2 ho hb HO h0 hk
                  rcases text_cases text with htx | ⟨_, ht1, ht2⟩
                  · subst htx
                    go_wp2_with (first
                      | (go_at_call 9; refine HEQ.out.mono ?_; rintro x6 w6 ⟨rfl, hb6⟩; have HB6 := Lib.hid (HB4.out.trans ((HBK.out.trans (hb6.mono HBK.out.size)).mono HB4.out.size)); have HEX6 := Lib.hid (HEX.out.below (HBK.out.trans (hb6.mono HBK.out.size))); obtain ⟨q6, hq6, hbW6⟩ := HXX.out _ HB6.out; obtain ⟨cr6, hbr6⟩ := HCW.out _ hbW6; obtain ⟨b7, off7, hra7, hbb7, p0, p1, p2, p3, p4, p5, p6, p7, p8, p9, pa⟩ := HOB.out _ hbW6; cases hra7; clear hb6)
                      | fail)
                    go_roundw
                    case rel => exact ⟨n + 1, ax, cx, by go_num, by omega, by rw [HXE.out, HNX.out], by rw [HXE.out]; exact HEX6.out.below ((Below.refl _ _).alloc (Nat.le_refl _) _), HB6.out.alloc HB6.out.size _⟩
                    case measure => simp [RowKit.intOf]; omega
                  · have HXF := Lib.hid (fun (wx : World) => BoxO.new wx ⟨site, seq, kind, ⟨es, eq, ei⟩, text, gone, of, num, gen⟩ oA oC)
                    unfold OpD.obj at HXF
                    simp only at HXF
                    go_upto_region 25 with (first
                      | (go_at_call 9; refine HEQ.out.mono ?_; rintro x6 w6 ⟨rfl, hb6⟩; have HB6 := Lib.hid (HB4.out.trans ((HBK.out.trans (hb6.mono HBK.out.size)).mono HB4.out.size)); have HEX6 := Lib.hid (HEX.out.below (HBK.out.trans (hb6.mono HBK.out.size))); obtain ⟨q6, hq6, hbW6⟩ := HXX.out _ HB6.out; obtain ⟨cr6, hbr6⟩ := HCW.out _ hbW6; obtain ⟨b7, off7, hra7, hbb7, p0, p1, p2, p3, p4, p5, p6, p7, p8, p9, pa⟩ := HOB.out _ hbW6; cases hra7; clear hb6)
                      | fail)
                    clear HEQ p0 p1 p2 p3 p4 p5 p6 p7 p8 p9 pa cr6 hbr6 q6 hq6 hbW6 hbb7 ht1 ht2
                    have HX7 := Lib.hid (HXF.out w6)
                    have HB7 := Lib.hid (HB6.out.alloc HB6.out.size (.cells #[.int .i64 site, .int .i64 seq, .int .i64 kind, .int .i64 es, .int .i64 eq, .int .i64 ei, .string text, .slice oA gone.length oC, .int .i64 of, .int .i64 num, .int .i64 gen] 39))
                    have HEX7 := Lib.hid (HEX6.out.below ((Below.refl w6.heap.size w6).alloc (Nat.le_refl _) (.cells #[.int .i64 site, .int .i64 seq, .int .i64 kind, .int .i64 es, .int .i64 eq, .int .i64 ei, .string text, .slice oA gone.length oC, .int .i64 of, .int .i64 num, .int .i64 gen] 39)))
                    clear HXF HB6 HEX6
                    generalize hob : w6.heap.size = bx at *
                    generalize w6.alloc (.cells #[.int .i64 site, .int .i64 seq, .int .i64 kind, .int .i64 es, .int .i64 eq, .int .i64 ei, .string text, .slice oA gone.length oC, .int .i64 of, .int .i64 num, .int .i64 gen] 39) = w7 at *
                    clear hob
                    obtain ⟨bb, hbb⟩ : ∃ bb, decide (¬ (⟨es, eq, ei⟩ : El) = B0) = bb := ⟨_, rfl⟩
                    have HBBD := Lib.hid hbb
                    clear hbb
                    have p3 := HX7.out.c3
                    have p4 := HX7.out.c4
                    have p5 := HX7.out.c5
                    simp only at p3 p4 p5
                    go_cut [104] (fun s104 wx => s104 = .bool bb ∧ Below w7.heap.size w7 wx)
                    case first =>
                      have hsp := el_split ⟨es, eq, ei⟩ B0
                      unfold B0 at hsp
                      simp only at hsp
                      rcases hsp with ⟨hB, z0, z1, z2⟩ | ⟨hB, hz⟩
                      · have hb0 : bb = false := by rw [← HBBD.out]; exact decide_eq_false (by simpa [B0] using hB)
                        clear hB
                        subst hb0 z0 z1 z2
                        go_wp2_with fail
                        go_meet
                        exact ⟨rfl, Below.refl _ _⟩
                      · have hb0 : bb = true := by rw [← HBBD.out]; exact decide_eq_true (by simpa [B0] using hB)
                        clear hB
                        subst hb0
                        rcases hz with z0 | ⟨z0, z1⟩ | ⟨z0, z1, z2⟩
                        all_goals
                          try subst z0
                          try subst z1
                          go_wp2_with fail
                          go_meet
                          exact ⟨rfl, Below.refl _ _⟩
                    case rest =>
                      obtain ⟨rfl, hbc⟩ := hcut
                      have HBC := Lib.hid hbc
                      have p3 := (HX7.out.next hbc HX7.out.lt).c3
                      have p4 := (HX7.out.next hbc HX7.out.lt).c4
                      have p5 := (HX7.out.next hbc HX7.out.lt).c5
                      simp only at p3 p4 p5
                      clear hbc
                      go_upto_if 104 with fail
                      go_cut [11] (fun s11 wx => s11 = .int .i64 P ∧ Below w7.heap.size w7 wx)
                      case first =>
                        cases bb
                        · have hP : P = 0 := HST.out.first (by have := HBBD.out; simpa using this)
                          subst hP
                          go_wp2_with fail
                          go_meet
                          exact ⟨rfl, HBC.out⟩
                        · obtain ⟨ha1, ha2⟩ := HST.out.aft (by have := HBBD.out; simpa using this)
                          have HAT := Lib.hid (fun wx (hx : Below w7.heap.size w7 wx) => At_any ax cx X ⟨es, eq, ei⟩ wx (HEX7.out.below hx) (by rw [HNX.out]; omega))
                          rw [HNX.out] at HAT
                          unfold El.v at HAT
                          simp only at HAT
                          generalize atI X ⟨es, eq, ei⟩ = z at *
                          have HZ := Lib.hid ha1
                          have hz0' : 0 ≤ z := by omega
                          have hz1' : z ≤ 200 := by omega
                          clear ha1 ha2
                          go_wp2_with (first
                            | (go_at_call 8; refine (HAT.out _ HBC.out).mono ?_; rintro x9 w9 ⟨rfl, hb9⟩; have HB9 := Lib.hid (HBC.out.trans (hb9.mono HBC.out.size)); clear hb9)
                            | fail)
                          go_meet
                          exact ⟨by rw [HZ.out], HB9.out⟩
                      case rest =>
                        clear HBC p3 p4 p5
                        obtain ⟨rfl, hbc⟩ := hcut
                        have HBC := Lib.hid hbc
                        clear hbc
                        go_wp2_with fail
                        go_loopw [12] (fun s12 wr => ∃ k : Nat, s12 = .int .i64 k ∧ P ≤ k ∧ k ≤ P + nn ∧ Below w7.heap.size w7 wr) (fun s12 _ => P + nn - (RowKit.intOf s12).toNat)
                        case atStart => exact ⟨P, rfl, Nat.le_refl _, by omega, HBC.out⟩
                        case round =>
                          clear HBC
                          obtain ⟨k, rfl, hk1, hk2, hb⟩ := hrel
                          have hxn := HXL.out
                          have HB := Lib.hid hb
                          by_cases hkp : k < P + nn
                          · have hkx : k < nx := by omega
                            have hnew := HST.out.new (k - P) (by rw [HNN.out]; omega)
                            rw [show P + (k - P) = k from by omega] at hnew
                            obtain ⟨hkl, hxk⟩ := List.getElem?_eq_some_iff.1 hnew
                            obtain ⟨b5, off5, hax, hbb5, x0, x1, x2⟩ := (HEX7.out.below hb).cell k hkl
                            rw [hxk] at x0 x1 x2
                            simp only at x0 x1 x2
                            rw [show ((k - P : Nat) : Int) = (k : Int) - (P : Int) from by omega] at x2
                            subst hax
                            have hbx := HX7.out.next hb HX7.out.lt
                            have p0 := hbx.c0
                            have p1 := hbx.c1
                            have hpl := hbx.lt
                            simp only at p0 p1
                            have hd : (k : Int) < (P : Int) + nx - nl := by omega
                            have hw : IntKind.i64.wrap ((k : Int) - (P : Int)) = (k : Int) - (P : Int) := IntWalk.i64_in _ (by omega)
                            clear hnew hxk hbx hxn hb
                            go_wp2_with fail
                            go_quiet (fail)
                            go_wp2
                            go_roundw
                            case rel => exact ⟨k + 1, by go_num, by omega, by omega, HB.out.trans ((Same.drewN wr _).below _)⟩
                            case measure => simp [RowKit.intOf]; omega
                          · have h0 : k = P + nn := by omega
                            have hd : decide ((k : Int) < (P : Int) + nx - nl) = false := decide_eq_false (by omega)
                            have HEXR := Lib.hid (HEX7.out.below hb)
                            have HBR := Lib.hid (HB7.out.trans (hb.mono HB7.out.size))
                            clear h0 hxn hb
                            go_wp2_with fail
                            go_roundw
                            case rel => exact ⟨n + 1, ax, cx, by go_num, by omega, by rw [HXE.out, HNX.out], by rw [HXE.out]; exact HEXR.out, HBR.out⟩
                            case measure => simp [RowKit.intOf]; omega
                  -- @C end
            · have h0 : n = nr := by omega
              clear hel hb hbW
              go_wp2_with fail
              go_roundw
              case rel => exact ⟨i + 1, by go_num, by omega, HBN.out⟩
              case measure => simp [RowKit.intOf]; omega
        · rw [rowB_no hrow, show errO false = 1 from rfl] at HCK
          clear hrow
          go_wp2_with (first
            | (go_at_call 6; refine (HCK.out _ HBW.out).mono ?_; rintro x2 w2 ⟨rfl, hb2⟩; have HB2 := Lib.hid (HB.out.trans (hb2.mono HB.out.size)); clear hb2)
            | (go_at_call 5; refine (num_same _ _).mono ?_; rintro x3 w3 ⟨rfl, rfl⟩)
            | fail)
          go_roundw
          case rel => exact ⟨i + 1, by go_num, by omega, HB2.out⟩
          case measure => simp [RowKit.intOf]; omega
      · have hd : decide ((i : Int) < 4) = false := decide_eq_false h4
        clear hb hbW
        go_wp2_with (first | (go_at_call 10; refine (HWK.out wr).mono ?_; rintro x9 w9 ⟨rfl, hb9⟩; have HB9 := Lib.hid (HBW.out.trans (hb9.mono HBW.out.size)); clear hb9) | fail)
        go_ret
        exact ⟨rfl, HB9.out⟩
    · have h0 : i = n0 := by omega
      clear hb hbW
      go_wp2_with (first | (go_at_call 10; refine (HWK.out wr).mono ?_; rintro x9 w9 ⟨rfl, hb9⟩; have HB9 := Lib.hid (HBW.out.trans (hb9.mono HBW.out.size)); clear hb9) | fail)
      go_ret
      exact ⟨rfl, HB9.out⟩
end Go.Proofs.Ytbalcamjccfkdaa
