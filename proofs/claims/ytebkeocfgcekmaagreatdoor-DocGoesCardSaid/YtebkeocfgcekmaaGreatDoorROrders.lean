/- lectionaryref4.Under -/
import Derived.Test.YtebkeocfgcekmaaGreatDoorRGo
import Derived.Test.YtebkeocfgcekmaaGreatDoorTPages
import Derived.Test.YtebkeocfgcekmaaGreatDoorTUnders
import Derived.Deep.AppendLies
import Derived.Deep.LoopGhost
namespace Go.Proofs.YtebkeocfgcekmaaGreatDoor
open Go.RowKit Go.Lib Go.Sort

theorem up_len (e : El) (L : List OpD) : (up e L).length ≤ L.length := by
  induction L with
  | nil => exact Nat.le_refl _
  | cons o r ih =>
    rw [up, List.length_append, List.length_cons]
    have : (if o.text = ⟨#[]⟩ then ([] : List El) else if o.after = e then [⟨o.site, o.seq, 0⟩] else []).length ≤ 1 := by
      split
      · simp
      · split <;> simp
    omega
theorem up_step {l : List OpR} {j : Nat} (hj : j < l.length) (e : El) : up e ((OpR.os l).drop j) = up e ((OpR.os l).drop (j + 1)) ++ (if l[j].o.text = ⟨#[]⟩ then [] else if l[j].o.after = e then [⟨l[j].o.site, l[j].o.seq, 0⟩] else []) := by
  rw [List.drop_eq_getElem_cons (by rw [os_len]; exact hj), up]
  simp [OpR.os]
theorem same_drew (w : World) : Same w w.drew := ⟨rfl, rfl, rfl, rfl⟩
def mOf : Value → Nat
  | .slice _ n _ => n
  | _ => 0
theorem own_form {w : World} {base : Nat} {v : Value} {n : Nat} {xs : List Value} {t : TypeId} {size : Nat} (h : w.ownsRow base t size v n xs) : ∃ a c, v = .slice a n c := by
  rcases h.2 with ⟨hv, h0⟩ | ⟨g, cap, cur, hv, _⟩
  · exact ⟨none, 0, by rw [hv, h0]⟩
  · exact ⟨_, cap, hv⟩
set_option maxRecDepth 100000 in
set_option maxHeartbeats 8000000 in
theorem rUnder_any (a : Option Addr) (cap : Nat) (l : List OpR) (e : El) (w : World) (hT : Tabs w) (hsz : Szs l) (h : OpsAt w a l) (hl : l.length ≤ 1000) (hi0 : 0 ≤ e.i) (hi1 : e.i ≤ 1000) : Calls Tryz.prog 67 #[.slice a l.length cap, e.v] w (OwnPost (undP (OpR.os l) e) w) := by
  obtain ⟨i0, hq0, hz0, hz1, hz2⟩ := info_parts Tryz.infoElem
  have HX := Lib.hid (BoxE.new w e)
  have HB0 : RowKit.Hid (Below w.heap.size w (w.alloc (.cells #[.int .i64 e.s, .int .i64 e.q, .int .i64 e.i] 44))) := Lib.hid ((Below.refl _ _).alloc (Nat.le_refl _) _)
  have HBG := Lib.hid (fun wx => Begin_any e wx)
  have HWR := Lib.hid (fun wx (hx : Below w.heap.size w wx) => rWritten_any a cap l ⟨e.s, e.q, e.i + 1⟩ wx (hT.next hx) hsz (h.below hx))
  have HUL := Lib.hid (fun k => Nat.le_trans (up_len e ((OpR.os l).drop k)) (by rw [List.length_drop, os_len]; omega : _ ≤ 1000))
  have HUS := Lib.hid (fun j (hj : j < l.length) => up_step hj e)
  have HH := Lib.hid h
  have HPB := Lib.hid (show e.begin = true → undP (OpR.os l) e = up e (OpR.os l) from fun hb => by unfold undP nextP; rw [hb]; simp)
  have HPN := Lib.hid (show e.begin = false → undP (OpR.os l) e = up e (OpR.os l) ++ (if wrt (OpR.os l) ⟨e.s, e.q, e.i + 1⟩ then [⟨e.s, e.q, e.i + 1⟩] else []) from fun hb => by unfold undP nextP; rw [hb]; simp)
  obtain ⟨n, hn⟩ : ∃ n, l.length = n := ⟨_, rfl⟩
  have HN := Lib.hid hn
  have HUE := Lib.hid (show (OpR.os l).drop n = [] from List.drop_eq_nil_of_le (by rw [os_len]; omega))
  rw [hn] at HWR hl ⊢
  clear h hT hsz hn
  have hni : (n : Int) ≤ 1000 := by omega
  generalize undP (OpR.os l) e = res at *
  generalize wrt (OpR.os l) ⟨e.s, e.q, e.i + 1⟩ = wn at *
  generalize hbg : e.begin = bg at *
  have HBB := Lib.hid hbg
  clear hbg
  obtain ⟨s, q, i⟩ := e
  unfold El.v at HBG HWR ⊢
  simp only at HX HB0 HBG HWR HPB HPN hi0 hi1 ⊢
  have hwi : IntKind.i64.wrap (i + 1) = i + 1 := IntWalk.i64_in _ (by omega)
  go_enter Tryz.func67, Tryz.ntmps67
  go_wp2_with fail
  go_loopw [5, 6] (fun s5 s6 wr => ∃ k : Nat, s6 = .int .i64 ((k : Int) - 1) ∧ k ≤ n ∧ wr.ownsRow (w.heap.size + 1) 44 3 s5 (up ⟨s, q, i⟩ ((OpR.os l).drop k)).length (ecs (up ⟨s, q, i⟩ ((OpR.os l).drop k))) ∧ Below w.heap.size w wr ∧ BoxE wr w.heap.size ⟨s, q, i⟩) (fun _ s6 _ => (RowKit.intOf s6 + 1).toNat)
  case atStart => exact ⟨n, rfl, Nat.le_refl _, by rw [HUE.out]; exact World.ownsRow_nil _ _ _ _, HB0.out, HX.out⟩
  case round =>
    clear HX HB0
    obtain ⟨k, rfl, hk, ho, hb, hbx⟩ := hrel
    have HO := Lib.hid ho
    have HB := Lib.hid hb
    have HBX := Lib.hid hbx
    by_cases hk0 : 0 < k
    · obtain ⟨j, rfl⟩ : ∃ j, k = j + 1 := ⟨k - 1, by omega⟩
      rw [show ((j + 1 : Nat) : Int) - 1 = (j : Int) from by omega]
      have hjl : j < l.length := by rw [HN.out]; omega
      have hjn : j < n := by omega
      obtain ⟨b, off, rfl, hbb, c0, c1, c2, c3, c4, c5, c6, -⟩ := (HH.out.below hb).cells j hjl
      have HUJ := Lib.hid (HUS.out j hjl)
      have hul := HUL.out (j + 1)
      have y0 := hbx.c0
      have y1 := hbx.c1
      have y2 := hbx.c2
      have hyl := hbx.lt
      generalize up ⟨s, q, i⟩ ((OpR.os l).drop (j + 1)) = U at *
      have hsp := el_split l[j].o.after ⟨s, q, i⟩
      have htc := text_cases l[j].o.text
      generalize l[j] = r at *
      obtain ⟨⟨site, seq, kind, ⟨es, eq, ei⟩, text, gone, of, num, gen⟩, ra, rc⟩ := r
      simp only at c0 c1 c2 c3 c4 c5 c6 y0 y1 y2 hsp htc HUJ
      obtain ⟨m, hm⟩ : ∃ m, U.length = m := ⟨_, rfl⟩
      have HM := Lib.hid hm
      rw [hm] at HO hul
      clear hk0 ho hb hbx hjl hm
      rcases htc with rfl | ⟨_, ht1, ht2⟩
      · have HU2 := Lib.hid (show up ⟨s, q, i⟩ ((OpR.os l).drop j) = U from by rw [HUJ.out, if_pos rfl, List.append_nil])
        clear hsp
        go_wp2_with fail
        go_quiet (fail)
        go_wp2
        go_roundw
        case rel => exact ⟨j, rfl, by omega, by rw [HU2.out, HM.out]; exact (Same.drewN wr _).owns HO.out, HB.out.trans ((Same.drewN wr _).below _), HBX.out.next ((Same.drewN wr _).below wr.heap.size) HBX.out.lt⟩
        case measure => simp [RowKit.intOf] <;> omega
      · have htn : ¬ text = ⟨#[]⟩ := fun h => ht1 ((toList_nil_iff_emptyBytes text).2 h)
        have HTN := Lib.hid htn
        clear htn
        rcases hsp with ⟨he, z0, z1, z2⟩ | ⟨hne, hz⟩
        · have HU2 := Lib.hid (show up ⟨s, q, i⟩ ((OpR.os l).drop j) = U ++ [⟨site, seq, 0⟩] from by rw [HUJ.out, if_neg HTN.out, if_pos he])
          clear he
          have HM1 := Lib.hid (show m + 1 ≤ maxLen from by simp only [maxLen]; omega)
          have HM2 := Lib.hid (show (m + 1) * 24 ≤ 140737488355328 from by omega)
          obtain ⟨av, cv, hv⟩ := own_form HO.out
          subst z0 z1 z2 hv
          go_wp2_with fail
          go_quiet (fail)
          have HOV := Lib.hid ((Same.drewN wr nq).owns HO.out)
          have HBV := Lib.hid (HB.out.trans ((Same.drewN wr nq).below wr.heap.size |>.mono HB.out.size))
          have HBXV := Lib.hid (HBX.out.next ((Same.drewN wr nq).below wr.heap.size) HBX.out.lt)
          have d0 := ((Same.drewN wr nq).cell ⟨b, off + j * 11, none⟩).trans c0
          have d1 := ((Same.drewN wr nq).cell ⟨b, off + j * 11 + 1, none⟩).trans c1
          have hbv : b < (wr.drewN nq).heap.size := hbb
          clear c0 c1 c2 c3 c4 c5 c6 y0 y1 y2 hyl hbb
          generalize wr.drewN nq = wv at *
          have HOD := Lib.hid ((same_drew wv).owns HOV.out)
          go_wp2_with fail
          go_region_law (first
            | (refine step_append_lies _ (by rfl) _ _ _ (by rfl) (w.heap.size + 1) 44 i0 (.agg #[.int .i64 0, .int .i64 0, .int .i64 0]) 3 24 Tryz.underlying23 hq0 hz0 hz1 hz2 (by rfl) (by decide) (.slice av m cv) m _ (by rfl) (HOD.out.alloc _) ⟨wv.heap.size, 0, none⟩ 1 1 (El.cs ⟨site, seq, 0⟩) (by rfl) (by rfl) (cell_three_new wv.drew ⟨site, seq, 0⟩ _) (cs_one ⟨site, seq, 0⟩) (by omega) HM1.out HM2.out (by have := HBXV.out.lt; simp; omega) _ rfl ?_; intro g8 cap8 w8 hown8 hgrow8 hat8 hlt8; have HO8 := Lib.hid hown8; have HB8 := Lib.hid (((HBV.out.trans ((same_drew wv).below w.heap.size)).alloc HBV.out.size _).grown hgrow8 (by have := HBV.out.size; simp; omega) (fun q hq => by have := own_ge HOD.out q hq; omega)); have HBX8 := Lib.hid (HBXV.out.next ((((same_drew wv).below (w.heap.size + 1)).alloc (by have := HBXV.out.lt; exact this) _).grown hgrow8 (by have := HBXV.out.lt; simp; omega) (fun q hq => own_ge HOD.out q hq)) (Nat.lt_succ_self _)); clear hown8 hgrow8 hat8 hlt8)
            | fail)
          all_goals
            go_wp2_with fail
            go_roundw
            case rel => exact ⟨j, rfl, by omega, by
              rw [HU2.out, List.length_append, HM.out, ecs_append, show ecs [(⟨site, seq, 0⟩ : El)] = El.cs ⟨site, seq, 0⟩ from by simp [ecs]]
              exact HO8.out, HB8.out, HBX8.out⟩
            case measure => simp [RowKit.intOf] <;> omega
        · have HU2 := Lib.hid (show up ⟨s, q, i⟩ ((OpR.os l).drop j) = U from by rw [HUJ.out, if_neg HTN.out, if_neg hne, List.append_nil])
          clear hne
          rcases hz with z0 | ⟨z0, z1⟩ | ⟨z0, z1, z2⟩
          all_goals
            try subst z0
            try subst z1
            go_wp2_with fail
            go_quiet (fail)
            go_wp2
            go_roundw
            case rel => exact ⟨j, rfl, by omega, by rw [HU2.out, HM.out]; exact (Same.drewN wr _).owns HO.out, HB.out.trans ((Same.drewN wr _).below _), HBX.out.next ((Same.drewN wr _).below wr.heap.size) HBX.out.lt⟩
            case measure => simp [RowKit.intOf] <;> omega
    · have h0 : k = 0 := by omega
      subst h0
      rw [List.drop_zero] at ho
      have hul := HUL.out 0
      rw [List.drop_zero] at hul
      have y0 := hbx.c0
      have y1 := hbx.c1
      have y2 := hbx.c2
      have hyl := hbx.lt
      simp only at y0 y1 y2
      have HOU := Lib.hid ho
      clear HO HUS HUL
      generalize up ⟨s, q, i⟩ (OpR.os l) = U at *
      obtain ⟨m, hm⟩ : ∃ m, U.length = m := ⟨_, rfl⟩
      have HM := Lib.hid hm
      rw [hm] at HOU hul
      rw [show ((0 : Nat) : Int) - 1 = -1 from rfl]
      clear ho hb hbx hm hk0
      cases bg
      · have HRES := Lib.hid (HPN.out rfl)
        clear HPB HPN HBB
        cases wn
        · have HR2 := Lib.hid (HRES.out.trans (show U ++ (if false = true then [(⟨s, q, i + 1⟩ : El)] else []) = U from by simp))
          clear HRES
          go_wp2_with (first
            | (go_at_call 52; refine (HBG.out _).mono ?_; rintro x1 w1 ⟨rfl, hb1⟩; have HB1 := Lib.hid (HB.out.trans (hb1.mono HB.out.size)); have HO1 := Lib.hid (owns_belE HOU.out hb1); have hx1 := HBX.out.step hb1; have z0 := hx1.c0; have z1 := hx1.c1; have z2 := hx1.c2; have hzl := hx1.lt; simp only at z0 z1 z2; clear hb1 hx1)
            | (go_at_call 53; refine (HWR.out _ (HB1.out.alloc HB1.out.size _)).mono ?_; rintro x2 w2 ⟨rfl, hb2⟩; have HB2 := Lib.hid ((HB1.out.alloc HB1.out.size _).trans (hb2.mono (by have := HB1.out.size; simp; omega))); have HO2 := Lib.hid (owns_belE (HO1.out.alloc _) hb2); clear hb2)
            | fail)
          go_ret
          exact ⟨_, rfl, by rw [HR2.out, HM.out]; exact owns_base HO2.out (by omega), HB2.out⟩
        · have HR2 := Lib.hid (HRES.out.trans (show U ++ (if true = true then [(⟨s, q, i + 1⟩ : El)] else []) = U ++ [⟨s, q, i + 1⟩] from by simp))
          have HM1 := Lib.hid (show m + 1 ≤ maxLen from by simp only [maxLen]; omega)
          have HM2 := Lib.hid (show (m + 1) * 24 ≤ 140737488355328 from by omega)
          clear HRES
          go_wp2_with (first
            | (go_at_call 52; refine (HBG.out _).mono ?_; rintro x1 w1 ⟨rfl, hb1⟩; have HB1 := Lib.hid (HB.out.trans (hb1.mono HB.out.size)); have HO1 := Lib.hid (owns_belE HOU.out hb1); have hx1 := HBX.out.step hb1; have z0 := hx1.c0; have z1 := hx1.c1; have z2 := hx1.c2; have hzl := hx1.lt; simp only at z0 z1 z2; clear hb1 hx1)
            | (go_at_call 53; refine (HWR.out _ (HB1.out.alloc HB1.out.size _)).mono ?_; rintro x2 w2 ⟨rfl, hb2⟩; have HB2 := Lib.hid ((HB1.out.alloc HB1.out.size _).trans (hb2.mono (by have := HB1.out.size; simp; omega))); have HO2 := Lib.hid (owns_belE (HO1.out.alloc _) hb2); have hbn := (BoxE.new w1 ⟨s, q, i + 1⟩).step hb2; have n0 := hbn.c0; have n1 := hbn.c1; have n2 := hbn.c2; have hnl := hbn.lt; simp only at n0 n1 n2; clear hb2 hbn)
            | (at_builtin; refine wpList_append_own _ rfl _ _ 23 rfl (w.heap.size + 1) 44 i0 (.agg #[.int .i64 0, .int .i64 0, .int .i64 0]) 3 24 Tryz.underlying23 hq0 hz0 hz1 hz2 rfl (by decide) _ m _ rfl (HO2.out.alloc _) ⟨w2.heap.size, 0, none⟩ 1 1 (El.cs ⟨s, q, i + 1⟩) rfl rfl (cell_three_new _ ⟨s, q, i + 1⟩ _) (cs_one ⟨s, q, i + 1⟩) HM1.out HM2.out (by have := HB1.out.size; simp; omega) ?_; intro v8 w8 hown8 hgrow8 hnil8; have HB8 := Lib.hid ((HB2.out.alloc HB2.out.size _).grown hgrow8 (by have := HB2.out.size; simp; omega) (fun q hq => by have := own_ge HO2.out q hq; omega)); have HO8 := Lib.hid hown8; clear hown8 hgrow8 hnil8)
            | fail)
          go_ret
          exact ⟨_, rfl, by
            rw [HR2.out, List.length_append, HM.out, ecs_append, show ecs [(⟨s, q, i + 1⟩ : El)] = El.cs ⟨s, q, i + 1⟩ from by simp [ecs]]
            exact owns_base HO8.out (by omega), HB8.out⟩
      · have HRES := Lib.hid (HPB.out rfl)
        clear HPB HPN HBB
        go_wp2_with (first
          | (go_at_call 52; refine (HBG.out _).mono ?_; rintro x1 w1 ⟨rfl, hb1⟩; have HB1 := Lib.hid (HB.out.trans (hb1.mono HB.out.size)); have HO1 := Lib.hid (owns_belE HOU.out hb1); clear hb1)
          | fail)
        go_ret
        exact ⟨_, rfl, by rw [HRES.out, HM.out]; exact owns_base HO1.out (by omega), HB1.out⟩
end Go.Proofs.YtebkeocfgcekmaaGreatDoor
/- lectionaryref4.Order: a search in depth -/
namespace Go.Proofs.YtebkeocfgcekmaaGreatDoor
open Go.RowKit Go.Lib Go.Sort

/-- what was told, X, and what is to come, T, the next one last; so many rounds at most are left -/
def Lg (D : List Tn) (g : Nat) (X T : List El) : Prop := (g = D.length + 1 ∧ X = [] ∧ T = [B0]) ∨ ∃ m, m ≤ D.length ∧ g = D.length - m ∧ X = (D.take m).map (fun u => u.nd.e) ∧ T = ((fr D m).map Nd.e).reverse
theorem lg_len {D : List Tn} {g : Nat} {X T : List El} (h : Lg D g X T) : X.length ≤ D.length ∧ T.length ≤ D.length + 1 := by
  rcases h with ⟨_, rfl, rfl⟩ | ⟨m, hm, _, rfl, rfl⟩
  · simp
  · rw [List.length_map, List.length_take, List.length_reverse, List.length_map]
    have := fr_length D m
    omega
theorem lg_end {D : List Tn} (hD : TOrd D) {g : Nat} {X : List El} (h : Lg D g X []) : X = D.map (fun u => u.nd.e) := by
  rcases h with ⟨_, _, h⟩ | ⟨m, hm, _, rfl, h⟩
  · cases h
  · have h2 : fr D m = [] := by
      have := List.reverse_eq_nil_iff.1 h.symm
      exact List.map_eq_nil_iff.1 this
    by_cases hlt : m < D.length
    · have := fr_pos hD hlt
      rw [h2] at this
      exact absurd this (by simp)
    · rw [List.take_of_length_le (by omega)]
theorem lg_step {l : List OpD} (hr : rowP l) {g : Nat} {X T : List El} (h : Lg (ordT l) g X T) (hT : T ≠ []) : ∃ T' e g', T = T' ++ [e] ∧ g' < g ∧ (e = B0 ∨ e ∈ ordE l) ∧ Lg (ordT l) g' (if e.begin then X else X ++ [e]) (T' ++ (unE l e).reverse) ∧ 0 ≤ e.i ∧ e.i ≤ 1000 := by
  have hinv := row_inv hr.2 l.length (Nat.le_refl _)
  rw [List.take_length] at hinv
  have hpar := row_parOp hr.2 l.length (Nat.le_refl _)
  rw [List.take_length] at hpar
  rcases h with ⟨rfl, rfl, rfl⟩ | ⟨m, hm, rfl, rfl, rfl⟩
  · refine ⟨[], B0, (ordT l).length, rfl, Nat.lt_succ_self _, .inl rfl, .inr ⟨0, Nat.zero_le _, rfl, ?_, ?_⟩, by simp [B0], by simp [B0]⟩
    · simp [B0, El.begin]
    · unfold unE
      rw [fr_start, List.nil_append]
  · have hne : fr (ordT l) m ≠ [] := fun h0 => hT (by rw [h0]; rfl)
    have hlt : m < (ordT l).length := by
      by_cases h2 : m < (ordT l).length
      · exact h2
      · exact absurd (fr_end (by omega)) hne
    have ht : (ordT l)[m]? = some (ordT l)[m] := List.getElem?_eq_getElem hlt
    obtain ⟨R, h1, h2⟩ := fr_next hinv.ord hpar ht
    have hnb := hinv.ord.nob m _ ht
    have hbf : ((ordT l)[m]).nd.e.begin = false := by
      cases hb : ((ordT l)[m]).nd.e.begin with
      | false => rfl
      | true => exact absurd ((begin_iff _).1 hb) hnb
    obtain ⟨hi0, c, hed, hic⟩ := (hinv.mem ((ordT l)[m]).nd.e).1 ⟨m, _, ht, rfl⟩
    have hc12 := (hinv.edk _ _ hed).2.2.2.2.2
    refine ⟨(R.map Nd.e).reverse, ((ordT l)[m]).nd.e, (ordT l).length - (m + 1), ?_, by omega, .inr (List.mem_map.2 ⟨_, List.mem_of_getElem? ht, rfl⟩), .inr ⟨m + 1, by omega, rfl, ?_, ?_⟩, hi0, by omega⟩
    · rw [h1]; simp
    · have h5 : ((ordT l).take (m + 1)).map (fun u => u.nd.e) = ((ordT l).take m).map (fun u => u.nd.e) ++ [((ordT l)[m]).nd.e] := by
        rw [List.take_succ_eq_append_getElem hlt, List.map_append]
        rfl
      rw [hbf, h5]
      rfl
    · unfold unE
      rw [h2, List.map_append, List.reverse_append]

/-- nothing has turned but row r's block -/
structure Kp (r : Option Nat) (w w' : World) : Prop where
  os : w'.os = w.os
  tape : w'.tape = w.tape
  output : w'.output = w.output
  size : w.heap.size ≤ w'.heap.size
  block : ∀ k, k < w.heap.size → some k ≠ r → w'.heap[k]? = w.heap[k]?
theorem Kp.refl (r : Option Nat) (w : World) : Kp r w w := ⟨rfl, rfl, rfl, Nat.le_refl _, fun _ _ _ => rfl⟩
theorem Kp.step {r : Option Nat} {w wr w8 : World} {b : Option Nat} {o : Obj} (h : Kp r w wr) (hn : NewRow w r b) (hg : (wr.alloc o).grownBy w8 b) : Kp r w w8 := by
  have hs : (wr.alloc o).heap.size = wr.heap.size + 1 := by simp
  have hsz := hg.size
  have h1 := h.size
  refine ⟨hg.os.trans h.os, hg.tape.trans h.tape, hg.output.trans h.output, by omega, fun k hk hr => ?_⟩
  have hkb : some k ≠ b := by
    rcases hn with e | ⟨g, e, hge⟩
    · rw [e]; exact hr
    · rw [e]; intro e2; cases e2; omega
  rw [hg.block k (by omega) hkb, heap_alloc_old _ _ (by omega)]
  exact h.block k hk hr
theorem Kp.owns {r : Option Nat} {w w' : World} (h : Kp r w w') {base : Nat} {t : TypeId} {size : Nat} {v : Value} {n : Nat} {xs : List Value} (ho : w.ownsRow base t size v n xs) (hne : v.ownBlock = none ∨ v.ownBlock ≠ r) : w'.ownsRow base t size v n xs := by
  refine ⟨ho.1, ?_⟩
  rcases ho.2 with h2 | ⟨g, cap, cur, hv, hg, hh, rest⟩
  · exact .inl h2
  · refine .inr ⟨g, cap, cur, hv, hg, ?_, rest⟩
    have hob : v.ownBlock = some g := by rw [hv]; rfl
    rw [h.block g (Array.getElem?_eq_some_iff.1 hh).1 (by
      rcases hne with e | e
      · rw [hob] at e; cases e
      · rw [hob] at e; exact e)]
    exact hh
theorem BoxE.kp {w w' : World} {b : Nat} {e : El} {r : Option Nat} (h : BoxE w b e) (hk : Kp r w w') (hne : some b ≠ r) : BoxE w' b e := by
  have hb := hk.block b h.lt hne
  have hc : ∀ o, w'.cell? ⟨b, o, none⟩ = w.cell? ⟨b, o, none⟩ := fun o => by unfold World.cell?; simp only [hb]
  exact ⟨Nat.lt_of_lt_of_le h.lt hk.size, (hc 0).trans h.c0, (hc 1).trans h.c1, (hc 2).trans h.c2⟩
theorem new_row {w wr : World} {r b b8 : Option Nat} {o : Obj} (hn : NewRow w r b) (hs : w.heap.size ≤ wr.heap.size) (hat : b8 = b ∨ b8 = some (wr.alloc o).heap.size) : NewRow w r b8 := by
  rcases hat with e | e
  · rw [e]; exact hn
  · exact .inr ⟨_, e, by simp; omega⟩
theorem owns_cut3 {w : World} {base g n cap k : Nat} {t : TypeId} {xs : List Value} (h : w.ownsRow base t 3 (.slice (some ⟨g, 0, none⟩) n cap) n xs) (hk : k ≤ n) : w.ownsRow base t 3 (.slice (some ⟨g, 0, none⟩) k cap) k (xs.take (k * 3)) := by
  obtain ⟨hl, h2⟩ := h
  rcases h2 with ⟨hv, _⟩ | ⟨g2, cap2, cur, hv, hb, hg, hc, hcm, hcs, ht⟩
  · cases hv
  · simp only [Value.slice.injEq, Option.some.injEq, Addr.mk.injEq] at hv
    obtain ⟨⟨rfl, _, _⟩, _, rfl⟩ := hv
    refine ⟨by rw [List.length_take]; omega, .inr ⟨g, cap, cur, rfl, hb, hg, by omega, hcm, hcs, ?_⟩⟩
    rw [← ht, List.take_take, Nat.min_eq_left (by omega)]
/-- the two rows, of what was told and of what is to come -/
structure OSt (w wr : World) (X T : List El) (xv tv : Value) : Prop where
  x : wr.ownsRow w.heap.size 44 3 xv X.length (ecs X)
  t : wr.ownsRow w.heap.size 44 3 tv T.length (ecs T)
  ne : xv.ownBlock = none ∨ xv.ownBlock ≠ tv.ownBlock
  below : Below w.heap.size w wr
theorem OSt.step {w wr w2 : World} {X T : List El} {xv tv : Value} (h : OSt w wr X T xv tv) (hb : Below wr.heap.size wr w2) : OSt w w2 X T xv tv :=
  ⟨owns_belE h.x hb, owns_belE h.t hb, h.ne, h.below.trans (hb.mono h.below.size)⟩
theorem OSt.told {w wr w8 : World} {X T : List El} {xv tv v8 : Value} {e : El} {o : Obj} (h : OSt w wr X T xv tv) (ho : w8.ownsRow w.heap.size 44 3 v8 (X.length + 1) (ecs X ++ El.cs e)) (hg : (wr.alloc o).grownBy w8 xv.ownBlock) (hat : v8.ownBlock = xv.ownBlock ∨ v8.ownBlock = some (wr.alloc o).heap.size) : OSt w w8 (X ++ [e]) T v8 tv := by
  have hkp := (Kp.refl xv.ownBlock wr).step (.inl rfl) hg
  have hne : tv.ownBlock = none ∨ tv.ownBlock ≠ xv.ownBlock := by
    rcases h.ne with e1 | e1
    · by_cases ht : tv.ownBlock = none
      · exact .inl ht
      · exact .inr (by rw [e1]; exact ht)
    · exact .inr (Ne.symm e1)
  refine ⟨?_, hkp.owns h.t hne, ?_, ?_⟩
  · rw [List.length_append, ecs_append, show ecs [e] = El.cs e from by simp [ecs]]
    exact ho
  · rcases hat with e1 | e1
    · rw [e1]; exact h.ne
    · right
      rw [e1]
      intro e2
      have := (h.t.lt _ e2.symm).2
      simp at this
      omega
  · exact (h.below.alloc h.below.size _).grown hg (by have := h.below.size; simp; omega) (fun q hq => own_ge h.x q hq)
theorem own_pos {w : World} {base : Nat} {v : Value} {n : Nat} {xs : List Value} {t : TypeId} {size : Nat} (h : w.ownsRow base t size v n xs) (hn : 0 < n) : ∃ g c, v = .slice (some ⟨g, 0, none⟩) n c ∧ base ≤ g ∧ g < w.heap.size ∧ n ≤ c := by
  rcases h.2 with ⟨hv, h0⟩ | ⟨g, cap, cur, hv, hb, hh, hc, _⟩
  · omega
  · exact ⟨g, cap, hv, hb, (Array.getElem?_eq_some_iff.1 hh).1, hc⟩
/-- the last one is read; the row without it -/
theorem OSt.pop {w wr : World} {X T' : List El} {e : El} {xv : Value} {g c nt : Nat} (h : OSt w wr X (T' ++ [e]) xv (.slice (some ⟨g, 0, none⟩) (nt + 1) c)) (hn : T'.length = nt) (o : Obj) :
    (wr.cell? ⟨g, nt * 3, none⟩ = some (.int .i64 e.s) ∧ wr.cell? ⟨g, nt * 3 + 1, none⟩ = some (.int .i64 e.q) ∧ wr.cell? ⟨g, nt * 3 + 2, none⟩ = some (.int .i64 e.i)) ∧ OSt w (wr.alloc o) X T' xv (.slice (some ⟨g, 0, none⟩) nt c) := by
  have hlen : (T' ++ [e]).length = nt + 1 := by simp [hn]
  have ht := h.t
  rw [hlen] at ht
  have hget : (T' ++ [e])[nt]'(by omega) = e := by
    rw [List.getElem_append_right (by omega)]
    simp
  refine ⟨⟨?_, ?_, ?_⟩, owns_belE h.x ((Below.refl _ _).alloc (Nat.le_refl _) _), ?_, h.ne, h.below.alloc h.below.size _⟩
  · rw [ht.cellAt (nt * 3) (by omega)]
    have := ecs_get (T' ++ [e]) nt 0 (by omega) (by decide)
    rw [hget] at this
    exact this
  · rw [ht.cellAt (nt * 3 + 1) (by omega)]
    have := ecs_get (T' ++ [e]) nt 1 (by omega) (by decide)
    rw [hget] at this
    exact this
  · rw [ht.cellAt (nt * 3 + 2) (by omega)]
    have := ecs_get (T' ++ [e]) nt 2 (by omega) (by decide)
    rw [hget] at this
    exact this
  · have h2 := owns_cut3 ht (Nat.le_succ nt)
    rw [ecs_take, List.take_append_of_le_length (by omega), List.take_of_length_le (by omega)] at h2
    rw [hn]
    exact owns_belE h2 ((Below.refl _ _).alloc (Nat.le_refl _) _)
/-- the inner loop: behind it k of u's are left to be laid -/
structure ISt2 (w w5 wy : World) (gb nt nk k : Nat) (T' K : List El) (tv : Value) : Prop where
  t : wy.ownsRow w.heap.size 44 3 tv (nt + (nk - k)) (ecs (T' ++ (K.drop k).reverse))
  kp : Kp (some gb) w5 wy
  nr : NewRow w5 (some gb) tv.ownBlock
  below : Below w.heap.size w wy
theorem ISt2.next {w w5 wy w8 : World} {gb nt nk j : Nat} {T' K : List El} {tv v8 : Value} {o : Obj} {x : El} (h : ISt2 w w5 wy gb nt nk (j + 1) T' K tv) (hj : K[j]? = some x) (hk : K.length = nk)
    (ho : w8.ownsRow w.heap.size 44 3 v8 (nt + (nk - (j + 1)) + 1) (ecs (T' ++ (K.drop (j + 1)).reverse) ++ El.cs x)) (hg : (wy.alloc o).grownBy w8 tv.ownBlock) (hat : v8.ownBlock = tv.ownBlock ∨ v8.ownBlock = some (wy.alloc o).heap.size) : ISt2 w w5 w8 gb nt nk j T' K v8 := by
  obtain ⟨h1, h2⟩ := List.getElem?_eq_some_iff.1 hj
  have hd : (K.drop j).reverse = (K.drop (j + 1)).reverse ++ [x] := by
    rw [List.drop_eq_getElem_cons h1, List.reverse_cons, h2]
  refine ⟨?_, h.kp.step h.nr hg, new_row h.nr h.kp.size hat, (h.below.alloc h.below.size _).grown hg (by have := h.below.size; simp; omega) (fun q hq => own_ge h.t q hq)⟩
  rw [hd, ← List.append_assoc, ecs_append, show ecs [x] = El.cs x from by simp [ecs], show nt + (nk - j) = nt + (nk - (j + 1)) + 1 from by omega]
  exact ho
theorem ISt2.fin {w w3 w5 wy : World} {gb nt nk ct : Nat} {T' K X : List El} {xv tv : Value} (h : ISt2 w w5 wy gb nt nk 0 T' K tv) (hs : OSt w w3 X T' xv (.slice (some ⟨gb, 0, none⟩) nt ct)) (hb : Below w3.heap.size w3 w5) (hk : K.length = nk) (hn : T'.length = nt) : OSt w wy X (T' ++ K.reverse) xv tv := by
  have hx5 := owns_belE hs.x hb
  have hne : xv.ownBlock = none ∨ xv.ownBlock ≠ some gb := hs.ne
  refine ⟨h.kp.owns hx5 hne, ?_, ?_, h.below⟩
  · have := h.t
    rw [List.drop_zero] at this
    rw [List.length_append, List.length_reverse, hk, hn]
    exact this
  · rcases hne with e | e
    · exact .inl e
    · right
      rcases h.nr with e2 | ⟨g, e2, hg⟩
      · rw [e2]; exact e
      · rw [e2]
        intro e3
        have := (hx5.lt _ e3).2
        omega
/-- u's elements, wherever the other row went -/
theorem own_at {w5 wy : World} {base gb n c : Nat} {K : List El} {au : Option Addr} (ho : w5.ownsRow base 44 3 (.slice au n c) n (ecs K)) (hn : K.length = n) (hk : Kp (some gb) w5 wy) (hgb : gb < base) : ElemsAt wy au K := by
  have h2 : wy.ownsRow base 44 3 (.slice au n c) n (ecs K) := hk.owns ho (by
    by_cases e : (Value.slice au n c).ownBlock = none
    · exact .inl e
    · right
      intro e2
      have := (ho.lt _ e2).1
      omega)
  rw [← hn] at h2
  obtain ⟨a', c', hv, he, _⟩ := elems_own h2
  simp only [Value.slice.injEq] at hv
  rw [hv.1]
  exact he
set_option maxRecDepth 100000 in
set_option maxHeartbeats 8000000 in
theorem rOrder_any (a : Option Addr) (cap : Nat) (l : List OpR) (w : World) (hT : Tabs w) (hsz : Szs l) (h : OpsAt w a l) (hr : rowP (OpR.os l)) : Calls Tryz.prog 47 #[.slice a l.length cap] w (OwnPost (ordE (OpR.os l)) w) := by
  obtain ⟨i0, hq0, hz0, hz1, hz2⟩ := info_parts Tryz.infoElem
  have hl40 : l.length ≤ 40 := by have := hr.1; rw [os_len] at this; exact this
  have hinv := row_inv hr.2 (OpR.os l).length (Nat.le_refl _)
  rw [List.take_length] at hinv
  have hdl : (ordT (OpR.os l)).length ≤ 200 := by rw [hinv.len]; exact row_tot hr.2
  have HUN := Lib.hid (fun (e : El) (he : e = B0 ∨ e ∈ ordE (OpR.os l)) (h0 : 0 ≤ e.i) (h1 : e.i ≤ 1000) wx (hx : Below w.heap.size w wx) => (by
    have h2 := rUnder_any a cap l e wx (hT.next hx) hsz (h.below hx) (by omega) h0 h1
    rw [undP_eq hr.2 he] at h2
    exact h2 : Calls Tryz.prog 67 #[.slice a l.length cap, e.v] wx (OwnPost (unE (OpR.os l) e) wx)))
  have HUL := Lib.hid (fun (e : El) => (by unfold unE; rw [List.length_map]; exact Nat.le_trans (kids_length _ _) hdl : (unE (OpR.os l) e).length ≤ 200))
  have HST := Lib.hid (fun g X T hL hne => lg_step hr (g := g) (X := X) (T := T) hL hne)
  have HEND := Lib.hid (fun g X hL => lg_end hinv.ord (g := g) (X := X) hL)
  have HBG := Lib.hid (fun e wx => Begin_any e wx)
  have HLL := Lib.hid (fun g X T hL => lg_len (D := ordT (OpR.os l)) (g := g) (X := X) (T := T) hL)
  have HS0 : RowKit.Hid (Lg (ordT (OpR.os l)) ((ordT (OpR.os l)).length + 1) [] [B0]) := Lib.hid (.inl ⟨rfl, rfl, rfl⟩)
  have HO0 : RowKit.Hid (OSt w (w.alloc (.cells #[.int .i64 0, .int .i64 0, .int .i64 0] 44)) [] [B0] (.slice none 0 0) (.slice (some ⟨w.heap.size, 0, none⟩) 1 1)) := Lib.hid ⟨World.ownsRow_nil _ _ _ _, one_own w w.heap.size (Nat.le_refl _) B0, .inl rfl, (Below.refl _ _).alloc (Nat.le_refl _) _⟩
  have HRES : RowKit.Hid (ordE (OpR.os l) = (ordT (OpR.os l)).map (fun u => u.nd.e)) := Lib.hid rfl
  obtain ⟨n, hn⟩ : ∃ n, l.length = n := ⟨_, rfl⟩
  rw [hn] at HUN ⊢
  clear h hT hsz hn hr hinv hl40
  generalize ordT (OpR.os l) = D at *
  go_enter Tryz.func47, Tryz.ntmps47
  go_wp2_with fail
  go_loopg [3, 4] (D.length + 1) (fun g s3 s4 wr => ∃ X T, Lg D g X T ∧ OSt w wr X T s3 s4)
  case atStart => exact ⟨[], [B0], HS0.out, HO0.out⟩
  case round =>
    clear HS0 HO0
    obtain ⟨X, T, hL, hst⟩ := hrel
    have hlen := HLL.out _ _ _ hL
    have HST0 := Lib.hid hst
    obtain ⟨ax, cx, hxv⟩ := own_form hst.x
    by_cases hne : T = []
    · subst hne
      have HX := Lib.hid (HEND.out _ _ hL)
      obtain ⟨at0, ct, htv⟩ := own_form hst.t
      simp only [List.length_nil] at htv
      subst hxv htv
      clear hst hL
      go_wp2_with fail
      go_ret
      exact ⟨_, rfl, by rw [HRES.out, ← HX.out]; exact HST0.out.x, HST0.out.below⟩
    · obtain ⟨T', e, g', hTe, hg', hin, hL', hi0, hi1⟩ := HST.out _ _ _ hL hne
      subst hTe
      obtain ⟨nt, hnt⟩ : ∃ k, T'.length = k := ⟨_, rfl⟩
      have HNT := Lib.hid hnt
      have hTl : (T' ++ [e]).length = nt + 1 := by simp [hnt]
      obtain ⟨gb, ct, htv, hgb, hgl, hcap⟩ := own_pos hst.t (by omega)
      rw [hTl] at htv hcap
      have hcap2 : nt ≤ ct := by omega
      subst htv hxv
      obtain ⟨⟨p0, p1, p2⟩, hs1⟩ := hst.pop hnt (.cells #[.int .i64 e.s, .int .i64 e.q, .int .i64 e.i] 44)
      have HS1 := Lib.hid hs1
      have HGL0 := Lib.hid hgl
      have HX1 := Lib.hid (BoxE.new wr e)
      have hxn : some wr.heap.size ≠ (Value.slice ax X.length cx).ownBlock := fun e2 => by have := (hst.x.lt _ e2.symm).2; omega
      have HL2 := Lib.hid hL'
      have HG2 := Lib.hid hg'
      have hxl : X.length ≤ 200 := by have := hlen.1; omega
      have hnt2 : nt ≤ 201 := by have := hlen.2; omega
      obtain ⟨nx, hnx⟩ : ∃ k, X.length = k := ⟨_, rfl⟩
      have HNX := Lib.hid hnx
      have HUE := Lib.hid (HUN.out e hin hi0 hi1)
      have hul := HUL.out e
      have HBE := Lib.hid (HBG.out e)
      clear hst hs1 hL hL' hg' hin hi0 hi1 hlen hne hTl hnt HST0
      generalize unE (OpR.os l) e = K at *
      unfold OwnPost at HUE
      obtain ⟨nk, hnk⟩ : ∃ k, K.length = k := ⟨_, rfl⟩
      have HNK := Lib.hid hnk
      rw [hnk] at HUE hul
      rw [hnx] at hxl HS1 hxn
      rw [hnx]
      have HM1 := Lib.hid (show nx + 1 ≤ maxLen from by simp only [maxLen]; omega)
      have HM2 := Lib.hid (show (nx + 1) * 24 ≤ 140737488355328 from by omega)
      clear hnk hnx
      have HBB : RowKit.Hid (e.begin = e.begin) := Lib.hid rfl
      generalize hbg : e.begin = bg at *
      clear hbg HBB
      obtain ⟨X3, hX3⟩ : ∃ X3, (if bg = true then X else X ++ [e]) = X3 := ⟨_, rfl⟩
      rw [hX3] at HL2
      have HXT := Lib.hid (show bg = true → X = X3 from fun h => by rw [← hX3, if_pos h])
      have HXF := Lib.hid (show bg = false → X ++ [e] = X3 from fun h => by rw [← hX3, h]; rfl)
      have HXN := Lib.hid hxn
      clear hX3 hxn
      obtain ⟨es, eq, ei⟩ := e
      unfold El.v at HUE HBE
      simp only at p0 p1 p2 HS1 HX1 HUE HBE
      go_upto_if 26 with (first
        | (go_at_call 52; refine (HBE.out _).mono ?_; rintro x2 w2 ⟨rfl, hb2⟩; have HS2 := Lib.hid (HS1.out.step hb2); have HX2 := Lib.hid (HX1.out.step hb2); have HOX := Lib.hid (show w2.ownsRow w.heap.size 44 3 (.slice ax nx cx) nx (ecs X) from by have h9 := HS2.out.x; rw [HNX.out] at h9; exact h9); have y0 := HX2.out.c0; have y1 := HX2.out.c1; have y2 := HX2.out.c2; have hyl := HX2.out.lt; simp only at y0 y1 y2; clear hb2)
        | fail)
      clear p0 p1 p2
      go_cut [3] (fun s3 wx => OSt w wx X3 T' s3 (.slice (some ⟨gb, 0, none⟩) nt ct) ∧ BoxE wx wr.heap.size ⟨es, eq, ei⟩)
      case first =>
        cases bg
        · go_wp2_with (first
            | (at_builtin; refine wpList_append_own_at _ rfl _ _ 23 rfl w.heap.size 44 i0 (.agg #[.int .i64 0, .int .i64 0, .int .i64 0]) 3 24 Tryz.underlying23 hq0 hz0 hz1 hz2 rfl (by decide) _ nx _ rfl (HOX.out.alloc _) ⟨w2.heap.size, 0, none⟩ 1 1 (El.cs ⟨es, eq, ei⟩) rfl rfl (cell_three_new w2 ⟨es, eq, ei⟩ _) (cs_one ⟨es, eq, ei⟩) HM1.out HM2.out (by have := HS2.out.below.size; simp; omega) ?_; intro v8 w8 hown8 hgrow8 hnil8 hat8; have HS8 := Lib.hid (HS2.out.told (e := ⟨es, eq, ei⟩) (by rw [HNX.out]; exact hown8) hgrow8 hat8); have HX8 := Lib.hid (HX2.out.kp ((Kp.refl _ w2).step (.inl rfl) hgrow8) HXN.out); clear hown8 hgrow8 hnil8 hat8)
            | fail)
          go_meet
          exact ⟨by rw [← HXF.out (by trivial)]; exact HS8.out, HX8.out⟩
        · go_wp2_with fail
          go_meet
          exact ⟨by rw [← HXT.out (by trivial)]; exact HS2.out, HX2.out⟩
      case rest =>
        obtain ⟨hs3, hx3⟩ := hcut
        have HS3 := Lib.hid hs3
        have y0 := hx3.c0
        have y1 := hx3.c1
        have y2 := hx3.c2
        have hyl := hx3.lt
        simp only at y0 y1 y2
        have HGL := Lib.hid (Nat.lt_trans HGL0.out hx3.lt)
        clear hs3 hx3
        go_wp2_with (first
          | (go_at_call 67; refine (HUE.out _ HS3.out.below).mono ?_; rintro x5 w5 ⟨uv, rfl, hown5, hb5⟩; obtain ⟨au, cu, hu⟩ := own_form hown5; subst hu; have HU5 := Lib.hid hown5; have HB5 := Lib.hid hb5; clear hown5 hb5)
          | fail)
        clear y0 y1 y2 hyl
        have HST5 : RowKit.Hid (ISt2 w w5 w5 gb nt nk nk T' K (.slice (some ⟨gb, 0, none⟩) nt ct)) := Lib.hid ⟨by
          have h9 := owns_belE HS3.out.t HB5.out
          rw [HNT.out] at h9
          rw [List.drop_eq_nil_of_le (by rw [HNK.out]; exact Nat.le_refl _), List.reverse_nil, List.append_nil, Nat.sub_self, Nat.add_zero]
          exact h9, Kp.refl _ _, .inl rfl, HS3.out.below.trans (HB5.out.mono HS3.out.below.size)⟩
        go_loopw [4, 7] (fun s4 s7 wy => ∃ k : Nat, k ≤ nk ∧ s7 = .int .i64 ((k : Int) - 1) ∧ ISt2 w w5 wy gb nt nk k T' K s4) (fun _ s7 _ => (RowKit.intOf s7 + 1).toNat)
        case atStart => exact ⟨nk, Nat.le_refl _, rfl, HST5.out⟩
        case round =>
          clear HST5
          obtain ⟨k, hk, rfl, hi⟩ := hrel
          by_cases hk0 : 0 < k
          · obtain ⟨j, rfl⟩ : ∃ j, k = j + 1 := ⟨k - 1, by omega⟩
            rw [show ((j + 1 : Nat) : Int) - 1 = (j : Int) from by omega]
            have hjn : j < nk := by omega
            have hjl : j < K.length := by rw [HNK.out]; exact hjn
            obtain ⟨b, off, rfl, hbb, x0, x1, x2⟩ := (own_at HU5.out HNK.out hi.kp (by have := HGL.out; exact this)).cell j hjl
            have HI := Lib.hid hi
            have HJ := Lib.hid (show K[j]? = some K[j] from List.getElem?_eq_getElem hjl)
            have HM3 := Lib.hid (show nt + (nk - (j + 1)) + 1 ≤ maxLen from by simp only [maxLen]; omega)
            have HM4 := Lib.hid (show (nt + (nk - (j + 1)) + 1) * 24 ≤ 140737488355328 from by omega)
            clear hi hk hk0
            generalize K[j] = x at *
            clear hjl
            obtain ⟨xs, xq, xi⟩ := x
            simp only at x0 x1 x2
            go_wp2_with (first
              | (at_builtin; refine wpList_append_own_at _ rfl _ _ 23 rfl w.heap.size 44 i0 (.agg #[.int .i64 0, .int .i64 0, .int .i64 0]) 3 24 Tryz.underlying23 hq0 hz0 hz1 hz2 rfl (by decide) _ (nt + (nk - (j + 1))) _ rfl (HI.out.t.alloc _) ⟨wr.heap.size, 0, none⟩ 1 1 (El.cs ⟨xs, xq, xi⟩) rfl rfl (cell_three_new wr ⟨xs, xq, xi⟩ _) (cs_one ⟨xs, xq, xi⟩) HM3.out HM4.out (by have := HI.out.below.size; simp; omega) ?_; intro v8 w8 hown8 hgrow8 hnil8 hat8; have HI8 := Lib.hid (HI.out.next HJ.out HNK.out hown8 hgrow8 hat8); clear hown8 hgrow8 hnil8 hat8)
              | fail)
            go_roundw
            case rel => exact ⟨j, by omega, rfl, HI8.out⟩
            case measure => simp [RowKit.intOf] <;> omega
          · have h0 : k = 0 := by omega
            subst h0
            have HF := Lib.hid (hi.fin HS3.out HB5.out HNK.out HNT.out)
            rw [show ((0 : Nat) : Int) - 1 = -1 from rfl]
            clear hi hk hk0
            go_wp2_with fail
            go_roundg g'
            case measure => exact HG2.out
            case rel => exact ⟨X3, _, HL2.out, HF.out⟩
end Go.Proofs.YtebkeocfgcekmaaGreatDoor
