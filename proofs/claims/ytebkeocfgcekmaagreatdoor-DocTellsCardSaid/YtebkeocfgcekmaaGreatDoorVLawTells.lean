/- DocTells: the walk -/
import Derived.Test.YtebkeocfgcekmaaGreatDoorDElems
import Derived.Test.YtebkeocfgcekmaaGreatDoorDIdle
import Derived.Test.YtebkeocfgcekmaaGreatDoorVEq
import Derived.Test.YtebkeocfgcekmaaGreatDoorOCopy
import Derived.Deep.DeepCutAuto
import Derived.Deep.CutBlock
import Derived.Lib.QuietBelow
import Derived.Deep.QuietTactic
import Derived.BigQuiet
import Derived.StillTailTactics
import Derived.IntWalk
namespace Go.Proofs.YtebkeocfgcekmaaGreatDoor
open Go.RowKit Go.Lib Go.Sort

theorem in64_0 : in64 0 := by unfold in64; omega
theorem row_n {l : List OpD} (h : okRow l) : NInv l := by
  have := row_names h l.length (Nat.le_refl _)
  rwa [List.take_length] at this
theorem edt_has {l : List OpD} (h : okRow l) (s q : Int) : edt l s q = hasN l ⟨s, q, 0⟩ := edt_eq (row_n h) s q
/-- an element has a rune where it is written -/
theorem rnP_wrt {l : List OpD} (h : okRow l) (e : El) : (rnP l e).isSome = (!e.begin && wrt l e) := by
  cases hb : e.begin with
  | true =>
    have he := (begin_iff e).1 hb
    unfold rnP
    by_cases hf : fk l e.s e.q < l.length
    · have h1 := (fk_is hf).1
      have h2 := okOp_name (row_ok h _ (List.getElem_mem hf))
      have h3 : e.s = 0 := by rw [he]; rfl
      omega
    · rw [List.getElem?_eq_none (by omega)]
      rfl
  | false =>
    simp only [Bool.not_false, Bool.true_and]
    cases hp : l[fk l e.s e.q]? with
    | none =>
      rw [wrt_none hb (fun j hj => by rw [hp] at hj; cases hj)]
      unfold rnP
      rw [hp]
      rfl
    | some p =>
      rw [wrt_some hb hp]
      have hk := (okOp_text (row_ok h p (List.mem_of_getElem? hp))).1
      unfold rnP nR
      rw [hp, if_pos hk]
      simp only
      by_cases hi : 0 ≤ e.i
      · rw [if_pos hi, decide_eq_true hi, Bool.true_and]
        by_cases hj : e.i < ((rns p.text).length : Int)
        · rw [List.getElem?_eq_getElem (by omega), decide_eq_true hj]
          rfl
        · rw [List.getElem?_eq_none (by omega), decide_eq_false hj]
          rfl
      · rw [if_neg hi, decide_eq_false hi]
        rfl
theorem rnE_none {l : List OpD} {e : El} (h : (rnP l e).isSome = false) : rnE l e = 0 := by
  unfold rnE
  cases hp : rnP l e with
  | none => rfl
  | some r => rw [hp] at h; cases h
theorem row_elems {l : List OpR} (h : rowP (OpR.os l)) : ∀ r ∈ l, ∀ i : Int, 0 ≤ i → i ≤ 2 → (⟨r.o.site, r.o.seq, i⟩ : El).fit := by
  intro r hr i h0 h2
  have := okOp_name (row_ok h.2 r.o (List.mem_map_of_mem hr))
  unfold El.fit in64
  simp only
  omega
theorem tog_fit {l : List OpR} {o : OpD} (h : rowP (OpR.os l ++ [o])) (hk : o.kind = 2) : (⟨o.of, o.num, 0⟩ : El).fit :=
  needs_fit (row_ok h.2 o (by simp)) _ (by unfold needs; rw [if_pos hk]; simp)
theorem own_gone {w : World} {base : Nat} {a : Option Addr} {cap : Nat} {l : List El} (h : w.ownsRow base 44 3 (.slice a l.length cap) l.length (ecs l)) : ElemsAt w a l ∧ (a = none → l.length = 0 ∧ cap = 0) := by
  obtain ⟨a', c', hv, he, _, _, hn⟩ := elems_own h
  simp only [Value.slice.injEq] at hv
  obtain ⟨rfl, _, rfl⟩ := hv
  exact ⟨he, hn⟩
theorem blk_set1 {w : World} {b : Nat} {t : TypeId} {c0 c1 c2 c3 c4 c5 c6 c7 c8 c9 ca : Value} (h : w.heap[b]? = some (.cells #[c0, c1, c2, c3, c4, c5, c6, c7, c8, c9, ca] t (0, 0))) (v : Value) : (w.setCell ⟨b, 1, none⟩ v).heap[b]? = some (.cells #[c0, v, c2, c3, c4, c5, c6, c7, c8, c9, ca] t (0, 0)) := by
  unfold World.setCell
  simp [Array.getElem?_modify, h]
theorem blk_thaw {w : World} {b : Nat} {t : TypeId} {c0 c1 c2 c3 c4 c5 c6 c7 c8 c9 ca : Value} (h : w.heap[b]? = some (.cells #[c0, c1, c2, c3, c4, c5, c6, c7, c8, c9, ca] t (0, 0))) (c : Nat) : w.frozen? ⟨b, c, none⟩ = false := by simp [World.frozen?, h]
/-- what an op asked about is, in its box -/
def OAsk (bx : Nat) (wq wx : World) : Prop := ∃ (o : OpD) (oa : Option Addr) (oc : Nat), BoxO wx bx o oa oc ∧ OpAt wx o oa oc ∧ o.text.size ≤ 3600 ∧ o.gone.length ≤ 900 ∧ Below wq.heap.size wq wx

set_option maxRecDepth 100000 in
set_option maxHeartbeats 32000000 in
theorem docTells_walk (p : AskD) (W : World) (h : AskAt W p) (hT : Tabs W) (hnone : p.ae = none → p.e.length = 0 ∧ p.ce = 0) (hef : ∀ e ∈ p.e, e.fit) : Calls Tryz.prog 3 #[p.v] W (BoB true W) := by
  have HHV := Lib.hid (fun wx (hx : Below W.heap.size W wx) => Heavy_light p wx (h.below hx))
  have HX := Lib.hid (BoxA.new W p)
  have hb0 : Below W.heap.size W (W.alloc p.obj) := (Below.refl _ _).alloc (Nat.le_refl _) _
  have HB0 := Lib.hid hb0
  have HRW := Lib.hid h.l
  have HOO := Lib.hid h.o
  have HTB := Lib.hid (fun wx (hx : Below W.heap.size W wx) => hT.next hx)
  have HELF := Lib.hid (fun a cap l wx (hx : Below W.heap.size W wx) => fun (ho : OpsAt wx a l) (hn9 : p.e.length ≤ 900) (hr : rowP (OpR.os l)) => ElemsG_any El.fit ⟨in64_0, in64_0, in64_0⟩ p a cap l wx (h.e.below hx) hn9 hnone ho hef (row_elems hr))
  have HELT := Lib.hid (fun a cap l wx (hx : Below W.heap.size W wx) => fun (ho : OpsAt wx a l) (hn9 : p.e.length ≤ 900) => ElemsG_any (fun _ => True) trivial p a cap l wx (h.e.below hx) hn9 hnone ho (fun _ _ => trivial) (fun _ _ _ _ _ => trivial))
  have hl3 := h.l.len
  have hl4 := h.o.len
  obtain ⟨i0, hi0, hz0, hz1, hz2⟩ := info_parts Tryz.infoElem
  have HWK := Lib.hid wakes6_any
  clear h hb0 hT hnone hef
  unfold AskD.v at HHV HELF HELT ⊢
  generalize hLP : Light p = LP at HHV
  have HLP := Lib.hid (show LP → Light p from fun h => by rw [hLP]; exact h)
  clear hLP
  unfold Light at HLP
  obtain ⟨lr, le, lo, ln, ar, ae, ao, an, cr, ce, co, cn⟩ := p
  unfold AskD.obj at HX HB0
  simp only at HHV HX HB0 HRW HOO hl3 hl4 HELF HELT HLP ⊢
  have hbi := big_is
  obtain ⟨n0, hn0⟩ : ∃ n, lr.length = n := ⟨_, rfl⟩
  have HL0 := Lib.hid hn0
  have h0a : (n0 : Int) ≤ 140737488351232 := by omega
  rw [hn0] at HHV HX HB0 HELF HELT ⊢
  obtain ⟨n1, hn1⟩ : ∃ n, lo.length = n := ⟨_, rfl⟩
  have HL1 := Lib.hid hn1
  have h1a : (n1 : Int) ≤ 140737488351232 := by omega
  rw [hn1] at HHV HX HB0 HELF HELT ⊢
  clear hl3 hl4 hbi hn0 hn1
  generalize hn2 : le.length = n2 at *
  generalize hn3 : ln.length = n3 at *
  have HL2 := Lib.hid hn2
  have HL3 := Lib.hid hn3
  clear hn2 hn3
  go_enter Tryz.func3, Tryz.ntmps3
  go_wp2_with (first | (go_at_call 7; refine (HHV.out _ HB0.out).mono ?_; rintro x1 w1 ⟨b1, rfl, hlp, hb1⟩; have HPP := Lib.hid hlp; have HB1 := Lib.hid (HB0.out.trans (hb1.mono HB0.out.size)); have HA1 := Lib.hid (HX.out.next hb1 HX.out.lt); clear hb1 hlp; cases b1) | fail)
  rotate_left
  · go_wp2_with fail
    go_ret
    exact ⟨rfl, HB1.out⟩
  have HLT := Lib.hid (HLP.out (HPP.out (by simp)))
  clear HLP HPP
  go_wp2_with fail
  clear HHV
  have HXX := Lib.hid (fun (wx : World) (hx : Below w1.heap.size w1 wx) => And.intro ((hx.cell (p := ⟨W.heap.size, 0, none⟩) HA1.out.lt).trans HA1.out.c0) (And.intro ((hx.cell (p := ⟨W.heap.size, 1, none⟩) HA1.out.lt).trans HA1.out.c1) (And.intro ((hx.cell (p := ⟨W.heap.size, 2, none⟩) HA1.out.lt).trans HA1.out.c2) (And.intro ((hx.cell (p := ⟨W.heap.size, 3, none⟩) HA1.out.lt).trans HA1.out.c3) (And.intro (Nat.lt_of_lt_of_le HA1.out.lt hx.size) (HB1.out.trans (hx.mono HB1.out.size)))))))
  simp only [HL0.out, HL1.out, HL2.out, HL3.out] at HXX
  go_loopw [3] (fun s3 wr => ∃ i : Nat, s3 = .int .i64 i ∧ i ≤ n0 ∧ Below w1.heap.size w1 wr) (fun s3 _ => n0 - (RowKit.intOf s3).toNat)
  case atStart => exact ⟨0, rfl, Nat.zero_le _, Below.refl _ _⟩
  case round =>
    obtain ⟨i, rfl, hi, hb⟩ := hrel
    obtain ⟨q0, q1, q2, q3, hq0, hbW⟩ := HXX.out _ hb
    have HB := Lib.hid hb
    have HBW := Lib.hid hbW
    by_cases hlt : i < n0
    · by_cases h4 : (i : Int) < 4
      · have hil : i < lr.length := by rw [HL0.out]; exact hlt
        obtain ⟨b, off, rfl, hbb, cW⟩ := HRW.out.cell i hil
        have hro := HRW.out.row i hil
        have hlr := light_row (HLT.out.2.2.2 i hil)
        generalize lr[i] = r at *
        clear hil
        obtain ⟨rl, ra, rc⟩ := r
        simp only at cW hro hlr
        have HRO := Lib.hid hro.1
        have hcap := hro.2
        have HRR := Lib.hid (fun (wx : World) (hx : Below W.heap.size W wx) => rRow_any ra rc rl wx (HTB.out _ hx) (fun r hr => by have := (hlr.2 r hr).1; omega) (hro.1.below hx) hro.2)
        have HCO := Lib.hid (fun (wx : World) (hx : Below W.heap.size W wx) => CopyOps_any ra rc rl wx (hro.1.below hx) (fun r hr => by have := (hlr.2 r hr).2; omega) (by omega))
        have HGN := Lib.hid (show ∀ L : List OpR, OpR.os L = OpR.os rl → ∀ r ∈ L, r.o.gone.length ≤ 1000000 from fun L hL r hr => by
          have h1 : r.o ∈ OpR.os rl := by rw [← hL]; exact List.mem_map_of_mem hr
          obtain ⟨r2, h2, h3⟩ := List.mem_map.1 h1
          rw [← h3]
          have := (hlr.2 r2 h2).2
          omega)
        have HSZ := Lib.hid (show ∀ L : List OpR, OpR.os L = OpR.os rl → Szs L from fun L hL r hr => by
          have h1 : r.o ∈ OpR.os rl := by rw [← hL]; exact List.mem_map_of_mem hr
          obtain ⟨r2, h2, h3⟩ := List.mem_map.1 h1
          rw [← h3]
          have := (hlr.2 r2 h2).1
          omega)
        obtain ⟨nr, hnr⟩ : ∃ n, rl.length = n := ⟨_, rfl⟩
        have HNR := Lib.hid hnr
        rw [hnr] at cW hcap HRR HCO
        have HCW := Lib.hid (fun (wx : World) (hx : Below W.heap.size W wx) => And.intro ((hx.cell (p := ⟨b, off + i, none⟩) hbb).trans cW) (Nat.lt_of_lt_of_le hbb hx.size))
        obtain ⟨cr0, hbr⟩ := HCW.out _ hbW
        have hlr9 := hlr.1
        rw [hnr] at hlr9
        clear hnr hro hb hbW cW hlr HRW
        unfold CopysPost at HCO
        by_cases hrow : rowP (OpR.os rl)
        · skip
          -- @G
          rw [show rowB (OpR.os rl) = true from (rowB_iff _).2 hrow] at HRR
          have HROW := Lib.hid hrow
          obtain ⟨XV, hxv⟩ : ∃ X, visE (OpR.os rl) = X := ⟨_, rfl⟩
          have HXV := Lib.hid hxv
          have hv200 := visE_le hrow.2
          rw [hxv] at hv200
          obtain ⟨nv, hnv⟩ : ∃ n, XV.length = n := ⟨_, rfl⟩
          have HNV := Lib.hid hnv
          rw [hnv] at hv200
          obtain ⟨TX, htx⟩ : ∃ T, docT (OpR.os rl) = T := ⟨_, rfl⟩
          have HTX := Lib.hid htx
          clear hrow hxv hnv htx
          go_wp2_with (first
            | (go_at_call 8; refine (HCO.out wr HBW.out).mono ?_; rintro x3 w3 ⟨v3, L3, rfl, hown3, hos3, hb3⟩; have hl3 : L3.length = nr := (by have h := congrArg List.length hos3; rw [os_len, os_len, HNR.out] at h; exact h); obtain ⟨a3, c3, rfl, hat3, hc3⟩ := hown3.ops (by unfold BIG; omega); rw [hl3] at hc3 ⊢; have HC3 := Lib.hid hc3; have HLL := Lib.hid hl3; have HAT3 := Lib.hid hat3; have HOS3 := Lib.hid hos3; have HB3 := Lib.hid (HB.out.trans (hb3.mono HB.out.size)); obtain ⟨p0, p1, p2, p3, hp0, hpW⟩ := HXX.out _ HB3.out; obtain ⟨cr1, hbr1⟩ := HCW.out _ hpW; have HBW3 := Lib.hid hpW; clear hown3 hat3 hos3 hb3 hl3 hc3 hpW)
            | (go_at_call 9; refine (HRR.out w3 HBW3.out).mono ?_; rintro x4 w4 ⟨rfl, hb4⟩; have HB4 := Lib.hid hb4; clear hb4)
            | (go_at_call 10; have ho := dVis_ok a3 c3 L3 w4 (HAT3.out.below HB4.out) (by rw [HOS3.out]; exact HROW.out); unfold VisPost at ho; rw [HLL.out, HOS3.out, HXV.out] at ho; refine ho.mono ?_; rintro x5 w5 ⟨v5, rfl, hown5, hb5⟩; obtain ⟨a5, c5, hv5, he5, _⟩ := elems_own hown5; rw [HNV.out] at hown5 hv5; subst hv5; have HE5 := Lib.hid he5; have HOW5 := Lib.hid hown5; have HB45 := Lib.hid hb5; have HB5 := Lib.hid (HB4.out.trans (hb5.mono HB4.out.size)); clear hown5 he5 hb5 ho)
            | (go_at_call 11; have ho := dText_ok a3 c3 L3 w5 (HAT3.out.below HB5.out) (by rw [HOS3.out]; exact HROW.out); unfold TextPost at ho; rw [HLL.out, HOS3.out, HTX.out] at ho; refine ho.mono ?_; rintro x6 w6 ⟨rfl, hb6⟩; have HB46 := Lib.hid (HB45.out.trans (hb6.mono HB45.out.size)); have HB56 := Lib.hid hb6; have HOW6 := Lib.hid (owns_belE HOW5.out hb6); have HB6 := Lib.hid (HB5.out.trans (hb6.mono HB5.out.size)); clear hb6 ho)
            | (go_at_call 12; have ho := rVis_any a3 c3 L3 w6 (HTB.out _ (HBW3.out.trans (HB6.out.mono HBW3.out.size))) (HSZ.out L3 HOS3.out) (HAT3.out.below HB6.out) (by rw [HOS3.out]; exact HROW.out); unfold OwnPost at ho; rw [HLL.out, HOS3.out, HXV.out] at ho; refine ho.mono ?_; rintro x7 w7 ⟨v7, rfl, hown7, hb7⟩; obtain ⟨a7, c7, hv7, he7, _⟩ := elems_own hown7; rw [HNV.out] at hv7; subst hv7; have HE7 := Lib.hid he7; have HB67 := Lib.hid hb7; have HOW7 := Lib.hid (owns_belE HOW6.out hb7); have HB47 := Lib.hid (HB46.out.trans (hb7.mono HB46.out.size)); have HB7 := Lib.hid (HB6.out.trans (hb7.mono HB6.out.size)); clear hown7 he7 hb7 ho)
            | (go_at_call 13; have ho := rText_any a3 c3 L3 w7 (HTB.out _ (HBW3.out.trans (HB7.out.mono HBW3.out.size))) (HSZ.out L3 HOS3.out) (HAT3.out.below HB7.out) (by rw [HOS3.out]; exact HROW.out); unfold RTextPost at ho; rw [HLL.out, HOS3.out, HTX.out] at ho; refine ho.mono ?_; rintro x8 w8 ⟨rfl, hb8⟩; have HB78 := Lib.hid hb8; have HOW8 := Lib.hid (owns_belE HOW7.out hb8); have HB48 := Lib.hid (HB47.out.trans (hb8.mono HB47.out.size)); have HB8 := Lib.hid (HB7.out.trans (hb8.mono HB7.out.size)); clear hb8 ho)
            | (go_at_call 14; refine (num6_same _ _).mono ?_; rintro xn wn ⟨rfl, hnn⟩; have hns := hnn.symm; clear hnn; subst hns)
            | (go_at_call 15; have ho := EqElems_any a5 a7 c5 c7 XV XV w8 (((HE5.out.below HB56.out).below HB67.out).below HB78.out) (HE7.out.below HB78.out) (by rw [HNV.out]; omega) (by rw [HNV.out]; omega); rw [HNV.out, decide_eq_true (rfl : XV = XV)] at ho; refine ho.mono ?_; rintro x9 w9 ⟨rfl, hb9⟩; have HB49 := Lib.hid (HB48.out.trans (hb9.mono HB48.out.size)); have HOW9 := Lib.hid (owns_belE HOW8.out hb9); have HB9 := Lib.hid (HB8.out.trans (hb9.mono HB8.out.size)); obtain ⟨e0, e1, e2, e3, hel, heW⟩ := HXX.out _ (HB3.out.trans (HB9.out.mono HB3.out.size)); clear hb9 ho)
            | (go_at_call 16; have ho := HELF.out a3 c3 L3 w9 heW (HAT3.out.below HB9.out) HLT.out.1 (by rw [HOS3.out]; exact HROW.out); rw [HLL.out] at ho; refine ho.mono ?_; rintro x10 w10 ⟨X, hX, hgx, v10, rfl, hown10, hb10⟩; obtain ⟨a10, c10, hv10, he10, _⟩ := elems_own hown10; subst hv10; have HGX := Lib.hid hgx; have HE10 := Lib.hid he10; have HB410 := Lib.hid (HB49.out.trans (hb10.mono HB49.out.size)); have HOW10 := Lib.hid (owns_belE HOW9.out hb10); have HB10 := Lib.hid (HB9.out.trans (hb10.mono HB9.out.size)); clear hgx hown10 hb10 he10 ho)
            | fail)
          obtain ⟨nx, hnx⟩ : ∃ n, X.length = n := ⟨_, rfl⟩
          have HNX := Lib.hid hnx
          rw [hnx] at hX ⊢
          clear hnx p0 p1 p2 p3 hp0 cr1 hbr1 e0 e1 e2 e3 hel heW HELF HELT HRR HCO hcap cr0 hbr q0 q1 q2 q3 hq0
          have HRW3 := Lib.hid (show rowP (OpR.os L3) from by rw [HOS3.out]; exact HROW.out)
          have HT3 := Lib.hid (fun (wx : World) (hx : Below w3.heap.size w3 wx) => HTB.out _ (HBW3.out.trans (hx.mono HBW3.out.size)))
          have HSZ3 := Lib.hid (HSZ.out L3 HOS3.out)
          have HX3 := Lib.hid (fun (wx : World) (hx : Below w3.heap.size w3 wx) => HXX.out _ (HB3.out.trans (hx.mono HB3.out.size)))
          go_loopw [14] (fun s14 wr => ∃ k : Nat, s14 = .int .i64 k ∧ k ≤ nx ∧ Below w10.heap.size w10 wr) (fun s14 _ => nx - (RowKit.intOf s14).toNat)
          case atStart => exact ⟨0, rfl, Nat.zero_le _, Below.refl _ _⟩
          case round =>
            obtain ⟨k, rfl, hk, hbk⟩ := hrel
            have HBK := Lib.hid hbk
            have HB3K := Lib.hid (HB10.out.trans (hbk.mono HB10.out.size))
            by_cases hkx : k < nx
            · skip
              -- @E
              have hkl : k < X.length := by rw [HNX.out]; exact hkx
              have hkx1 : (k : Int) < (nx : Int) := by omega
              have hkx0 : (0 : Int) ≤ (k : Int) := by omega
              have hd0 : decide ((k : Int) < (nx : Int)) = true := decide_eq_true hkx1
              obtain ⟨b7, off7, rfl, hb7, y0, y1, y2⟩ := HE10.out.cell k hkl
              have hfit := HGX.out X[k] (List.getElem_mem hkl)
              generalize X[k] = e at *
              clear hkl
              have HCOU := Lib.hid (fun (wx : World) (hx : Below w3.heap.size w3 wx) => dCount_ok a3 c3 L3 e.s e.q wx (HAT3.out.below hx) HRW3.out ⟨hfit.1, hfit.2.1, in64_0⟩)
              have HEFF := Lib.hid (fun (wx : World) (hx : Below w3.heap.size w3 wx) => dEff_ok a3 c3 L3 e.s e.q wx (HAT3.out.below hx) HRW3.out ⟨hfit.1, hfit.2.1, in64_0⟩)
              have HRUN := Lib.hid (fun (wx : World) (hx : Below w3.heap.size w3 wx) => dRune_ok a3 c3 L3 e wx (HAT3.out.below hx) HRW3.out hfit)
              have HEDT := Lib.hid (fun (wx : World) (hx : Below w3.heap.size w3 wx) => rEdit_any a3 c3 L3 e.s e.q wx (HAT3.out.below hx))
              have HRCO := Lib.hid (fun (wx : World) (hx : Below w3.heap.size w3 wx) => rCount_any a3 c3 L3 e.s e.q wx (HAT3.out.below hx))
              have HREF := Lib.hid (fun (wx : World) (hx : Below w3.heap.size w3 wx) => rEff_any a3 c3 L3 e.s e.q wx (HAT3.out.below hx) (by rw [HLL.out]; omega))
              have HWR := Lib.hid (fun (wx : World) (hx : Below w3.heap.size w3 wx) => Written_any a3 c3 L3 e wx (HT3.out _ hx) HSZ3.out (HAT3.out.below hx))
              have hin : (!e.begin && wrt (OpR.os L3) e) = true → e ∈ ordE (OpR.os L3) := fun h => by
                rw [Bool.and_eq_true] at h
                have h1 := wrt_ord (l := OpR.os L3) HRW3.out (e := e) (by simpa using h.1)
                rw [h.2] at h1
                exact of_decide_eq_true h1.symm
              have HRRN := Lib.hid (fun (hw : (!e.begin && wrt (OpR.os L3) e) = true) (wx : World) (hx : Below w3.heap.size w3 wx) => rRn_any a3 c3 L3 e wx (HT3.out _ hx) HSZ3.out (HAT3.out.below hx) HRW3.out (hin hw))
              have HRZ := Lib.hid (rnE_none (l := OpR.os L3) (e := e))
              have hrs := rnP_wrt HRW3.out.2 e
              have HC0 := Lib.hid ((row_ci HRW3.out.2).1 e.s e.q)
              have hed := edt_has HRW3.out.2 e.s e.q
              rw [HLL.out] at HCOU HEFF HRUN HEDT HRCO HREF HWR HRRN
              rw [hrs] at HRUN HRZ
              rw [hed] at HEDT
              clear hrs hed hin hfit
              generalize (!e.begin && wrt (OpR.os L3) e) = wb at *
              generalize rnE (OpR.os L3) e = rr at *
              generalize hasN (OpR.os L3) ⟨e.s, e.q, 0⟩ = hb at *
              generalize ct (OpR.os L3) e.s e.q = cc at *
              generalize evn (OpR.os L3) e.s e.q = ev at *
              obtain ⟨es, eq, ei⟩ := e
              unfold El.v at HRUN HWR HRRN
              unfold CouPost at HCOU
              unfold EffPost at HEFF
              unfold DRnPost at HRUN
              unfold BoB at HEDT HREF HWR
              unfold IntB at HRCO
              unfold RnPost at HRRN
              simp only at y0 y1 y2 HCOU HEFF HRUN HEDT HRCO HREF HWR HRRN
              have HY := Lib.hid (fun (wx : World) (hx : Below w10.heap.size w10 wx) => And.intro ((hx.cell (p := ⟨b7, off7 + k * 3, none⟩) hb7).trans y0) (And.intro ((hx.cell (p := ⟨b7, off7 + k * 3 + 1, none⟩) hb7).trans y1) (And.intro ((hx.cell (p := ⟨b7, off7 + k * 3 + 2, none⟩) hb7).trans y2) (Nat.lt_of_lt_of_le hb7 hx.size))))
              clear y0 y1 y2 hbk hb7
              generalize hew : errN wb = ew at *
              have HEW := Lib.hid hew
              clear hew
              cases hb
              · as_aux_lemma =>
                -- @E0
                have hc0 := HC0.out rfl
                subst hc0
                simp only [errN, Bool.false_eq_true, if_false, Bool.false_and] at HCOU HEFF
                go_wp2_with fail
                obtain ⟨z0, z1, z2, zl⟩ := HY.out wr HBK.out
                have r0 := cell_regrown z0
                have r1 := cell_regrown z1
                have r2 := cell_regrown z2
                have hq0 := fun d os => HCOU.out (Sort.grow (redrawn wr d) os) (HB3K.out.trans ((below_regrown wr d os).mono HB3K.out.size))
                refine wp_region_quiet_below (by kernel_rfl) (by kernel_rfl) ?_
                repeat (first | go_big_quiet_step (exact Calls.regrown_of (hq0 _ _)) | quiet_step (exact Calls.regrown_of (hq0 _ _)))
                refine wpQuiet_nil ?_
                intro _ hw'
                obtain ⟨⟨dq, osq⟩, hw''⟩ := hw'
                subst hw''
                have HBA := Lib.hid (HBK.out.trans ((below_regrown wr dq osq).mono HBK.out.size))
                have HB3A := Lib.hid (HB3K.out.trans ((below_regrown wr dq osq).mono HB3K.out.size))
                clear hq0 r0 r1 r2 z0 z1 z2 zl
                generalize Sort.grow (redrawn wr dq) osq = wa at *
                go_wp2_with fail
                obtain ⟨z0, z1, z2, zl⟩ := HY.out wa HBA.out
                have r0 := cell_regrown z0
                have r1 := cell_regrown z1
                have r2 := cell_regrown z2
                have hq0 := fun d os => HEFF.out (Sort.grow (redrawn wa d) os) (HB3A.out.trans ((below_regrown wa d os).mono HB3A.out.size))
                refine wp_region_quiet_below (by kernel_rfl) (by kernel_rfl) ?_
                repeat (first | go_big_quiet_step (exact Calls.regrown_of (hq0 _ _)) | quiet_step (exact Calls.regrown_of (hq0 _ _)))
                refine wpQuiet_nil ?_
                intro _ hw'
                obtain ⟨⟨dq, osq⟩, hw''⟩ := hw'
                subst hw''
                have HBB := Lib.hid (HBA.out.trans ((below_regrown wa dq osq).mono HBA.out.size))
                have HB3B := Lib.hid (HB3A.out.trans ((below_regrown wa dq osq).mono HB3A.out.size))
                clear hq0 r0 r1 r2 z0 z1 z2 zl
                generalize Sort.grow (redrawn wa dq) osq = wb2 at *
                obtain ⟨z0, z1, z2, zl⟩ := HY.out wb2 HBB.out
                go_wp2_with (first
                  | (go_at_call 19; refine (HRUN.out wb2 HB3B.out).mono ?_; rintro xc wc ⟨rfl, hbc⟩; have HBC := Lib.hid (HBB.out.trans (hbc.mono HBB.out.size)); have HB3C := Lib.hid (HB3B.out.trans (hbc.mono HB3B.out.size)); clear hbc)
                  | fail)
                clear z0 z1 z2 zl
                obtain ⟨z0, z1, z2, zl⟩ := HY.out wc HBC.out
                have r0 := cell_regrown z0
                have r1 := cell_regrown z1
                have r2 := cell_regrown z2
                have hq0 := fun d os => HEDT.out (Sort.grow (redrawn wc d) os) (HB3C.out.trans ((below_regrown wc d os).mono HB3C.out.size))
                refine wp_region_quiet_below (by kernel_rfl) (by kernel_rfl) ?_
                repeat (first | go_big_quiet_step (exact Calls.regrown_of (hq0 _ _)) | quiet_step (exact Calls.regrown_of (hq0 _ _)))
                refine wpQuiet_nil ?_
                intro _ hw'
                obtain ⟨⟨dq, osq⟩, hw''⟩ := hw'
                subst hw''
                have HBD := Lib.hid (HBC.out.trans ((below_regrown wc dq osq).mono HBC.out.size))
                have HB3D := Lib.hid (HB3C.out.trans ((below_regrown wc dq osq).mono HB3C.out.size))
                clear hq0 r0 r1 r2 z0 z1 z2 zl
                generalize Sort.grow (redrawn wc dq) osq = wd at *
                obtain ⟨z0, z1, z2, zl⟩ := HY.out wd HBD.out
                cases wb
                · have hrz := HRZ.out rfl
                  subst hrz
                  have hew : ew = 3 := HEW.out.symm
                  subst hew
                  go_wp2_with (first
                    | (go_at_call 23; refine (HWR.out wd HB3D.out).mono ?_; rintro xf wf ⟨rfl, hbf⟩; have HBF := Lib.hid (HBD.out.trans (hbf.mono HBD.out.size)); have HB3F := Lib.hid (HB3D.out.trans (hbf.mono HB3D.out.size)); obtain ⟨u0, u1, u2, ul⟩ := HY.out wf HBF.out; clear hbf)
                    | (go_at_call 14; refine (num6_same _ _).mono ?_; rintro xn wn ⟨rfl, hnn⟩; have hns := hnn.symm; clear hnn; subst hns)
                    | fail)
                  go_roundw
                  case rel => exact ⟨k + 1, by go_num, by omega, HBF.out⟩
                  case measure => simp [RowKit.intOf]; omega
                · have hew : ew = 0 := HEW.out.symm
                  have HRX := Lib.hid (fun (wx : World) (hx : Below w3.heap.size w3 wx) => HRRN.out rfl wx hx)
                  subst hew
                  go_wp2_with (first
                    | (go_at_call 23; refine (HWR.out wd HB3D.out).mono ?_; rintro xf wf ⟨rfl, hbf⟩; have HBF := Lib.hid (HBD.out.trans (hbf.mono HBD.out.size)); have HB3F := Lib.hid (HB3D.out.trans (hbf.mono HB3D.out.size)); obtain ⟨u0, u1, u2, ul⟩ := HY.out wf HBF.out; clear hbf)
                    | (go_at_call 24; refine (HRX.out wf HB3F.out).mono ?_; rintro xg wg ⟨rfl, hbg⟩; have HBG := Lib.hid (HBF.out.trans (hbg.mono HBF.out.size)); clear hbg)
                    | (go_at_call 14; refine (num6_same _ _).mono ?_; rintro xn wn ⟨rfl, hnn⟩; have hns := hnn.symm; clear hnn; subst hns)
                    | fail)
                  go_roundw
                  case rel => exact ⟨k + 1, by go_num, by omega, HBG.out⟩
                  case measure => simp [RowKit.intOf]; omega
                -- @E0 end
              · as_aux_lemma =>
                -- @E1
                simp only [errN, if_true, Bool.true_and] at HCOU HEFF
                go_wp2_with fail
                obtain ⟨z0, z1, z2, zl⟩ := HY.out wr HBK.out
                have r0 := cell_regrown z0
                have r1 := cell_regrown z1
                have r2 := cell_regrown z2
                have hq0 := fun d os => HCOU.out (Sort.grow (redrawn wr d) os) (HB3K.out.trans ((below_regrown wr d os).mono HB3K.out.size))
                refine wp_region_quiet_below (by kernel_rfl) (by kernel_rfl) ?_
                repeat (first | go_big_quiet_step (exact Calls.regrown_of (hq0 _ _)) | quiet_step (exact Calls.regrown_of (hq0 _ _)))
                refine wpQuiet_nil ?_
                intro _ hw'
                obtain ⟨⟨dq, osq⟩, hw''⟩ := hw'
                subst hw''
                have HBA := Lib.hid (HBK.out.trans ((below_regrown wr dq osq).mono HBK.out.size))
                have HB3A := Lib.hid (HB3K.out.trans ((below_regrown wr dq osq).mono HB3K.out.size))
                clear hq0 r0 r1 r2 z0 z1 z2 zl
                generalize Sort.grow (redrawn wr dq) osq = wa at *
                go_wp2_with fail
                obtain ⟨z0, z1, z2, zl⟩ := HY.out wa HBA.out
                have r0 := cell_regrown z0
                have r1 := cell_regrown z1
                have r2 := cell_regrown z2
                have hq0 := fun d os => HEFF.out (Sort.grow (redrawn wa d) os) (HB3A.out.trans ((below_regrown wa d os).mono HB3A.out.size))
                refine wp_region_quiet_below (by kernel_rfl) (by kernel_rfl) ?_
                repeat (first | go_big_quiet_step (exact Calls.regrown_of (hq0 _ _)) | quiet_step (exact Calls.regrown_of (hq0 _ _)))
                refine wpQuiet_nil ?_
                intro _ hw'
                obtain ⟨⟨dq, osq⟩, hw''⟩ := hw'
                subst hw''
                have HBB := Lib.hid (HBA.out.trans ((below_regrown wa dq osq).mono HBA.out.size))
                have HB3B := Lib.hid (HB3A.out.trans ((below_regrown wa dq osq).mono HB3A.out.size))
                clear hq0 r0 r1 r2 z0 z1 z2 zl
                generalize Sort.grow (redrawn wa dq) osq = wb2 at *
                obtain ⟨z0, z1, z2, zl⟩ := HY.out wb2 HBB.out
                go_wp2_with (first
                  | (go_at_call 19; refine (HRUN.out wb2 HB3B.out).mono ?_; rintro xc wc ⟨rfl, hbc⟩; have HBC := Lib.hid (HBB.out.trans (hbc.mono HBB.out.size)); have HB3C := Lib.hid (HB3B.out.trans (hbc.mono HB3B.out.size)); clear hbc)
                  | fail)
                clear z0 z1 z2 zl
                obtain ⟨z0, z1, z2, zl⟩ := HY.out wc HBC.out
                have r0 := cell_regrown z0
                have r1 := cell_regrown z1
                have r2 := cell_regrown z2
                have hq0 := fun d os => HEDT.out (Sort.grow (redrawn wc d) os) (HB3C.out.trans ((below_regrown wc d os).mono HB3C.out.size))
                refine wp_region_quiet_below (by kernel_rfl) (by kernel_rfl) ?_
                repeat (first | go_big_quiet_step (exact Calls.regrown_of (hq0 _ _)) | quiet_step (exact Calls.regrown_of (hq0 _ _)))
                refine wpQuiet_nil ?_
                intro _ hw'
                obtain ⟨⟨dq, osq⟩, hw''⟩ := hw'
                subst hw''
                have HBD := Lib.hid (HBC.out.trans ((below_regrown wc dq osq).mono HBC.out.size))
                have HB3D := Lib.hid (HB3C.out.trans ((below_regrown wc dq osq).mono HB3C.out.size))
                clear hq0 r0 r1 r2 z0 z1 z2 zl
                generalize Sort.grow (redrawn wc dq) osq = wd at *
                go_wp2_with fail
                obtain ⟨z0, z1, z2, zl⟩ := HY.out wd HBD.out
                have r0 := cell_regrown z0
                have r1 := cell_regrown z1
                have r2 := cell_regrown z2
                have hq0 := fun d os => HRCO.out (Sort.grow (redrawn wd d) os) (HB3D.out.trans ((below_regrown wd d os).mono HB3D.out.size))
                have hq1 := fun d os => HREF.out (Sort.grow (redrawn wd d) os) (HB3D.out.trans ((below_regrown wd d os).mono HB3D.out.size))
                refine wp_region_quiet_below (by kernel_rfl) (by kernel_rfl) ?_
                repeat (first | go_big_quiet_step (first | exact Calls.regrown_of (hq0 _ _) | exact Calls.regrown_of (hq1 _ _)) | quiet_step (first | exact Calls.regrown_of (hq0 _ _) | exact Calls.regrown_of (hq1 _ _)))
                refine wpQuiet_nil ?_
                intro _ hw'
                obtain ⟨⟨dq, osq⟩, hw''⟩ := hw'
                subst hw''
                have HBE := Lib.hid (HBD.out.trans ((below_regrown wd dq osq).mono HBD.out.size))
                have HB3E := Lib.hid (HB3D.out.trans ((below_regrown wd dq osq).mono HB3D.out.size))
                clear hq0 hq1 r0 r1 r2 z0 z1 z2 zl
                generalize Sort.grow (redrawn wd dq) osq = we at *
                obtain ⟨z0, z1, z2, zl⟩ := HY.out we HBE.out
                cases wb
                · have hrz := HRZ.out rfl
                  subst hrz
                  have hew : ew = 3 := HEW.out.symm
                  subst hew
                  cases ev
                  all_goals
                    go_wp2_with (first
                      | (go_at_call 23; refine (HWR.out we HB3E.out).mono ?_; rintro xf wf ⟨rfl, hbf⟩; have HBF := Lib.hid (HBE.out.trans (hbf.mono HBE.out.size)); have HB3F := Lib.hid (HB3E.out.trans (hbf.mono HB3E.out.size)); obtain ⟨u0, u1, u2, ul⟩ := HY.out wf HBF.out; clear hbf)
                      | (go_at_call 14; refine (num6_same _ _).mono ?_; rintro xn wn ⟨rfl, hnn⟩; have hns := hnn.symm; clear hnn; subst hns)
                      | fail)
                    go_roundw
                    case rel => exact ⟨k + 1, by go_num, by omega, HBF.out⟩
                    case measure => simp [RowKit.intOf]; omega
                · have hew : ew = 0 := HEW.out.symm
                  have HRX := Lib.hid (fun (wx : World) (hx : Below w3.heap.size w3 wx) => HRRN.out rfl wx hx)
                  subst hew
                  cases ev
                  all_goals
                    go_wp2_with (first
                      | (go_at_call 23; refine (HWR.out we HB3E.out).mono ?_; rintro xf wf ⟨rfl, hbf⟩; have HBF := Lib.hid (HBE.out.trans (hbf.mono HBE.out.size)); have HB3F := Lib.hid (HB3E.out.trans (hbf.mono HB3E.out.size)); obtain ⟨u0, u1, u2, ul⟩ := HY.out wf HBF.out; clear hbf)
                      | (go_at_call 24; refine (HRX.out wf HB3F.out).mono ?_; rintro xg wg ⟨rfl, hbg⟩; have HBG := Lib.hid (HBF.out.trans (hbg.mono HBF.out.size)); clear hbg)
                      | (go_at_call 14; refine (num6_same _ _).mono ?_; rintro xn wn ⟨rfl, hnn⟩; have hns := hnn.symm; clear hnn; subst hns)
                      | fail)
                    go_roundw
                    case rel => exact ⟨k + 1, by go_num, by omega, HBG.out⟩
                    case measure => simp [RowKit.intOf]; omega
                -- @E1 end
              -- @E end
            · skip
              -- @F
              have hd0 : decide ((k : Int) < (nx : Int)) = false := decide_eq_false (by omega)
              clear hbk
              go_wp2_with fail
              go_loopw [26] (fun s26 wr => ∃ m : Nat, s26 = .int .i64 m ∧ m ≤ n1 ∧ Below w10.heap.size w10 wr) (fun s26 _ => n1 - (RowKit.intOf s26).toNat)
              case atStart => exact ⟨0, rfl, Nat.zero_le _, HBK.out⟩
              case round =>
                obtain ⟨m, rfl, hm, hbm⟩ := hrel
                have HBT := Lib.hid hbm
                have HB3T := Lib.hid (HB10.out.trans (hbm.mono HB10.out.size))
                by_cases hc : m < n1 ∧ (m : Int) < 4
                · skip
                  -- @O
                  obtain ⟨hm1, hm4⟩ := hc
                  have hml : m < lo.length := by rw [HL1.out]; exact hm1
                  have hm1i : (m : Int) < (n1 : Int) := by omega
                  have hm0i : (0 : Int) ≤ (m : Int) := by omega
                  have hd1 : decide ((m : Int) < (n1 : Int)) = true := decide_eq_true hm1i
                  have hd2 : decide ((m : Int) < 4) = true := decide_eq_true hm4
                  obtain ⟨e0, e1, e2, e3, hel, heW⟩ := HX3.out wr HB3T.out
                  obtain ⟨b8, off8, rfl, hb8, d0, d1, d2, d3, d4, d5, d6, d7, d8, d9, da⟩ := (HOO.out.below heW).cells m hml
                  have hoa := HOO.out.op m hml
                  have hol := (light_row HLT.out.2.2.1).2 lo[m] (List.getElem_mem hml)
                  generalize lo[m] = ro at *
                  obtain ⟨o, oa, oc⟩ := ro
                  simp only at d0 d1 d2 d3 d4 d5 d6 d7 d8 d9 da hoa hol
                  have HOL := Lib.hid hol
                  have hcp := CopyOp_any o oa oc wr (hoa.below heW).gone (by omega)
                  have HOS := Lib.hid (show o.text.size ≤ BIG from by unfold BIG; omega)
                  unfold CopyPost at hcp
                  have HCP := Lib.hid hcp
                  clear hcp hml hoa hol heW
                  obtain ⟨site, seq, kind, ⟨es, eq, ei⟩, text, gone, of, num, gen⟩ := o
                  unfold OpD.v at HCP
                  simp only at d0 d1 d2 d3 d4 d5 d6 d7 d8 d9 da HCP HOL HOS
                  have hm2 : ((m : Int)).tmod 2 = ((m % 2 : Nat) : Int) := by
                    rw [Int.tmod_eq_emod_of_nonneg (by omega)]
                    rfl
                  have hr2 : m % 2 < 2 := Nat.mod_lt _ (by decide)
                  generalize hmm2 : m % 2 = r2 at *
                  clear hmm2
                  go_upto_if 245 with (first
                    | (go_at_call 25; refine HCP.out.mono ?_; rintro x11 w11 ⟨a11, c11, rfl, hown11, hb11⟩; obtain ⟨hg11, hn11⟩ := own_gone hown11; have HG11 := Lib.hid hg11; have HN11 := Lib.hid hn11; have HB11 := Lib.hid hb11; have HB311 := Lib.hid (HB3T.out.trans (hb11.mono HB3T.out.size)); clear hown11 hb11 hg11 hn11)
                    | fail)
                  clear d0 d1 d2 d3 d4 d5 d6 d7 d8 d9 da e0 e1 e2 e3 hel hb8
                  have hblk := heap_alloc_new w11 (.cells #[.int .i64 site, .int .i64 seq, .int .i64 kind, .int .i64 es, .int .i64 eq, .int .i64 ei, .string text, .slice a11 gone.length c11, .int .i64 of, .int .i64 num, .int .i64 gen] 54)
                  have hbv : Below w11.heap.size w11 (w11.alloc (.cells #[.int .i64 site, .int .i64 seq, .int .i64 kind, .int .i64 es, .int .i64 eq, .int .i64 ei, .string text, .slice a11 gone.length c11, .int .i64 of, .int .i64 num, .int .i64 gen] 54)) := (Below.refl _ _).alloc (Nat.le_refl _) _
                  generalize w11.alloc (.cells #[.int .i64 site, .int .i64 seq, .int .i64 kind, .int .i64 es, .int .i64 eq, .int .i64 ei, .string text, .slice a11 gone.length c11, .int .i64 of, .int .i64 num, .int .i64 gen] 54) = wv at *
                  obtain ⟨bx, hbx0⟩ : ∃ q, w11.heap.size = q := ⟨_, rfl⟩
                  rw [hbx0] at hblk ⊢
                  have HBX0 := Lib.hid (show w11.heap.size ≤ bx from by omega)
                  have HBLK := Lib.hid hblk
                  have HBV := Lib.hid hbv
                  have HMN := Lib.hid (fun (s : Int) => rMany_any a3 c3 L3 s wv (HAT3.out.below (HB311.out.trans (hbv.mono HB311.out.size))))
                  unfold IntB at HMN
                  rw [HLL.out] at HMN
                  clear hbv hbx0
                  go_cut [] (fun wx => OAsk bx wr wx)
                  case first =>
                    have hbo := box_of (o := ⟨site, seq, kind, ⟨es, eq, ei⟩, text, gone, of, num, gen⟩) hblk rfl
                    have HBO := Lib.hid hbo
                    have k0 := hbo.c0
                    have k1 := hbo.c1
                    have kl := hbo.lt
                    simp only at k0 k1
                    clear hbo hblk
                    have hr3 : r2 = 0 ∨ r2 = 1 := by omega
                    rcases hr3 with rfl | rfl
                    · go_wp2_with (first
                        | (go_at_call 26; refine (HMN.out _).mono ?_; rintro xm wm ⟨rfl, hbm2⟩; have HBM := Lib.hid hbm2; have hblk2 := (hbm2.block bx kl).trans HBLK.out; have HBLK2 := Lib.hid hblk2; have hbo2 := box_of (o := ⟨site, seq, kind, ⟨es, eq, ei⟩, text, gone, of, num, gen⟩) hblk2 rfl; have f1 := blk_thaw hblk2 1; have g1 := hbo2.c1; have gl := hbo2.lt; simp only at g1; clear hbo2 hblk2 hbm2)
                        | fail)
                      go_meet
                      have hb9 : Below w11.heap.size w11 wm := HBV.out.trans (HBM.out.mono HBV.out.size)
                      exact ⟨⟨site, wrap64 ((cnt (OpR.os L3) site : Int) + 1), kind, ⟨es, eq, ei⟩, text, gone, of, num, gen⟩, a11, c11, box_of (blk_set1 HBLK2.out _) rfl, ⟨HG11.out.below (hb9.setCell HBX0.out _), by show gone.length ≤ BIG; have := HOL.out.2; unfold BIG; omega, HOS.out, HN11.out⟩, HOL.out.1, HOL.out.2, (HB11.out.trans (hb9.mono HB11.out.size)).setCell (Nat.le_trans HB11.out.size HBX0.out) _⟩
                    · go_wp2_with fail
                      go_meet
                      exact ⟨⟨site, seq, kind, ⟨es, eq, ei⟩, text, gone, of, num, gen⟩, a11, c11, HBO.out, ⟨HG11.out.below HBV.out, by show gone.length ≤ BIG; have := HOL.out.2; unfold BIG; omega, HOS.out, HN11.out⟩, HOL.out.1, HOL.out.2, HB11.out.trans (HBV.out.mono HB11.out.size)⟩
                  case rest =>
                    clear HBLK HBV HMN hblk HG11 HN11 HOL HOS HCP HBX0 hm2 hr2
                    obtain ⟨o2, oa2, oc2, hbx, hoat, hts, hgl, hbw⟩ := hcut
                    have HTS := Lib.hid hts
                    have HB3C := Lib.hid (HB3T.out.trans (hbw.mono HB3T.out.size))
                    have HBC := Lib.hid (HBT.out.trans (hbw.mono HBT.out.size))
                    have hbe := fun (wx : World) (hx : Below wc.heap.size wc wx) => rBehind_any a3 c3 L3 o2 oa2 oc2 wx (HAT3.out.below (HB3C.out.trans (hx.mono HB3C.out.size))) (HGN.out L3 HOS3.out) (by rw [HLL.out]; omega) (hoat.gone.below hx) (by omega) (by unfold BIG; omega)
                    have hri := fun (wx : World) (hx : Below wc.heap.size wc wx) => rIdle_any a3 c3 L3 o2 oa2 oc2 wx (HAT3.out.below (HB3C.out.trans (hx.mono HB3C.out.size)))
                    have HSM := Lib.hid (show ∀ Lm : List OpR, OpR.os Lm = OpR.os L3 ++ [o2] → Szs Lm from fun Lm hL r hr => by
                      have h1 : r.o ∈ OpR.os L3 ++ [o2] := by rw [← hL]; exact List.mem_map_of_mem hr
                      rcases List.mem_append.1 h1 with h1 | h1
                      · obtain ⟨r2, h2, h3⟩ := List.mem_map.1 h1
                        rw [← h3]
                        exact HSZ3.out r2 h2
                      · rw [List.mem_singleton.1 h1]
                        omega)
                    have HLM := Lib.hid (show ∀ Lm : List OpR, OpR.os Lm = OpR.os L3 ++ [o2] → Lm.length = nr + 1 from fun Lm hL => by
                      have h1 := congrArg List.length hL
                      rw [os_len, List.length_append, os_len, HLL.out] at h1
                      exact h1)
                    unfold BehPost at hbe
                    unfold BoB at hri
                    rw [HLL.out] at hbe hri
                    have HBE := Lib.hid hbe
                    have HRI := Lib.hid hri
                    have HBX2 := Lib.hid hbx
                    clear hbe hri hts hgl hbw
                    by_cases hrow2 : rowP (OpR.os L3 ++ [o2])
                    · as_aux_lemma =>
                      -- @OY
                      have hid := dIdle_ok a3 c3 L3 o2 oa2 oc2 wc (HAT3.out.below HB3C.out) (by rw [HLL.out]; exact HC3.out) hoat hrow2 HRW3.out (tog_fit hrow2)
                      unfold EffPost at hid
                      rw [HLL.out] at hid
                      have HID := Lib.hid hid
                      have HRB := Lib.hid (show rowB (OpR.os L3 ++ [o2]) = true from (rowB_iff _).2 hrow2)
                      clear hid hrow2 hoat hbx
                      generalize idl (OpR.os L3) o2 = il at *
                      generalize hL9 : OpR.os L3 ++ [o2] = L9 at *
                      clear hL9
                      obtain ⟨zs, zq, zk, ⟨ze, zeq, zei⟩, ztx, zgo, zof, znu, zge⟩ := o2
                      unfold OpD.v at HID HBE HRI
                      simp only at HID HBE HRI
                      have hxx := HBX2.out
                      have d0 := hxx.c0
                      have d1 := hxx.c1
                      have d2 := hxx.c2
                      have d3 := hxx.c3
                      have d4 := hxx.c4
                      have d5 := hxx.c5
                      have d6 := hxx.c6
                      have d7 := hxx.c7
                      have d8 := hxx.c8
                      have d9 := hxx.c9
                      have da := hxx.ca
                      have dl := hxx.lt
                      simp only at d0 d1 d2 d3 d4 d5 d6 d7 d8 d9 da
                      clear hxx
                      cases il
                      all_goals
                        go_wp2_with (first
                          | (go_at_call 27; refine HID.out.mono ?_; rintro x12 w12 ⟨rfl, hb12⟩; have HB12 := Lib.hid hb12; have hxx := HBX2.out.step HB12.out; have g0 := hxx.c0; have g1 := hxx.c1; have g2 := hxx.c2; have g3 := hxx.c3; have g4 := hxx.c4; have g5 := hxx.c5; have g6 := hxx.c6; have g7 := hxx.c7; have g8 := hxx.c8; have g9 := hxx.c9; have ga := hxx.ca; have gl := hxx.lt; simp only at g0 g1 g2 g3 g4 g5 g6 g7 g8 g9 ga; clear hxx; clear hb12)
                          | (go_at_call 28; refine (HBE.out w12 HB12.out).mono ?_; rintro x13 w13 ⟨v13, Lm, rfl, hown13, hos13, hb13⟩; have hlm := HLM.out Lm hos13; obtain ⟨am, cm, rfl, ham, hcm⟩ := hown13.ops (by unfold BIG; omega); have HAM := Lib.hid ham; have HCM := Lib.hid hcm; have HOM := Lib.hid hos13; have HLM2 := Lib.hid hlm; have HB13 := Lib.hid (HB12.out.trans (hb13.mono HB12.out.size)); rw [hlm]; clear hown13 ham hcm hos13 hb13 hlm)
                          | (go_at_call 9; have hrr := rRow_any am cm Lm w13 (HT3.out _ (HB3C.out.trans (HB13.out.mono HB3C.out.size))) (HSM.out Lm HOM.out) HAM.out HCM.out; rw [HLM2.out, HOM.out, HRB.out] at hrr; refine hrr.mono ?_; rintro x14 w14 ⟨rfl, hb14⟩; have HB14 := Lib.hid (HB13.out.trans (hb14.mono HB13.out.size)); have hxx := HBX2.out.step HB14.out; have u0 := hxx.c0; have u1 := hxx.c1; have u2 := hxx.c2; have u3 := hxx.c3; have u4 := hxx.c4; have u5 := hxx.c5; have u6 := hxx.c6; have u7 := hxx.c7; have u8 := hxx.c8; have u9 := hxx.c9; have ua := hxx.ca; have ul := hxx.lt; simp only at u0 u1 u2 u3 u4 u5 u6 u7 u8 u9 ua; clear hxx; clear hb14 hrr)
                          | (go_at_call 29; refine (HRI.out w14 HB14.out).mono ?_; rintro x15 w15 ⟨rfl, hb15⟩; have HB15 := Lib.hid (HB14.out.trans (hb15.mono HB14.out.size)); clear hb15)
                          | (go_at_call 14; refine (num6_same _ _).mono ?_; rintro xn wn ⟨rfl, hnn⟩; have hns := hnn.symm; clear hnn; subst hns)
                          | fail)
                        go_roundw
                        case rel => exact ⟨m + 1, by go_num, by omega, HBC.out.trans (HB15.out.mono HBC.out.size)⟩
                        case measure => simp [RowKit.intOf]; omega
                      -- @OY end
                    · as_aux_lemma =>
                      -- @ON
                      have hid := dIdle_then a3 c3 L3 o2 oa2 oc2 wc (HAT3.out.below HB3C.out) (by rw [HLL.out]; exact HC3.out) HRW3.out hoat hrow2
                      unfold EffPost at hid
                      rw [HLL.out] at hid
                      have HID := Lib.hid hid
                      have HRB := Lib.hid (show rowB (OpR.os L3 ++ [o2]) = false from rowB_no hrow2)
                      clear hid hrow2 hoat hbx
                      generalize idl (OpR.os L3) o2 = il at *
                      generalize hL9 : OpR.os L3 ++ [o2] = L9 at *
                      clear hL9
                      obtain ⟨zs, zq, zk, ⟨ze, zeq, zei⟩, ztx, zgo, zof, znu, zge⟩ := o2
                      unfold OpD.v at HID HBE HRI
                      simp only at HID HBE HRI
                      have hxx := HBX2.out
                      have d0 := hxx.c0
                      have d1 := hxx.c1
                      have d2 := hxx.c2
                      have d3 := hxx.c3
                      have d4 := hxx.c4
                      have d5 := hxx.c5
                      have d6 := hxx.c6
                      have d7 := hxx.c7
                      have d8 := hxx.c8
                      have d9 := hxx.c9
                      have da := hxx.ca
                      have dl := hxx.lt
                      simp only at d0 d1 d2 d3 d4 d5 d6 d7 d8 d9 da
                      clear hxx
                      go_wp2_with (first
                        | (go_at_call 27; refine HID.out.mono ?_; rintro x12 w12 ⟨rfl, hb12⟩; have HB12 := Lib.hid hb12; have hxx := HBX2.out.step HB12.out; have g0 := hxx.c0; have g1 := hxx.c1; have g2 := hxx.c2; have g3 := hxx.c3; have g4 := hxx.c4; have g5 := hxx.c5; have g6 := hxx.c6; have g7 := hxx.c7; have g8 := hxx.c8; have g9 := hxx.c9; have ga := hxx.ca; have gl := hxx.lt; simp only at g0 g1 g2 g3 g4 g5 g6 g7 g8 g9 ga; clear hxx; clear hb12)
                        | (go_at_call 28; refine (HBE.out w12 HB12.out).mono ?_; rintro x13 w13 ⟨v13, Lm, rfl, hown13, hos13, hb13⟩; have hlm := HLM.out Lm hos13; obtain ⟨am, cm, rfl, ham, hcm⟩ := hown13.ops (by unfold BIG; omega); have HAM := Lib.hid ham; have HCM := Lib.hid hcm; have HOM := Lib.hid hos13; have HLM2 := Lib.hid hlm; have HB13 := Lib.hid (HB12.out.trans (hb13.mono HB12.out.size)); rw [hlm]; clear hown13 ham hcm hos13 hb13 hlm)
                        | (go_at_call 9; have hrr := rRow_any am cm Lm w13 (HT3.out _ (HB3C.out.trans (HB13.out.mono HB3C.out.size))) (HSM.out Lm HOM.out) HAM.out HCM.out; rw [HLM2.out, HOM.out, HRB.out] at hrr; refine hrr.mono ?_; rintro x14 w14 ⟨rfl, hb14⟩; have HB14 := Lib.hid (HB13.out.trans (hb14.mono HB13.out.size)); clear hb14 hrr)
                        | (go_at_call 14; refine (num6_same _ _).mono ?_; rintro xn wn ⟨rfl, hnn⟩; have hns := hnn.symm; clear hnn; subst hns)
                        | fail)
                      go_roundw
                      case rel => exact ⟨m + 1, by go_num, by omega, HBC.out.trans (HB14.out.mono HBC.out.size)⟩
                      case measure => simp [RowKit.intOf]; omega
                      -- @ON end
                  -- @O end
                · as_aux_lemma =>
                  -- @Q
                  by_cases hm1 : m < n1
                  · have hd1 : decide ((m : Int) < (n1 : Int)) = true := decide_eq_true (by omega)
                    have hd2 : decide ((m : Int) < 4) = false := decide_eq_false (fun h => hc ⟨hm1, h⟩)
                    obtain ⟨e0, e1, e2, e3, hel, heW⟩ := HX3.out wr HB3T.out
                    have HOWT := Lib.hid (owns_belE HOW10.out (HBT.out))
                    have HB4T := Lib.hid (HB410.out.trans (HBT.out.mono HB410.out.size))
                    have HSP := Lib.hid (Spoil_own a5 c5 nv w4.heap.size w4.heap.size (ecs XV) w4 wr HOWT.out (Nat.le_refl _) HB4T.out (by omega))
                    unfold SpoilPost at HSP
                    clear hbm
                    go_wp2_with (first
                      | (go_at_call 30; refine HSP.out.mono ?_; rintro xh wh ⟨rfl, hbh⟩; have HBH := Lib.hid (HB4.out.trans (hbh.mono HB4.out.size)); obtain ⟨g0, g1, g2, g3, hgl, heW⟩ := HX3.out wh HBH.out; have HEW9 := Lib.hid heW; obtain ⟨cr1, hbr1⟩ := HCW.out _ heW; clear hbh heW)
                      | (go_at_call 31; have ho := EqOps_yes a3 ra c3 rc L3 rl wh (HAT3.out.below HBH.out) (HRO.out.below HEW9.out) HOS3.out (HGN.out L3 HOS3.out) (by rw [HLL.out]; omega); rw [HLL.out, HNR.out] at ho; refine ho.mono ?_; rintro xi wi ⟨rfl, hbi⟩; have HBI := Lib.hid (HBH.out.trans (hbi.mono HBH.out.size)); clear hbi ho)
                      | fail)
                    go_roundw
                    case rel => exact ⟨i + 1, by go_num, by omega, HB3.out.trans (HBI.out.mono HB3.out.size)⟩
                    case measure => simp [RowKit.intOf]; omega
                  · have hd1 : decide ((m : Int) < (n1 : Int)) = false := decide_eq_false (by omega)
                    obtain ⟨e0, e1, e2, e3, hel, heW⟩ := HX3.out wr HB3T.out
                    have HOWT := Lib.hid (owns_belE HOW10.out (HBT.out))
                    have HB4T := Lib.hid (HB410.out.trans (HBT.out.mono HB410.out.size))
                    have HSP := Lib.hid (Spoil_own a5 c5 nv w4.heap.size w4.heap.size (ecs XV) w4 wr HOWT.out (Nat.le_refl _) HB4T.out (by omega))
                    unfold SpoilPost at HSP
                    clear hbm
                    go_wp2_with (first
                      | (go_at_call 30; refine HSP.out.mono ?_; rintro xh wh ⟨rfl, hbh⟩; have HBH := Lib.hid (HB4.out.trans (hbh.mono HB4.out.size)); obtain ⟨g0, g1, g2, g3, hgl, heW⟩ := HX3.out wh HBH.out; have HEW9 := Lib.hid heW; obtain ⟨cr1, hbr1⟩ := HCW.out _ heW; clear hbh heW)
                      | (go_at_call 31; have ho := EqOps_yes a3 ra c3 rc L3 rl wh (HAT3.out.below HBH.out) (HRO.out.below HEW9.out) HOS3.out (HGN.out L3 HOS3.out) (by rw [HLL.out]; omega); rw [HLL.out, HNR.out] at ho; refine ho.mono ?_; rintro xi wi ⟨rfl, hbi⟩; have HBI := Lib.hid (HBH.out.trans (hbi.mono HBH.out.size)); clear hbi ho)
                      | fail)
                    go_roundw
                    case rel => exact ⟨i + 1, by go_num, by omega, HB3.out.trans (HBI.out.mono HB3.out.size)⟩
                    case measure => simp [RowKit.intOf]; omega
                  -- @Q end
              -- @F end
          -- @G end
        · skip
          -- @B
          rw [show rowB (OpR.os rl) = false from rowB_no hrow] at HRR
          have HROW := Lib.hid hrow
          clear hrow
          go_wp2_with (first
            | (go_at_call 8; refine (HCO.out wr HBW.out).mono ?_; rintro x3 w3 ⟨v3, L3, rfl, hown3, hos3, hb3⟩; have hl3 : L3.length = nr := (by have h := congrArg List.length hos3; rw [os_len, os_len, HNR.out] at h; exact h); obtain ⟨a3, c3, rfl, hat3, hc3⟩ := hown3.ops (by unfold BIG; omega); rw [hl3] at hc3 ⊢; have HLL := Lib.hid hl3; have HAT3 := Lib.hid hat3; have HOS3 := Lib.hid hos3; have HB3 := Lib.hid (HB.out.trans (hb3.mono HB.out.size)); obtain ⟨p0, p1, p2, p3, hp0, hpW⟩ := HXX.out _ HB3.out; obtain ⟨cr1, hbr1⟩ := HCW.out _ hpW; have HBW3 := Lib.hid hpW; clear hown3 hat3 hos3 hb3 hl3 hc3 hpW)
            | (go_at_call 9; refine (HRR.out w3 HBW3.out).mono ?_; rintro x4 w4 ⟨rfl, hb4⟩; have HB4 := Lib.hid hb4; clear hb4)
            | (go_at_call 10; have ho := dVis_bad a3 c3 L3 w4 (HAT3.out.below HB4.out) (by rw [HOS3.out]; exact HROW.out); unfold OrdNo at ho; rw [HLL.out] at ho; refine ho.mono ?_; rintro x5 w5 ⟨rfl, hb5⟩; have HB45 := Lib.hid hb5; have HB5 := Lib.hid (HB4.out.trans (hb5.mono HB4.out.size)); clear hb5 ho)
            | (go_at_call 11; have ho := dText_bad a3 c3 L3 w5 (HAT3.out.below HB5.out) (by rw [HOS3.out]; exact HROW.out); unfold TextPost at ho; rw [HLL.out] at ho; refine ho.mono ?_; rintro x6 w6 ⟨rfl, hb6⟩; have HB46 := Lib.hid (HB45.out.trans (hb6.mono HB45.out.size)); have HB6 := Lib.hid (HB5.out.trans (hb6.mono HB5.out.size)); clear hb6 ho)
            | (go_at_call 14; refine (num6_same _ _).mono ?_; rintro xn wn ⟨rfl, hnn⟩; have hns := hnn.symm; clear hnn; subst hns)
            | (go_at_call 15; have ho := EqElems_any none none 0 0 [] [] w6 (ElemsAt.nil none) (ElemsAt.nil none) (by simp) (by simp); rw [decide_eq_true (rfl : ([] : List El) = [])] at ho; refine ho.mono ?_; rintro x9 w9 ⟨rfl, hb9⟩; have HB49 := Lib.hid (HB46.out.trans (hb9.mono HB46.out.size)); have HB9 := Lib.hid (HB6.out.trans (hb9.mono HB6.out.size)); obtain ⟨e0, e1, e2, e3, hel, heW⟩ := HXX.out _ (HB3.out.trans (HB9.out.mono HB3.out.size)); clear hb9 ho)
            | (go_at_call 16; have ho := HELT.out a3 c3 L3 w9 heW (HAT3.out.below HB9.out) HLT.out.1; rw [HLL.out] at ho; refine ho.mono ?_; rintro x10 w10 ⟨X, hX, hgx, v10, rfl, hown10, hb10⟩; obtain ⟨a10, c10, hv10, he10, _⟩ := elems_own hown10; subst hv10; have HE10 := Lib.hid he10; have HB410 := Lib.hid (HB49.out.trans (hb10.mono HB49.out.size)); have HB10 := Lib.hid (HB9.out.trans (hb10.mono HB9.out.size)); clear hgx hown10 hb10 he10 ho)
            | fail)
          obtain ⟨nx, hnx⟩ : ∃ n, X.length = n := ⟨_, rfl⟩
          have HNX := Lib.hid hnx
          rw [hnx] at hX ⊢
          clear hnx p0 p1 p2 p3 hp0 cr1 hbr1 e0 e1 e2 e3 hel heW HELF HELT HRR HCO hcap cr0 hbr q0 q1 q2 q3 hq0
          have HNR3 := Lib.hid (show ¬ rowP (OpR.os L3) from by rw [HOS3.out]; exact HROW.out)
          have HX3 := Lib.hid (fun (wx : World) (hx : Below w3.heap.size w3 wx) => HXX.out _ (HB3.out.trans (hx.mono HB3.out.size)))
          go_loopw [14] (fun s14 wr => ∃ k : Nat, s14 = .int .i64 k ∧ k ≤ nx ∧ Below w10.heap.size w10 wr) (fun s14 _ => nx - (RowKit.intOf s14).toNat)
          case atStart => exact ⟨0, rfl, Nat.zero_le _, Below.refl _ _⟩
          case round =>
            obtain ⟨k, rfl, hk, hbk⟩ := hrel
            have HBK := Lib.hid hbk
            have HB3K := Lib.hid (HB10.out.trans (hbk.mono HB10.out.size))
            by_cases hkx : k < nx
            · as_aux_lemma =>
              -- @BE
              have hkl : k < X.length := by rw [HNX.out]; exact hkx
              have hkx1 : (k : Int) < (nx : Int) := by omega
              have hkx0 : (0 : Int) ≤ (k : Int) := by omega
              have hd0 : decide ((k : Int) < (nx : Int)) = true := decide_eq_true hkx1
              obtain ⟨b7, off7, rfl, hb7, y0, y1, y2⟩ := HE10.out.cell k hkl
              generalize X[k] = e at *
              clear hkl
              have HCOU := Lib.hid (fun (wx : World) (hx : Below w3.heap.size w3 wx) => dCount_bad a3 c3 L3 e.s e.q wx (HAT3.out.below hx) HNR3.out)
              have HEFF := Lib.hid (fun (wx : World) (hx : Below w3.heap.size w3 wx) => dEff_bad a3 c3 L3 e.s e.q wx (HAT3.out.below hx) HNR3.out)
              have HRUN := Lib.hid (fun (wx : World) (hx : Below w3.heap.size w3 wx) => dRune_bad a3 c3 L3 e wx (HAT3.out.below hx) HNR3.out)
              rw [HLL.out] at HCOU HEFF HRUN
              obtain ⟨es, eq, ei⟩ := e
              unfold El.v at HRUN
              unfold CouPost at HCOU
              unfold EffPost at HEFF
              unfold DRnPost at HRUN
              simp only at y0 y1 y2 HCOU HEFF HRUN
              have HY := Lib.hid (fun (wx : World) (hx : Below w10.heap.size w10 wx) => And.intro ((hx.cell (p := ⟨b7, off7 + k * 3, none⟩) hb7).trans y0) (And.intro ((hx.cell (p := ⟨b7, off7 + k * 3 + 1, none⟩) hb7).trans y1) (And.intro ((hx.cell (p := ⟨b7, off7 + k * 3 + 2, none⟩) hb7).trans y2) (Nat.lt_of_lt_of_le hb7 hx.size))))
              clear y0 y1 y2 hbk hb7
              go_wp2_with fail
              obtain ⟨z0, z1, z2, zl⟩ := HY.out wr HBK.out
              have r0 := cell_regrown z0
              have r1 := cell_regrown z1
              have r2 := cell_regrown z2
              have hq0 := fun d os => HCOU.out (Sort.grow (redrawn wr d) os) (HB3K.out.trans ((below_regrown wr d os).mono HB3K.out.size))
              refine wp_region_quiet_below (by kernel_rfl) (by kernel_rfl) ?_
              repeat (first | go_big_quiet_step (exact Calls.regrown_of (hq0 _ _)) | quiet_step (exact Calls.regrown_of (hq0 _ _)))
              refine wpQuiet_nil ?_
              intro _ hw'
              obtain ⟨⟨dq, osq⟩, hw''⟩ := hw'
              subst hw''
              have HBA := Lib.hid (HBK.out.trans ((below_regrown wr dq osq).mono HBK.out.size))
              have HB3A := Lib.hid (HB3K.out.trans ((below_regrown wr dq osq).mono HB3K.out.size))
              clear hq0 r0 r1 r2 z0 z1 z2 zl
              generalize Sort.grow (redrawn wr dq) osq = wa at *
              go_wp2_with fail
              obtain ⟨z0, z1, z2, zl⟩ := HY.out wa HBA.out
              have r0 := cell_regrown z0
              have r1 := cell_regrown z1
              have r2 := cell_regrown z2
              have hq0 := fun d os => HEFF.out (Sort.grow (redrawn wa d) os) (HB3A.out.trans ((below_regrown wa d os).mono HB3A.out.size))
              refine wp_region_quiet_below (by kernel_rfl) (by kernel_rfl) ?_
              repeat (first | go_big_quiet_step (exact Calls.regrown_of (hq0 _ _)) | quiet_step (exact Calls.regrown_of (hq0 _ _)))
              refine wpQuiet_nil ?_
              intro _ hw'
              obtain ⟨⟨dq, osq⟩, hw''⟩ := hw'
              subst hw''
              have HBB := Lib.hid (HBA.out.trans ((below_regrown wa dq osq).mono HBA.out.size))
              have HB3B := Lib.hid (HB3A.out.trans ((below_regrown wa dq osq).mono HB3A.out.size))
              clear hq0 r0 r1 r2 z0 z1 z2 zl
              generalize Sort.grow (redrawn wa dq) osq = wb2 at *
              obtain ⟨z0, z1, z2, zl⟩ := HY.out wb2 HBB.out
              go_wp2_with (first
                | (go_at_call 19; refine (HRUN.out wb2 HB3B.out).mono ?_; rintro xc wc ⟨rfl, hbc⟩; have HBC := Lib.hid (HBB.out.trans (hbc.mono HBB.out.size)); clear hbc)
                | (go_at_call 14; refine (num6_same _ _).mono ?_; rintro xn wn ⟨rfl, hnn⟩; have hns := hnn.symm; clear hnn; subst hns)
                | fail)
              go_roundw
              case rel => exact ⟨k + 1, by go_num, by omega, HBC.out⟩
              case measure => simp [RowKit.intOf]; omega
              -- @BE end
            · skip
              -- @BF
              have hd0 : decide ((k : Int) < (nx : Int)) = false := decide_eq_false (by omega)
              clear hbk
              go_wp2_with fail
              go_loopw [26] (fun s26 wr => ∃ m : Nat, s26 = .int .i64 m ∧ m ≤ n1 ∧ Below w10.heap.size w10 wr) (fun s26 _ => n1 - (RowKit.intOf s26).toNat)
              case atStart => exact ⟨0, rfl, Nat.zero_le _, HBK.out⟩
              case round =>
                obtain ⟨m, rfl, hm, hbm⟩ := hrel
                have HBT := Lib.hid hbm
                have HB3T := Lib.hid (HB10.out.trans (hbm.mono HB10.out.size))
                by_cases hc : m < n1 ∧ (m : Int) < 4
                · as_aux_lemma =>
                  -- @P
                  obtain ⟨hm1, hm4⟩ := hc
                  have hml : m < lo.length := by rw [HL1.out]; exact hm1
                  have hm1i : (m : Int) < (n1 : Int) := by omega
                  have hm0i : (0 : Int) ≤ (m : Int) := by omega
                  have hd1 : decide ((m : Int) < (n1 : Int)) = true := decide_eq_true hm1i
                  have hd2 : decide ((m : Int) < 4) = true := decide_eq_true hm4
                  obtain ⟨e0, e1, e2, e3, hel, heW⟩ := HX3.out wr HB3T.out
                  obtain ⟨b8, off8, rfl, hb8, d0, d1, d2, d3, d4, d5, d6, d7, d8, d9, da⟩ := (HOO.out.below heW).cells m hml
                  have hoa := HOO.out.op m hml
                  have hol := (light_row HLT.out.2.2.1).2 lo[m] (List.getElem_mem hml)
                  generalize lo[m] = ro at *
                  obtain ⟨o, oa, oc⟩ := ro
                  simp only at d0 d1 d2 d3 d4 d5 d6 d7 d8 d9 da hoa hol
                  have HOL := Lib.hid hol
                  have hcp := CopyOp_any o oa oc wr (hoa.below heW).gone (by omega)
                  have HOS := Lib.hid (show o.text.size ≤ BIG from by unfold BIG; omega)
                  unfold CopyPost at hcp
                  have HCP := Lib.hid hcp
                  clear hcp hml hoa hol heW
                  obtain ⟨site, seq, kind, ⟨es, eq, ei⟩, text, gone, of, num, gen⟩ := o
                  unfold OpD.v at HCP
                  simp only at d0 d1 d2 d3 d4 d5 d6 d7 d8 d9 da HCP HOL HOS
                  have hid := fun (w11 : World) (a11 : Option Addr) (c11 : Nat) (hx : Below w3.heap.size w3 w11) => dIdle_first a3 c3 L3 ⟨site, seq, kind, ⟨es, eq, ei⟩, text, gone, of, num, gen⟩ a11 c11 w11 (HAT3.out.below hx) HNR3.out
                  unfold EffPost OpD.v at hid
                  rw [HLL.out] at hid
                  simp only at hid
                  have HID := Lib.hid hid
                  clear hid
                  go_wp2_with (first
                    | (go_at_call 25; refine HCP.out.mono ?_; rintro x11 w11 ⟨a11, c11, rfl, hown11, hb11⟩; obtain ⟨hg11, hn11⟩ := own_gone hown11; have HG11 := Lib.hid hg11; have HN11 := Lib.hid hn11; have HB11 := Lib.hid hb11; have HB311 := Lib.hid (HB3T.out.trans (hb11.mono HB3T.out.size)); have HBL := Lib.hid ((Below.refl w11.heap.size w11).alloc (Nat.le_refl _) (.cells #[.int .i64 site, .int .i64 seq, .int .i64 kind, .int .i64 es, .int .i64 eq, .int .i64 ei, .string text, .slice a11 gone.length c11, .int .i64 of, .int .i64 num, .int .i64 gen] 54)); clear hown11 hb11 hg11 hn11)
                    | (go_at_call 27; refine (HID.out _ a11 c11 (HB311.out.trans (HBL.out.mono HB311.out.size))).mono ?_; rintro x12 w12 ⟨rfl, hb12⟩; have HB12 := Lib.hid ((HB11.out.trans (HBL.out.mono HB11.out.size)).trans (hb12.mono (HB11.out.trans (HBL.out.mono HB11.out.size)).size)); clear hb12)
                    | (go_at_call 14; refine (num6_same _ _).mono ?_; rintro xn wn ⟨rfl, hnn⟩; have hns := hnn.symm; clear hnn; subst hns)
                    | fail)
                  go_roundw
                  case rel => exact ⟨m + 1, by go_num, by omega, HBT.out.trans (HB12.out.mono HBT.out.size)⟩
                  case measure => simp [RowKit.intOf]; omega
                  -- @P end
                · as_aux_lemma =>
                  -- @R
                  by_cases hm1 : m < n1
                  · have hd1 : decide ((m : Int) < (n1 : Int)) = true := decide_eq_true (by omega)
                    have hd2 : decide ((m : Int) < 4) = false := decide_eq_false (fun h => hc ⟨hm1, h⟩)
                    obtain ⟨e0, e1, e2, e3, hel, heW⟩ := HX3.out wr HB3T.out
                    have HB4T := Lib.hid (HB410.out.trans (HBT.out.mono HB410.out.size))
                    have HSP := Lib.hid (Spoil_own none 0 0 wr.heap.size w4.heap.size [] w4 wr (World.ownsRow_nil _ _ _ _) HB4T.out.size HB4T.out (by omega))
                    unfold SpoilPost at HSP
                    clear hbm
                    go_wp2_with (first
                      | (go_at_call 30; refine HSP.out.mono ?_; rintro xh wh ⟨rfl, hbh⟩; have HBH := Lib.hid (HB4.out.trans (hbh.mono HB4.out.size)); obtain ⟨g0, g1, g2, g3, hgl, heW⟩ := HX3.out wh HBH.out; have HEW9 := Lib.hid heW; obtain ⟨cr1, hbr1⟩ := HCW.out _ heW; clear hbh heW)
                      | (go_at_call 31; have ho := EqOps_yes a3 ra c3 rc L3 rl wh (HAT3.out.below HBH.out) (HRO.out.below HEW9.out) HOS3.out (HGN.out L3 HOS3.out) (by rw [HLL.out]; omega); rw [HLL.out, HNR.out] at ho; refine ho.mono ?_; rintro xi wi ⟨rfl, hbi⟩; have HBI := Lib.hid (HBH.out.trans (hbi.mono HBH.out.size)); clear hbi ho)
                      | fail)
                    go_roundw
                    case rel => exact ⟨i + 1, by go_num, by omega, HB3.out.trans (HBI.out.mono HB3.out.size)⟩
                    case measure => simp [RowKit.intOf]; omega
                  · have hd1 : decide ((m : Int) < (n1 : Int)) = false := decide_eq_false (by omega)
                    obtain ⟨e0, e1, e2, e3, hel, heW⟩ := HX3.out wr HB3T.out
                    have HB4T := Lib.hid (HB410.out.trans (HBT.out.mono HB410.out.size))
                    have HSP := Lib.hid (Spoil_own none 0 0 wr.heap.size w4.heap.size [] w4 wr (World.ownsRow_nil _ _ _ _) HB4T.out.size HB4T.out (by omega))
                    unfold SpoilPost at HSP
                    clear hbm
                    go_wp2_with (first
                      | (go_at_call 30; refine HSP.out.mono ?_; rintro xh wh ⟨rfl, hbh⟩; have HBH := Lib.hid (HB4.out.trans (hbh.mono HB4.out.size)); obtain ⟨g0, g1, g2, g3, hgl, heW⟩ := HX3.out wh HBH.out; have HEW9 := Lib.hid heW; obtain ⟨cr1, hbr1⟩ := HCW.out _ heW; clear hbh heW)
                      | (go_at_call 31; have ho := EqOps_yes a3 ra c3 rc L3 rl wh (HAT3.out.below HBH.out) (HRO.out.below HEW9.out) HOS3.out (HGN.out L3 HOS3.out) (by rw [HLL.out]; omega); rw [HLL.out, HNR.out] at ho; refine ho.mono ?_; rintro xi wi ⟨rfl, hbi⟩; have HBI := Lib.hid (HBH.out.trans (hbi.mono HBH.out.size)); clear hbi ho)
                      | fail)
                    go_roundw
                    case rel => exact ⟨i + 1, by go_num, by omega, HB3.out.trans (HBI.out.mono HB3.out.size)⟩
                    case measure => simp [RowKit.intOf]; omega
                  -- @R end
              -- @BF end
          -- @B end
      · have hd4 : decide ((i : Int) < 4) = false := decide_eq_false h4
        go_wp2_with (first | (go_at_call 32; refine (HWK.out _).mono ?_; rintro x2 w2 ⟨rfl, hb2⟩; have HB2 := Lib.hid (HBW.out.trans (hb2.mono HBW.out.size)); clear hb2) | fail)
        go_ret
        exact ⟨rfl, HB2.out⟩
    · have hd4 : decide ((i : Int) < (n0 : Int)) = false := decide_eq_false (by omega)
      go_wp2_with (first | (go_at_call 32; refine (HWK.out _).mono ?_; rintro x2 w2 ⟨rfl, hb2⟩; have HB2 := Lib.hid (HBW.out.trans (hb2.mono HBW.out.size)); clear hb2) | fail)
      go_ret
      exact ⟨rfl, HB2.out⟩
end Go.Proofs.YtebkeocfgcekmaaGreatDoor
