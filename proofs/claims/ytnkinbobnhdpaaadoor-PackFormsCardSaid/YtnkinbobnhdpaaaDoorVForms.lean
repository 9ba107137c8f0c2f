/- the law PackForms -/
import Derived.Test.YtnkinbobnhdpaaaDoorKSome
import Derived.Test.YtnkinbobnhdpaaaDoorKBoth
import Derived.Test.YtnkinbobnhdpaaaDoorKPgB
import Derived.Test.YtnkinbobnhdpaaaDoorORop
namespace Go.Proofs.YtnkinbobnhdpaaaDoor
open Go.RowKit Go.Lib Go.Shelf Go.Sort

theorem sm_at {g k : Nat} (h : k < (smR g).length) : okOp (smR g)[k].o = true ∧ (smR g)[k].o.text.size ≤ 60000 := by
  have h4 : k < 4 := h
  have hk : k = 0 ∨ k = 1 ∨ k = 2 ∨ k = 3 := by omega
  rcases hk with rfl | rfl | rfl | rfl
  · exact ⟨sm_ok sm0 (by simp [smL]), (by decide : sm0.text.size ≤ 60000)⟩
  · exact ⟨sm_ok sm1 (by simp [smL]), (by decide : sm1.text.size ≤ 60000)⟩
  · exact ⟨sm_ok sm2 (by simp [smL]), (by decide : sm2.text.size ≤ 60000)⟩
  · exact ⟨sm_ok sm3 (by simp [smL]), (by decide : sm3.text.size ≤ 60000)⟩
set_option maxRecDepth 100000 in
set_option maxHeartbeats 16000000 in
theorem packForms_walk (p : PAsk) (w : World) (h : PAskAt w p) (htab : Tabs w) : Calls Tryd.prog 11 #[p.v] w (BoB true w) := by
  have HB := Lib.hid (below_al w (.cells p.A 30))
  have HX := Lib.hid (Hp.new w p.A 30)
  have HTB := Lib.hid (fun wx (hx : Below w.heap.size w wx) => htab.next hx)
  have hsl := h.s.len
  have hbi := big_is
  clear h htab
  obtain ⟨⟨lo, le, ln, ao, ae, an, co, ce, cn⟩, ms, am, cm, ss, as_, cs_⟩ := p
  unfold PAsk.v PAsk.A at *
  simp only at HB HX hsl ⊢
  obtain ⟨n9, hn9⟩ : ∃ n, ss.length = n := ⟨_, rfl⟩
  rw [hn9] at HB HX hsl ⊢
  clear hn9
  have hs9 : (n9 : Int) ≤ 140737488351232 := by omega
  clear hsl hbi
  have HNU := Lib.hid (fun n wx => num12_any n wx)
  have HSM := Lib.hid (fun wx => some_any wx)
  go_enter Tryd.func11, Tryd.ntmps11
  go_upto_region 1 with fail
  generalize w.alloc (.cells #[.slice ao lo.length co, .slice ae le.length ce, .slice an ln.length cn, .slice am ms.length cm, .slice as_ n9 cs_] 30) = W0 at *
  obtain ⟨bx, hbx⟩ : ∃ b, w.heap.size = b := ⟨_, rfl⟩
  rw [hbx] at HX ⊢
  clear hbx
  go_wp2_with (first
    | (go_at_call 36; refine (HSM.out _).mono ?_; rintro e w1 ⟨b, rfl, ⟨g, ho⟩, hb1⟩; have HO := Lib.hid ho; have HX1 := Lib.hid (HX.out.step hb1); have HB1 := Lib.hid (HB.out.trans (hb1.mono HB.out.size)); clear ho hb1)
    | fail)
  clear HX HB HSM
  go_loopw [4] (fun i wr => ∃ k : Nat, k ≤ 4 ∧ i = .int .i64 k ∧ Below w1.heap.size w1 wr) (fun i _ => 4 - (RowKit.intOf i).toNat)
  case atStart => exact ⟨0, Nat.zero_le _, rfl, Below.refl _ _⟩
  case round =>
    obtain ⟨k, hk, rfl, hbel⟩ := hrel
    have HBR := Lib.hid hbel
    clear hbel
    by_cases hlt : k < 4
    · have hkl : k < (smR g).length := hlt
      have hli : (k : Int) < 4 := by omega
      have HOR := Lib.hid (HO.out.below HBR.out)
      have HOA := Lib.hid (HOR.out.op k hkl)
      obtain ⟨hok, hts⟩ := sm_at hkl
      obtain ⟨b2, off, ha, hbK, c0, c1, c2, c3, c4, c5, c6, c7, c8, c9, ca⟩ := HOR.out.cells k hkl
      simp only [Option.some.injEq, Addr.mk.injEq] at ha
      obtain ⟨rfl, rfl, _⟩ := ha
      simp only [Nat.zero_add] at c0 c1 c2 c3 c4 c5 c6 c7 c8 c9 ca
      generalize (smR g)[k] = r at *
      clear hkl HOR
      obtain ⟨⟨os, oq, ok, ⟨es, eq, ei⟩, text, gone, of, num, gen⟩, ra, rc⟩ := r
      obtain ⟨gn, hgn⟩ : ∃ n, gone.length = n := ⟨_, rfl⟩
      simp only [hgn] at c0 c1 c2 c3 c4 c5 c6 c7 c8 c9 ca
      simp only at HOA hok hts
      have HIN := Lib.hid (fun (wx : World) (hx : Below wr.heap.size wr wx) => (show OpIn wx ⟨os, oq, ok, ⟨es, eq, ei⟩, text, gone, of, num, gen⟩ ra from ⟨(HOA.out.below hx).gone, HOA.out.len, HOA.out.size⟩))
      have HPO := Lib.hid (fun (wx : World) (hx : Below wr.heap.size wr wx) => pkOp_any ⟨os, oq, ok, ⟨es, eq, ei⟩, text, gone, of, num, gen⟩ ra rc wx (HIN.out wx hx))
      have HRB := Lib.hid (fun (wx : World) (hx : Below wr.heap.size wr wx) => pOpB_any ⟨os, oq, ok, ⟨es, eq, ei⟩, text, gone, of, num, gen⟩ ra rc wx (HIN.out wx hx) hok)
      have HRO := Lib.hid (fun (wx : World) (hx : Below wr.heap.size wr wx) => rOp_any ⟨os, oq, ok, ⟨es, eq, ei⟩, text, gone, of, num, gen⟩ ra rc wx (HTB.out _ (HB1.out.trans ((HBR.out.trans (hx.mono HBR.out.size)).mono HB1.out.size))) hts (HIN.out wx hx).gone)
      have hlb := opB_len hok
      unfold pkV PkPost at HPO
      unfold StrB at HRB
      unfold OpD.v at HPO HRB HRO
      simp only [hgn, hok, if_true] at HPO HRB HRO
      clear hgn hok hts HOA HIN
      generalize opB ⟨os, oq, ok, ⟨es, eq, ei⟩, text, gone, of, num, gen⟩ = OB at *
      have hz0 : (⟨OB.toArray⟩ : ByteArray).size = OB.length := rfl
      go_wp2_with (first
        | (go_at_call 16; refine (HPO.out _ (Below.refl _ _)).mono ?_; rintro e w2 ⟨rfl, hb2⟩; have HB2 := Lib.hid hb2; have d0 := (hb2.cell (p := ⟨b, k * 11, none⟩) hbK).trans c0; have d1 := (hb2.cell (p := ⟨b, k * 11 + 1, none⟩) hbK).trans c1; have d2 := (hb2.cell (p := ⟨b, k * 11 + 2, none⟩) hbK).trans c2; have d3 := (hb2.cell (p := ⟨b, k * 11 + 3, none⟩) hbK).trans c3; have d4 := (hb2.cell (p := ⟨b, k * 11 + 4, none⟩) hbK).trans c4; have d5 := (hb2.cell (p := ⟨b, k * 11 + 5, none⟩) hbK).trans c5; have d6 := (hb2.cell (p := ⟨b, k * 11 + 6, none⟩) hbK).trans c6; have d7 := (hb2.cell (p := ⟨b, k * 11 + 7, none⟩) hbK).trans c7; have d8 := (hb2.cell (p := ⟨b, k * 11 + 8, none⟩) hbK).trans c8; have d9 := (hb2.cell (p := ⟨b, k * 11 + 9, none⟩) hbK).trans c9; have da := (hb2.cell (p := ⟨b, k * 11 + 10, none⟩) hbK).trans ca; clear hb2 c0 c1 c2 c3 c4 c5 c6 c7 c8 c9 ca)
        | (go_at_call 20; refine (HNU.out _ _).mono ?_; rintro e w3 ⟨rfl, hw3⟩; first | (subst hw3) | skip)
        | (go_at_call 18; refine (HRB.out _ HB2.out).mono ?_; rintro e w4 ⟨rfl, hb4⟩; have HB4 := Lib.hid (HB2.out.trans (hb4.mono HB2.out.size)); have e0 := (hb4.cell (p := ⟨b, k * 11, none⟩) (Nat.lt_of_lt_of_le hbK HB2.out.size)).trans d0; have e1 := (hb4.cell (p := ⟨b, k * 11 + 1, none⟩) (Nat.lt_of_lt_of_le hbK HB2.out.size)).trans d1; have e2 := (hb4.cell (p := ⟨b, k * 11 + 2, none⟩) (Nat.lt_of_lt_of_le hbK HB2.out.size)).trans d2; have e3 := (hb4.cell (p := ⟨b, k * 11 + 3, none⟩) (Nat.lt_of_lt_of_le hbK HB2.out.size)).trans d3; have e4 := (hb4.cell (p := ⟨b, k * 11 + 4, none⟩) (Nat.lt_of_lt_of_le hbK HB2.out.size)).trans d4; have e5 := (hb4.cell (p := ⟨b, k * 11 + 5, none⟩) (Nat.lt_of_lt_of_le hbK HB2.out.size)).trans d5; have e6 := (hb4.cell (p := ⟨b, k * 11 + 6, none⟩) (Nat.lt_of_lt_of_le hbK HB2.out.size)).trans d6; have e7 := (hb4.cell (p := ⟨b, k * 11 + 7, none⟩) (Nat.lt_of_lt_of_le hbK HB2.out.size)).trans d7; have e8 := (hb4.cell (p := ⟨b, k * 11 + 8, none⟩) (Nat.lt_of_lt_of_le hbK HB2.out.size)).trans d8; have e9 := (hb4.cell (p := ⟨b, k * 11 + 9, none⟩) (Nat.lt_of_lt_of_le hbK HB2.out.size)).trans d9; have ea := (hb4.cell (p := ⟨b, k * 11 + 10, none⟩) (Nat.lt_of_lt_of_le hbK HB2.out.size)).trans da; clear hb4 d0 d1 d2 d3 d4 d5 d6 d7 d8 d9 da)
        | (go_at_call 17; refine (HRO.out _ HB4.out).mono ?_; rintro e w5 ⟨rfl, hb5⟩; have HB5 := Lib.hid (HBR.out.trans ((HB4.out.trans (hb5.mono HB4.out.size)).mono HBR.out.size)); clear hb5 e0 e1 e2 e3 e4 e5 e6 e7 e8 e9 ea)
        | fail)
      clear HPO HRB HRO HB2 HB4
      generalize w5 = wa at *
      go_loopw [7] (fun i wr => ∃ j : Nat, j ≤ OB.length ∧ i = .int .i64 j ∧ Below w1.heap.size w1 wr) (fun i _ => OB.length - (RowKit.intOf i).toNat)
      case atStart => exact ⟨0, Nat.zero_le _, rfl, HB5.out⟩
      clear HB5 hbK
      case round =>
        obtain ⟨j, hj, rfl, hbel⟩ := hrel
        have HBJ := Lib.hid hbel
        clear hbel
        by_cases hjl : j < OB.length
        · go_wp2_with fail
          go_loopw [8] (fun i wr => ∃ d : Nat, 1 ≤ d ∧ d ≤ 1000 ∧ i = .int .i64 d ∧ Below w1.heap.size w1 wr) (fun i _ => 256 - (RowKit.intOf i).toNat)
          case atStart => exact ⟨1, by omega, by omega, rfl, HBJ.out⟩
          clear HBJ
          case round =>
            obtain ⟨d, hd1, hd9, rfl, hbel⟩ := hrel
            have HBD := Lib.hid hbel
            clear hbel
            by_cases hdl : d < 256
            · have hdi : (d : Int) < 256 := by omega
              rename_i wr
              have hcv := Lib.run_convert_string_bytes (P := Tryd.prog) wr 9 67 5 ⟨OB.toArray⟩ Tryd.underlying9 Tryd.underlying67 Tryd.underlying5
              obtain ⟨hba, hbb⟩ := bytes_made wr 5 OB
              go_upto_region 15 with fail
              generalize bytesWorld wr 5 ⟨OB.toArray⟩ = wB at *
              clear hcv
              have hcj := hba.cell j hjl
              have hfj := hba.free j hjl
              have HBA := Lib.hid hba
              have HBB := Lib.hid hbb
              have hFj := OB[j].toNat_lt
              obtain ⟨fb, hfb⟩ : ∃ fb, OB[j] = fb := ⟨_, rfl⟩
              rw [hfb] at hcj hFj
              clear hfb hba hbb
              go_upto_region 16 with fail
              have HBS := Lib.hid (bytes_set HBA.out j hjl (((fb.toNat : Int) + (d : Int)) % 256) ((fb.toNat + d) % 256).toUInt8 (by simp [UInt8.toNat_ofNat']))
              have HBC := Lib.hid (HBB.out.setCell (p := ⟨wr.heap.size, j, none⟩) (Nat.le_refl _) (.int .u8 (((fb.toNat : Int) + (d : Int)) % 256)))
              have hl2 : (OB.set j ((fb.toNat + d) % 256).toUInt8).length = OB.length := List.length_set
              generalize OB.set j ((fb.toNat + d) % 256).toUInt8 = F2 at *
              generalize wB.setCell ⟨wr.heap.size, j, none⟩ (.int .u8 (((fb.toNat : Int) + (d : Int)) % 256)) = wC at *
              have HCV := Lib.hid (fun (wx : World) (hx : Below wC.heap.size wC wx) => bytes_conv (P := Tryd.prog) (bytes_below HBS.out hx) 67 9 5 OB.length (grownCap wr OB.length 0 5) hl2.symm Tryd.underlying67 Tryd.underlying5 Tryd.underlying9)
              clear hcj hfj HBA HBB hFj
              have HT1 := Lib.hid (fun wx => tkO_both F2 wx (by unfold TOP; omega))
              have HT2 := Lib.hid (fun (wx : World) (hx : Below wC.heap.size wC wx) => tkP_both F2 wx (fun w' hb' => HTB.out w' (HB1.out.trans ((HBD.out.trans ((HBC.out.trans ((hx.trans (hb'.mono hx.size)).mono HBC.out.size)).mono HBD.out.size)).mono HB1.out.size))) (by unfold TOPP; omega))
              have hgl := tkR_len F2
              generalize tkR F2 = x at *
              obtain ⟨⟨ps, pq, pk, ⟨pe, pf, ph⟩, ptx, pg, pof, pnu, pge⟩, rest, okb⟩ := x
              obtain ⟨pn, hpn⟩ : ∃ n, pg.length = n := ⟨_, rfl⟩
              have HEQ := Lib.hid (fun (a1 a2 : Option Addr) (c1 c2 : Nat) (wx : World) (h1 : ElemsAt wx a1 pg) (h2 : ElemsAt wx a2 pg) => EqOp_yes ⟨ps, pq, pk, ⟨pe, pf, ph⟩, ptx, pg, pof, pnu, pge⟩ a1 a2 c1 c2 wx h1 h2 hgl)
              unfold OpD.v at HT1 HT2 HEQ
              simp only [hpn] at HT1 HT2 HEQ
              clear hgl hpn hl2
              have hcv2 := HCV.out wC (Below.refl _ _)
              go_upto_region 17 with (first
                | (go_at_call 22; refine (HT1.out _).mono ?_; rintro e w6 ⟨a6, c6, rfl, hE6, hb6⟩; have HE6 := Lib.hid hE6; have HB6 := Lib.hid hb6; clear hE6 hb6)
                | fail)
              clear hcv2
              have HO7 := Lib.hid (Hp.new w6 #[.int .i64 ps, .int .i64 pq, .int .i64 pk, .int .i64 pe, .int .i64 pf, .int .i64 ph, .string ptx, .slice a6 pn c6, .int .i64 pof, .int .i64 pnu, .int .i64 pge] 36)
              have HB7 := Lib.hid (below_alx HB6.out (.cells #[.int .i64 ps, .int .i64 pq, .int .i64 pk, .int .i64 pe, .int .i64 pf, .int .i64 ph, .string ptx, .slice a6 pn c6, .int .i64 pof, .int .i64 pnu, .int .i64 pge] 36))
              have HE7 := Lib.hid (HE6.out.below (below_al w6 (.cells #[.int .i64 ps, .int .i64 pq, .int .i64 pk, .int .i64 pe, .int .i64 pf, .int .i64 ph, .string ptx, .slice a6 pn c6, .int .i64 pof, .int .i64 pnu, .int .i64 pge] 36)))
              generalize w6.alloc (.cells #[.int .i64 ps, .int .i64 pq, .int .i64 pk, .int .i64 pe, .int .i64 pf, .int .i64 ph, .string ptx, .slice a6 pn c6, .int .i64 pof, .int .i64 pnu, .int .i64 pge] 36) = w7 at *
              obtain ⟨b6, hb6⟩ : ∃ b, w6.heap.size = b := ⟨_, rfl⟩
              rw [hb6] at HO7 ⊢
              clear hb6 HE6 HB6
              have hcv7 := HCV.out w7 HB7.out
              go_upto_region 18 with (first
                | (go_at_call 23; refine (HT2.out _ HB7.out).mono ?_; rintro e w8 ⟨a8, c8, rfl, hE8, hb8⟩; have HE8 := Lib.hid hE8; have HO8 := Lib.hid (HO7.out.step hb8); have HF8 := Lib.hid (HE7.out.below hb8); have HB8 := Lib.hid (HB7.out.trans (hb8.mono HB7.out.size)); clear hE8 hb8)
                | fail)
              clear hcv7 HT1 HT2 HCV HBS
              have HP9 := Lib.hid (Hp.new w8 #[.int .i64 ps, .int .i64 pq, .int .i64 pk, .int .i64 pe, .int .i64 pf, .int .i64 ph, .string ptx, .slice a8 pn c8, .int .i64 pof, .int .i64 pnu, .int .i64 pge] 36)
              have HO9 := Lib.hid (HO8.out.step (below_al w8 (.cells #[.int .i64 ps, .int .i64 pq, .int .i64 pk, .int .i64 pe, .int .i64 pf, .int .i64 ph, .string ptx, .slice a8 pn c8, .int .i64 pof, .int .i64 pnu, .int .i64 pge] 36)))
              have HB9 := Lib.hid (below_alx HB8.out (.cells #[.int .i64 ps, .int .i64 pq, .int .i64 pk, .int .i64 pe, .int .i64 pf, .int .i64 ph, .string ptx, .slice a8 pn c8, .int .i64 pof, .int .i64 pnu, .int .i64 pge] 36))
              have HE9 := Lib.hid (HE8.out.below (below_al w8 (.cells #[.int .i64 ps, .int .i64 pq, .int .i64 pk, .int .i64 pe, .int .i64 pf, .int .i64 ph, .string ptx, .slice a8 pn c8, .int .i64 pof, .int .i64 pnu, .int .i64 pge] 36)))
              have HF9 := Lib.hid (HF8.out.below (below_al w8 (.cells #[.int .i64 ps, .int .i64 pq, .int .i64 pk, .int .i64 pe, .int .i64 pf, .int .i64 ph, .string ptx, .slice a8 pn c8, .int .i64 pof, .int .i64 pnu, .int .i64 pge] 36)))
              generalize w8.alloc (.cells #[.int .i64 ps, .int .i64 pq, .int .i64 pk, .int .i64 pe, .int .i64 pf, .int .i64 ph, .string ptx, .slice a8 pn c8, .int .i64 pof, .int .i64 pnu, .int .i64 pge] 36) = w9 at *
              obtain ⟨b8, hb8⟩ : ∃ b, w8.heap.size = b := ⟨_, rfl⟩
              rw [hb8] at HP9 ⊢
              clear hb8 HE8 HB8 HO8 HF8 HO7 HB7 HE7
              have y0 : w9.cell? ⟨b6, 0, none⟩ = some (.int .i64 ps) := HO9.out.cell 0 rfl
              have y1 : w9.cell? ⟨b6, 1, none⟩ = some (.int .i64 pq) := HO9.out.cell 1 rfl
              have y2 : w9.cell? ⟨b6, 2, none⟩ = some (.int .i64 pk) := HO9.out.cell 2 rfl
              have y3 : w9.cell? ⟨b6, 3, none⟩ = some (.int .i64 pe) := HO9.out.cell 3 rfl
              have y4 : w9.cell? ⟨b6, 4, none⟩ = some (.int .i64 pf) := HO9.out.cell 4 rfl
              have y5 : w9.cell? ⟨b6, 5, none⟩ = some (.int .i64 ph) := HO9.out.cell 5 rfl
              have y6 : w9.cell? ⟨b6, 6, none⟩ = some (.string ptx) := HO9.out.cell 6 rfl
              have y7 : w9.cell? ⟨b6, 7, none⟩ = some (.slice a6 pn c6) := HO9.out.cell 7 rfl
              have y8 : w9.cell? ⟨b6, 8, none⟩ = some (.int .i64 pof) := HO9.out.cell 8 rfl
              have y9 : w9.cell? ⟨b6, 9, none⟩ = some (.int .i64 pnu) := HO9.out.cell 9 rfl
              have ya : w9.cell? ⟨b6, 10, none⟩ = some (.int .i64 pge) := HO9.out.cell 10 rfl
              have z0 : w9.cell? ⟨b8, 0, none⟩ = some (.int .i64 ps) := HP9.out.cell 0 rfl
              have z1 : w9.cell? ⟨b8, 1, none⟩ = some (.int .i64 pq) := HP9.out.cell 1 rfl
              have z2 : w9.cell? ⟨b8, 2, none⟩ = some (.int .i64 pk) := HP9.out.cell 2 rfl
              have z3 : w9.cell? ⟨b8, 3, none⟩ = some (.int .i64 pe) := HP9.out.cell 3 rfl
              have z4 : w9.cell? ⟨b8, 4, none⟩ = some (.int .i64 pf) := HP9.out.cell 4 rfl
              have z5 : w9.cell? ⟨b8, 5, none⟩ = some (.int .i64 ph) := HP9.out.cell 5 rfl
              have z6 : w9.cell? ⟨b8, 6, none⟩ = some (.string ptx) := HP9.out.cell 6 rfl
              have z7 : w9.cell? ⟨b8, 7, none⟩ = some (.slice a8 pn c8) := HP9.out.cell 7 rfl
              have z8 : w9.cell? ⟨b8, 8, none⟩ = some (.int .i64 pof) := HP9.out.cell 8 rfl
              have z9 : w9.cell? ⟨b8, 9, none⟩ = some (.int .i64 pnu) := HP9.out.cell 9 rfl
              have za : w9.cell? ⟨b8, 10, none⟩ = some (.int .i64 pge) := HP9.out.cell 10 rfl
              cases okb
              all_goals
                simp only [if_true, if_false, Bool.false_eq_true]
                go_wp2_with (first
                  | (go_at_call 20; refine (HNU.out _ _).mono ?_; rintro e wn ⟨rfl, hwn⟩; first | (subst hwn) | skip)
                  | (go_at_call 21; refine (HEQ.out a6 a8 c6 c8 _ HF9.out HE9.out).mono ?_; rintro e wf ⟨rfl, hbf⟩; have HXF := Lib.hid (HX1.out.step (HBD.out.trans ((HBC.out.trans ((HB9.out.trans (hbf.mono HB9.out.size)).mono HBC.out.size)).mono HBD.out.size))); have q4 : wf.cell? ⟨bx, 4, none⟩ = some (.slice as_ n9 cs_) := HXF.out.cell 4 rfl; have HBF := Lib.hid (HBD.out.trans ((HBC.out.trans ((HB9.out.trans (hbf.mono HB9.out.size)).mono HBC.out.size)).mono HBD.out.size)); clear hbf y0 z0 y1 z1 y2 z2 y3 z3 y4 z4 y5 z5 y6 z6 y7 z7 y8 z8 y9 z9 ya za)
                  | fail)
                go_roundw
                case rel => exact ⟨d * 3 + n9 % 2, by omega, by omega, by go_num, HBF.out⟩
                case measure => simp [RowKit.intOf]; omega
            · have hdi : ¬ (d : Int) < 256 := by omega
              go_wp2_with fail
              go_roundw
              case rel => exact ⟨j + 1, by omega, by go_num, HBD.out⟩
              case measure => simp [RowKit.intOf]; omega
        · go_wp2_with fail
          go_roundw
          case rel => exact ⟨k + 1, by omega, by go_num, HBJ.out⟩
          case measure => simp [RowKit.intOf]; omega
    · have hx2 : decide ((k : Int) < 4) = false := decide_eq_false (by omega)
      have hli : ¬ (k : Int) < 4 := by omega
      go_wp2_with (first
        | (go_at_call 25; refine (wakes12_any _).mono ?_; rintro e w9 ⟨rfl, hb9⟩; have HB9 := Lib.hid (HBR.out.trans (hb9.mono HBR.out.size)); clear hb9)
        | fail)
      go_ret
      exact ⟨rfl, HB1.out.trans (HB9.out.mono HB1.out.size)⟩
end Go.Proofs.YtnkinbobnhdpaaaDoor
