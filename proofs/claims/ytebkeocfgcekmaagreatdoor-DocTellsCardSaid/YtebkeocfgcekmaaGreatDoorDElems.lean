/- elements that are handed in fit Go's ints -/
import Derived.Test.YtebkeocfgcekmaaGreatDoorTMap
import Derived.Test.YtebkeocfgcekmaaGreatDoorOBase
import Derived.ProofKit
import Derived.OpenShut
import Derived.SizedLaws
import Derived.SliceStrings
import Derived.Lib.SmallJoins
import Derived.Deep.Slices
import Derived.Test.YtebkeocfgcekmaaGreatDoorYNear
namespace Go.Proofs.YtebkeocfgcekmaaGreatDoor
open Go.ChangeShapes Go.WideShapes Go.ChangeAt Go.RowKit Go.Deep

theorem in64_of {n : Int} (h : (Lit.int .i64 n).wf = true) : in64 n := by
  unfold in64
  simp [Lit.wf, IntKind.min, IntKind.max, IntKind.bits, IntKind.signed] at h
  omega
section
variable {H : Type} {enc : TypeId × Value → H} {W : World}

set_option maxRecDepth 100000 in
theorem elem_openF {y : DataW H × List MemPlace} {m : Nat} {cs : List Value} (h : DataW.trod enc Tryz.prog W 0 (fun _ => true) true m 44 cs = some y) : ∃ e : El, cs = e.cs ∧ e.fit := by
  obtain ⟨xs, n, rfl, _, hl, hxl, hf⟩ := DataW.trod_struct Tryz.underlying44 h
  rw [cellsElem] at hl
  obtain ⟨c0, c1, c2, rfl⟩ : ∃ c0 c1 c2, cs = [c0, c1, c2] := by
    match cs, hl with
    | [c0, c1, c2], _ => exact ⟨c0, c1, c2, rfl⟩
  match xs, hxl with
  | [x0, x1, x2], _ =>
    have f0 : DataW.trod enc Tryz.prog W 0 (fun _ => true) true n 3 [c0] = some x0 := by simpa [cellsInt] using hf 0 _ rfl
    have f1 : DataW.trod enc Tryz.prog W 0 (fun _ => true) true n 3 [c1] = some x1 := by simpa [cellsInt] using hf 1 _ rfl
    have f2 : DataW.trod enc Tryz.prog W 0 (fun _ => true) true n 3 [c2] = some x2 := by simpa [cellsInt] using hf 2 _ rfl
    obtain ⟨s, hs, _, g0⟩ := DataW.trod_int Tryz.underlying3 f0
    obtain ⟨q, hq, _, g1⟩ := DataW.trod_int Tryz.underlying3 f1
    obtain ⟨i, hi, _, g2⟩ := DataW.trod_int Tryz.underlying3 f2
    simp at hs hq hi
    exact ⟨⟨s, q, i⟩, by rw [hs, hq, hi]; rfl, in64_of g0, in64_of g1, in64_of g2⟩

theorem elems_atF {c0 : Value} {y : DataW H × List MemPlace} {m : Nat}
    (hy : DataW.trod enc Tryz.prog W 0 (fun _ => true) true m 23 [c0] = some y) (hsz : ∀ n ∈ y.1.weights Tryz.prog 23, n ≤ reachBytes) :
    ∃ (a : Option Addr) (cap : Nat) (l : List El), c0 = .slice a l.length cap ∧ ElemsAt W a l ∧ l.length ≤ BIG ∧ (a = none → l.length = 0 ∧ cap = 0) ∧ ∀ e ∈ l, e.fit := by
  rcases open_slice Tryz.underlying23 hy with ⟨hcs, _⟩ | ⟨x, len, cap, mm, n, D, Pl, hcs, _, hl, hm, hmm, hx, hi⟩
  · exact ⟨none, 0, [], by simpa using hcs, ElemsAt.nil _, Nat.zero_le _, fun _ => ⟨rfl, rfl⟩, fun e he => absurd he (by simp)⟩
  · simp only [if_true] at hmm
    subst hmm
    rw [cellsElem] at hi hx
    have each : ∀ i, i < len → ∃ e : El, W.cell? (x.add (i * 3)) = some (.int .i64 e.s) ∧ W.cell? (x.add (i * 3 + 1)) = some (.int .i64 e.q) ∧ W.cell? (x.add (i * 3 + 2)) = some (.int .i64 e.i) ∧ e.fit := by
      intro i hil
      obtain ⟨cs', hc, ht⟩ := hi i (by omega)
      obtain ⟨e, rfl, hft⟩ := elem_openF ht
      obtain ⟨_, _, hat⟩ := World.cells?_some hc
      have a0 := hat 0 (by decide)
      have a1 := hat 1 (by decide)
      have a2 := hat 2 (by decide)
      rw [Go.Deep.add_add] at a0 a1 a2
      exact ⟨e, a0, a1, a2, hft⟩
    obtain ⟨l, hll, hle⟩ : ∃ l : List El, l.length = len ∧ ∀ i (h : i < l.length), W.cell? (x.add (i * 3)) = some (.int .i64 l[i].s) ∧ W.cell? (x.add (i * 3 + 1)) = some (.int .i64 l[i].q) ∧ W.cell? (x.add (i * 3 + 2)) = some (.int .i64 l[i].i) ∧ l[i].fit := by
      clear hcs hl hm hx hi
      induction len with
      | zero => exact ⟨[], rfl, fun i h => absurd h (by simp)⟩
      | succ k ih =>
        obtain ⟨l, h1, h2⟩ := ih (fun i hi => each i (by omega))
        obtain ⟨e, he⟩ := each k (by omega)
        refine ⟨l ++ [e], by simp [h1], fun i hi => ?_⟩
        by_cases hik : i < l.length
        · rw [List.getElem_append_left hik]; exact h2 i hik
        · have : i = l.length := by simp at hi; omega
          subst this
          rw [List.getElem_append_right (Nat.le_refl _)]
          simpa [h1] using he
    refine ⟨some x, mm, l, by rw [hll]; simpa using hcs, ⟨fun j hj => ?_⟩, ?_, fun h => (by cases h), fun e he => by
      obtain ⟨j, hj, rfl⟩ := List.getElem_of_mem he
      exact (hle j hj).2.2.2⟩
    · obtain ⟨b0, b1, b2, _⟩ := hle j hj
      have z0 := (hle 0 (by omega)).1
      obtain ⟨b, off, spot⟩ := x
      have hspot : spot = none := by simpa [Addr.add] using World.cell?_spot z0
      subst hspot
      rw [Addr.add_lit] at b0 b1 b2
      exact ⟨b, off, rfl, World.block_lt_of_cell? W _ b0, b0, b1, b2⟩
    · have hw := hsz ((len + (mm - len)) * Tryz.prog.bytesOf 44) (by rw [hx]; simp [DataW.weights, Tryz.underlying23])
      rw [bytesElem] at hw
      simp only [reachBytes] at hw
      unfold BIG
      omega

end
end Go.Proofs.YtebkeocfgcekmaaGreatDoor
/- lectionarylaw5.Elems: some elements, and what holds of each -/
namespace Go.Proofs.YtebkeocfgcekmaaGreatDoor
open Go.RowKit Go.Lib Go.Sort

def AnyG (G : El → Prop) (w : World) (x : Ending) (w' : World) : Prop := ∃ X : List El, X.length ≤ 50 ∧ (∀ e ∈ X, G e) ∧ OwnPost X w x w'
theorem anyG_of {G : El → Prop} {w w' : World} {v : Value} {X : List El} (hl : X.length ≤ 50) (hg : ∀ e ∈ X, G e) (ho : w'.ownsRow w.heap.size 44 3 v X.length (ecs X)) (hb : Below w.heap.size w w') : AnyG G w (.returned v) w' := ⟨X, hl, hg, v, rfl, ho, hb⟩
set_option maxRecDepth 100000 in
set_option maxHeartbeats 8000000 in
theorem ElemsG_any (G : El → Prop) (hG0 : G ⟨0, 0, 0⟩) (p : AskD) (a : Option Addr) (cap : Nat) (l : List OpR) (w : World) (hE : ElemsAt w p.ae p.e) (hn9 : p.e.length ≤ 900) (hnone : p.ae = none → p.e.length = 0 ∧ p.ce = 0) (h : OpsAt w a l) (hGe : ∀ e ∈ p.e, G e) (hGl : ∀ r ∈ l, ∀ i : Int, 0 ≤ i → i ≤ 2 → G ⟨r.o.site, r.o.seq, i⟩) : Calls Tryz.prog 16 #[p.v, .slice a l.length cap] w (AnyG G w) := by
  have HG0 := Lib.hid hG0
  have HGE := Lib.hid hGe
  have HGL := Lib.hid hGl
  obtain ⟨i0, hq0, hz0, hz1, hz2⟩ := info_parts Tryz.infoElem
  have HX := Lib.hid (BoxA.new w p)
  have hb0 : Below w.heap.size w (w.alloc p.obj) := (Below.refl _ _).alloc (Nat.le_refl _) _
  have HB0 := Lib.hid hb0
  have HH := Lib.hid (fun wx (hx : Below w.heap.size w wx) => h.below hx)
  have HEE := Lib.hid (fun wx (hx : Below w.heap.size w wx) => hE.below hx)
  obtain ⟨n, hn⟩ : ∃ n, l.length = n := ⟨_, rfl⟩
  have HN := Lib.hid hn
  rw [hn]
  clear hb0 h hE hn hG0 hGe hGl
  unfold AskD.v
  obtain ⟨lr, le, lo, ln, ar, ae, ao, an, cr, ce, co, cn⟩ := p
  unfold AskD.obj at HX HB0
  simp only at HX HB0 HEE HGE hn9 hnone ⊢
  have HC1 := Lib.hid HX.out.c1
  simp only at HC1
  obtain ⟨n2, hn2⟩ : ∃ n, le.length = n := ⟨_, rfl⟩
  have HN2 := Lib.hid hn2
  rw [hn2] at HB0 HC1 hn9 hnone ⊢
  have HXL := Lib.hid HX.out.lt
  rw [hn2] at HXL
  clear HX hn2
  generalize lr.length = n0 at *
  generalize lo.length = n1 at *
  generalize ln.length = n3 at *
  have hn9i : (n2 : Int) ≤ 900 := by omega
  have HM1 := Lib.hid (show 1 + n2 ≤ maxLen from by simp only [maxLen]; omega)
  have HM2 := Lib.hid (show (1 + n2) * 24 ≤ 140737488355328 from by omega)
  go_enter Tryz.func16, Tryz.ntmps16
  go_upto_region 1 with fail
  generalize w.alloc (.cells #[.slice ar n0 cr, .slice ae n2 ce, .slice ao n1 co, .slice an n3 cn] 27) = W0 at *
  have a1 := HC1.out
  have hxl := HXL.out
  go_cut [5] (fun s5 wx => ∃ X : List El, X.length = 1 + n2 ∧ (∀ e ∈ X, G e) ∧ wx.ownsRow W0.heap.size 44 3 s5 (1 + n2) (ecs X) ∧ Below W0.heap.size W0 wx)
  case first =>
    cases ae with
    | none =>
      obtain ⟨h1, h2⟩ := hnone rfl
      subst h1 h2
      clear hnone
      go_wp2_with (first
        | (at_builtin; refine wpList_append_own_none rfl _ _ 23 rfl W0.heap.size 44 i0 3 Tryz.underlying23 hq0 _ 1 (ecs [⟨0, 0, 0⟩]) rfl (one_own W0 W0.heap.size (Nat.le_refl _) ⟨0, 0, 0⟩) rfl ?_)
        | fail)
      go_meet
      exact ⟨[⟨0, 0, 0⟩], rfl, fun e he => by rw [List.mem_singleton.1 he]; exact HG0.out, one_own W0 W0.heap.size (Nat.le_refl _) ⟨0, 0, 0⟩, (Below.refl _ _).alloc (Nat.le_refl _) _⟩
    | some ad =>
      clear hnone
      have HONE := Lib.hid (one_own W0 W0.heap.size (Nat.le_refl _) ⟨0, 0, 0⟩)
      have hsp : le = [] ∨ ∃ b off, ad = ⟨b, off, none⟩ := by
        by_cases h0 : 0 < le.length
        · obtain ⟨b, off, h1, _⟩ := (HEE.out w (Below.refl _ _)).cell 0 h0
          exact .inr ⟨b, off, Option.some.inj h1⟩
        · exact .inl (List.eq_nil_of_length_eq_zero (by omega))
      have HNEWS := Lib.hid (fun wx (hx : Below w.heap.size w wx) => (show ∀ j u, (ecs le)[j]? = some u → wx.cell? (ad.add j) = some u from by
        rcases hsp with e | ⟨b, off, e⟩
        · subst e
          intro j u hu
          simp [ecs] at hu
        · subst e
          exact elems_news (HEE.out wx hx)))
      clear hsp
      go_wp2_with (first
        | (at_builtin; refine wpList_append_own _ rfl _ _ 23 rfl W0.heap.size 44 i0 (.agg #[.int .i64 0, .int .i64 0, .int .i64 0]) 3 24 Tryz.underlying23 hq0 hz0 hz1 hz2 rfl (by decide) _ 1 _ rfl HONE.out ad n2 ce (ecs le) rfl (by rw [ecs_length, HN2.out, Nat.mul_comm]) (HNEWS.out _ (HB0.out.alloc HB0.out.size _)) (ecs_oneC le) HM1.out HM2.out (by simp) ?_; intro v8 w8 hown8 hgrow8 hnil8; have HB8 := Lib.hid (((Below.refl W0.heap.size W0).alloc (Nat.le_refl _) _).grown hgrow8 (by simp) (fun q hq => own_ge (one_own W0 W0.heap.size (Nat.le_refl _) ⟨0, 0, 0⟩) q hq)); have HO8 := Lib.hid hown8; clear hown8 hgrow8 hnil8)
        | fail)
      go_meet
      exact ⟨⟨0, 0, 0⟩ :: le, by rw [List.length_cons, HN2.out]; omega, fun e he => by
        rcases List.mem_cons.1 he with h | h
        · rw [h]; exact HG0.out
        · exact HGE.out e h, HO8.out, HB8.out⟩
  case rest =>
    obtain ⟨X, hX, hgx, ho, hbc⟩ := hcut
    have HGX := Lib.hid hgx
    clear hgx
    have HO := Lib.hid ho
    have HBC := Lib.hid hbc
    have HXN := Lib.hid hX
    obtain ⟨gb, cb, hv, hgb, _, hcp⟩ := own_pos ho (by omega)
    subst hv
    clear ho hbc hX
    go_upto_if 14 with fail
    go_cut [5] (fun s5 wx => ∃ Y : List El, Y.length ≤ 6 ∧ (∀ e ∈ Y, G e) ∧ wx.ownsRow W0.heap.size 44 3 s5 Y.length (ecs Y) ∧ Below W0.heap.size W0 wx)
    case first =>
      by_cases h6 : (6 : Int) < 1 + (n2 : Int)
      · have hc6 : 6 ≤ cb := by omega
        have HO6 := Lib.hid (owns_cut3 HO.out (show 6 ≤ 1 + n2 from by omega))
        rw [show 6 * 3 = 18 from rfl] at HO6
        go_wp2_with fail
        go_meet
        refine ⟨X.take 6, by rw [List.length_take]; omega, fun e he => HGX.out e (List.mem_of_mem_take he), ?_, HBC.out⟩
        have h9 := HO6.out
        rw [show (18 : Nat) = 6 * 3 from rfl, ecs_take] at h9
        rw [show (X.take 6).length = 6 from by rw [List.length_take, HXN.out]; omega]
        exact h9
      · have hd : decide ((6 : Int) < 1 + (n2 : Int)) = false := decide_eq_false h6
        go_wp2_with fail
        go_meet
        exact ⟨X, by rw [HXN.out]; omega, HGX.out, by rw [HXN.out]; exact HO.out, HBC.out⟩
    case rest =>
      obtain ⟨Y, hY, hgy, ho2, hb2⟩ := hcut
      have HGY := Lib.hid hgy
      clear hgy
      have HO2 := Lib.hid ho2
      have HB2 := Lib.hid hb2
      clear ho2 hb2 HO HBC
      go_wp2_with fail
      go_loopw [5, 6] (fun s5 s6 wr => ∃ (k : Nat) (Z : List El), s6 = .int .i64 k ∧ k ≤ 40 ∧ k ≤ n ∧ Z.length ≤ 6 + k ∧ (∀ e ∈ Z, G e) ∧ wr.ownsRow W0.heap.size 44 3 s5 Z.length (ecs Z) ∧ Below W0.heap.size W0 wr) (fun _ s6 _ => 41 - (RowKit.intOf s6).toNat)
      case atStart => exact ⟨0, Y, rfl, by omega, Nat.zero_le _, hY, HGY.out, HO2.out, HB2.out⟩
      case round =>
        clear HO2 HB2
        obtain ⟨k, Z, rfl, hk, hkn, hZ, hgz, ho, hb⟩ := hrel
        have HGZ := Lib.hid hgz
        clear hgz
        have HB := Lib.hid hb
        by_cases hlt : k < n
        · by_cases h40 : (k : Int) < 40
          · have hkl : k < l.length := by rw [HN.out]; exact hlt
            obtain ⟨b, off, rfl, hbb, c0, c1, -⟩ := (HH.out _ (HB0.out.trans (hb.mono HB0.out.size))).cells k hkl
            have hgk := HGL.out l[k] (List.getElem_mem hkl) ((k : Int) % 3) (Int.emod_nonneg _ (by decide)) (by have := Int.emod_lt_of_pos (k : Int) (show (0 : Int) < 3 by decide); omega)
            generalize l[k].o.site = site at *
            generalize l[k].o.seq = seq at *
            have HGK := Lib.hid hgk
            clear hgk
            obtain ⟨m, hm⟩ : ∃ m, Z.length = m := ⟨_, rfl⟩
            have HM := Lib.hid hm
            rw [hm] at hZ ho
            obtain ⟨av, cv, hv⟩ := own_form ho
            subst hv
            have HOD := Lib.hid ((same_drew wr).owns ho)
            have HM3 := Lib.hid (show m + 1 ≤ maxLen from by simp only [maxLen]; omega)
            have HM4 := Lib.hid (show (m + 1) * 24 ≤ 140737488355328 from by omega)
            clear hb hkl hm ho
            go_wp2_with fail
            go_region_law (first
              | (refine step_append_lies _ (by rfl) _ _ _ (by rfl) W0.heap.size 44 i0 (.agg #[.int .i64 0, .int .i64 0, .int .i64 0]) 3 24 Tryz.underlying23 hq0 hz0 hz1 hz2 (by rfl) (by decide) (.slice av m cv) m _ (by rfl) (HOD.out.alloc _) ⟨wr.heap.size, 0, none⟩ 1 1 (El.cs ⟨site, seq, (k : Int) % 3⟩) (by rfl) (by rfl) (cell_three_new wr.drew ⟨site, seq, (k : Int) % 3⟩ _) (cs_one ⟨site, seq, (k : Int) % 3⟩) (by omega) HM3.out HM4.out (by have := HB.out.size; simp; omega) _ rfl ?_; intro g8 cap8 w8 hown8 hgrow8 hat8 hlt8; have HO8 := Lib.hid hown8; have HB8 := Lib.hid (((HB.out.trans ((same_drew wr).below W0.heap.size)).alloc HB.out.size _).grown hgrow8 (by have := HB.out.size; simp; omega) (fun q hq => own_ge HOD.out q hq)); clear hown8 hgrow8 hat8 hlt8)
              | fail)
            all_goals
              go_wp2_with fail
              go_roundw
              case rel => exact ⟨k + 1, Z ++ [⟨site, seq, (k : Int) % 3⟩], by go_num, by omega, by omega, by rw [List.length_append, HM.out]; simp; omega, fun e he => by
                rcases List.mem_append.1 he with h | h
                · exact HGZ.out e h
                · rw [List.mem_singleton.1 h]; exact HGK.out, by
                rw [List.length_append, HM.out, ecs_append, show ecs [(⟨site, seq, (k : Int) % 3⟩ : El)] = El.cs ⟨site, seq, (k : Int) % 3⟩ from by simp [ecs]]
                exact HO8.out, HB8.out⟩
              case measure => simp [RowKit.intOf] <;> omega
          · have hd : decide ((k : Int) < 40) = false := decide_eq_false h40
            have HF := Lib.hid (anyG_of (v := u5) (show Z.length ≤ 50 from by omega) HGZ.out (owns_base ho HB0.out.size) (HB0.out.trans (hb.mono HB0.out.size)))
            clear ho hb
            go_wp2_with fail
            go_ret
            exact HF.out
        · have hd : decide (k < n) = false := decide_eq_false hlt
          have HF := Lib.hid (anyG_of (v := u5) (show Z.length ≤ 50 from by omega) HGZ.out (owns_base ho HB0.out.size) (HB0.out.trans (hb.mono HB0.out.size)))
          clear ho hb
          go_wp2_with fail
          go_ret
          exact HF.out
end Go.Proofs.YtebkeocfgcekmaaGreatDoor
