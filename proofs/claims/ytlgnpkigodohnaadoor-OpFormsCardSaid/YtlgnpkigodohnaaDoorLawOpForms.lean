/- the law OpForms -/
import Derived.Test.YtlgnpkigodohnaaDoorLGoods
import Derived.Test.YtlgnpkigodohnaaDoorORop
import Derived.Test.YtlgnpkigodohnaaDoorORNeeds
import Derived.Deep.DeepCutAuto
import Derived.Deep.CutBlock
namespace Go.Proofs.YtlgnpkigodohnaaDoor
open Go.RowKit Go.Lib

/-- an op of the law's own, spoilt or not -/
def Spoilt (W4 : World) (b : Nat) (wx : World) : Prop :=
  ∃ (o : OpD) (a : Option Addr) (c : Nat), BoxO wx b o a c ∧ OpIn wx o a ∧ o.gone.length ≤ 10 ∧ o.text.size ≤ 20 ∧ Below W4.heap.size W4 wx
theorem spoil_new {W4 w5 : World} {o : OpD} {a : Option Addr} {c n : Nat} (hb : Below W4.heap.size W4 w5) (hg : ElemsAt w5 a o.gone) (hn : o.gone.length = n) (h1 : n ≤ 10) (h2 : o.text.size ≤ 20) :
    Spoilt W4 w5.heap.size (w5.alloc (.cells #[.int .i64 o.site, .int .i64 o.seq, .int .i64 o.kind, .int .i64 o.after.s, .int .i64 o.after.q, .int .i64 o.after.i, .string o.text, .slice a n c, .int .i64 o.of, .int .i64 o.num, .int .i64 o.gen] 31)) := by
  subst hn
  exact ⟨o, a, c, BoxO.new w5 o a c, ⟨hg.below (below_alloc _ _), by omega, by omega⟩, h1, h2, hb.alloc hb.size _⟩
theorem heap_cell {w : World} {b j : Nat} {cs : Array Value} {t : TypeId} {u : Value} (h : w.heap[b]? = some (.cells cs t (0, 0))) (hu : cs[j]? = some u) : w.cell? ⟨b, j, none⟩ = some u := by
  rw [cell_of_row w b j cs t (0, 0) h]; exact hu
def opCells (o : OpD) (a : Option Addr) (n c : Nat) : Array Value := #[.int .i64 o.site, .int .i64 o.seq, .int .i64 o.kind, .int .i64 o.after.s, .int .i64 o.after.q, .int .i64 o.after.i, .string o.text, .slice a n c, .int .i64 o.of, .int .i64 o.num, .int .i64 o.gen]
theorem boxO_heap {w : World} {b : Nat} {o : OpD} {a : Option Addr} {n c : Nat} {t : TypeId} (h : w.heap[b]? = some (.cells (opCells o a n c) t (0, 0))) (hn : o.gone.length = n) : BoxO w b o a c := by
  subst hn
  exact ⟨(Array.getElem?_eq_some_iff.1 h).1, heap_cell h rfl, heap_cell h rfl, heap_cell h rfl, heap_cell h rfl, heap_cell h rfl, heap_cell h rfl, heap_cell h rfl, heap_cell h rfl, heap_cell h rfl, heap_cell h rfl, heap_cell h rfl⟩
def withGone (o : OpD) (l : List El) : OpD := ⟨o.site, o.seq, o.kind, o.after, o.text, l, o.of, o.num, o.gen⟩
theorem spoil_app {W4 w5 w8 : World} {o : OpD} {X : El} {n : Nat} {a5 : Option Addr} {cap5 base : Nat} {v8 : Value} {x : Obj} (hb : Below W4.heap.size W4 w5) (hbase : W4.heap.size ≤ base)
    (ho : w5.ownsRow base 29 3 (.slice a5 n cap5) n (ecs o.gone)) (hn : o.gone.length = n) (h1 : n ≤ 9) (h2 : o.text.size ≤ 20)
    (hown8 : w8.ownsRow base 29 3 v8 (n + 1) (ecs o.gone ++ El.cs X)) (hgrow8 : ((w5.alloc (.cells (opCells o a5 n cap5) 31)).alloc x).grownBy w8 (Value.slice a5 n cap5).ownBlock) :
    ∃ a8 c8, v8 = .slice a8 (n + 1) c8 ∧ w8.cell? ⟨w5.heap.size, 7, none⟩ = some (.slice a5 n cap5) ∧ w8.frozen? ⟨w5.heap.size, 7, none⟩ = false ∧ Spoilt W4 w5.heap.size (w8.setCell ⟨w5.heap.size, 7, none⟩ v8) := by
  have hH : w8.heap[w5.heap.size]? = some (.cells (opCells o a5 n cap5) 31 (0, 0)) := by
    rw [hgrow8.block w5.heap.size (by simp; omega) (fun e => by have := (ho.lt _ e.symm).2; omega)]
    show ((w5.heap.push _).push _)[w5.heap.size]? = _
    rw [Array.getElem?_push, if_neg (by simp), Array.getElem?_push, if_pos rfl]
  have hec : ecs o.gone ++ El.cs X = ecs (o.gone ++ [X]) := by rw [ecs_append]; simp [ecs]
  have hlen : (o.gone ++ [X]).length = n + 1 := by rw [List.length_append, hn]; rfl
  rw [hec] at hown8
  have hown9 := hown8
  rw [← hlen] at hown8
  obtain ⟨a8, c8, rfl, hE8, _, _, _⟩ := elems_own hown8
  have hne : ∀ b off, a8 = some ⟨b, off, none⟩ → b ≠ w5.heap.size := by
    intro b off hab hbb
    rcases hown9.2 with ⟨hv, _⟩ | ⟨g, cap, cur, hv, _, hg, _⟩
    · rw [hab] at hv; cases hv
    · rw [hab] at hv
      simp only [Value.slice.injEq, Option.some.injEq, Addr.mk.injEq] at hv
      obtain ⟨⟨hbg, _, _⟩, _, _⟩ := hv
      rw [← hbg, hbb, hH] at hg
      simp at hg
  refine ⟨a8, c8, by rw [hlen], heap_cell hH rfl, by simp [World.frozen?, hH], ?_⟩
  have hS : (w8.setCell ⟨w5.heap.size, 7, none⟩ (.slice a8 (o.gone ++ [X]).length c8)).heap[w5.heap.size]? = some (.cells (opCells (withGone o (o.gone ++ [X])) a8 (n + 1) c8) 31 (0, 0)) := by
    have := heap_setCell_same w8 w5.heap.size 7 (opCells o a5 n cap5) 31 (.slice a8 (o.gone ++ [X]).length c8) hH
    rw [this, hlen]
    rfl
  have hbG : Below W4.heap.size W4 w8 := ((hb.alloc hb.size _).alloc (by have := hb.size; simp; omega) _).grown hgrow8 (by have := hb.size; simp; omega) (fun q hq => Nat.le_trans hbase (ho.lt q hq).1)
  refine ⟨withGone o (o.gone ++ [X]), a8, c8, boxO_heap hS hlen, ⟨⟨fun j hj => ?_⟩, by show (o.gone ++ [X]).length ≤ _; omega, by show o.text.size ≤ _; omega⟩, by show (o.gone ++ [X]).length ≤ 10; omega, h2, hbG.setCell hb.size _⟩
  obtain ⟨b, off, hab, hlt, q0, q1, q2⟩ := hE8.cell j hj
  have hnb := hne b off hab
  refine ⟨b, off, hab, ?_, ?_, ?_, ?_⟩
  · rw [World.size_setCell]
    exact hlt
  · rw [World.cell?_setCell_other _ _ _ _ (by first | (simp; omega) | simp)]; exact q0
  · rw [World.cell?_setCell_other _ _ _ _ (by first | (simp; omega) | simp)]; exact q1
  · rw [World.cell?_setCell_other _ _ _ _ (by first | (simp; omega) | simp)]; exact q2

set_option maxRecDepth 100000 in
set_option maxHeartbeats 12000000 in
theorem opForms_walk (p : AskD) (w : World) (h : AskAt w p) (hT : Tabs w) : Calls Tryd.prog 4 #[p.v] w (BoB true w) := by
  have hb0 : Below w.heap.size w (w.alloc (.cells #[.slice p.ao p.o.length p.co, .slice p.ae p.e.length p.ce, .slice p.an p.n.length p.cn] 26)) := (Below.refl _ _).alloc (Nat.le_refl _) _
  have HX := Lib.hid (BoxA.new w p)
  have HB := Lib.hid hb0
  have HT := Lib.hid (hT.next hb0)
  have hnl := h.nl
  clear h hb0 hT
  obtain ⟨i0, hi0, hz0, hz1, hz2⟩ := info_parts Tryd.infoElem
  unfold AskD.v at *
  obtain ⟨lo, le, ln, ao, ae, an, co, ce, cn⟩ := p
  simp only at HX HB HT hnl ⊢
  go_enter Tryd.func4, Tryd.ntmps4
  go_upto_region 1 with fail
  generalize w.alloc (.cells #[.slice ao lo.length co, .slice ae le.length ce, .slice an ln.length cn] 26) = W0 at *
  go_wp2_with fail
  generalize hWG : World.alloc (World.alloc (World.alloc (World.alloc W0 _) _) _) _ = W4
  have hWG2 : W4 = WG W0 := hWG.symm
  clear hWG
  subst hWG2
  have HBG := Lib.hid (wg_below W0)
  have HX4 := Lib.hid (HX.out.step (wg_below W0))
  have HE4 := Lib.hid (wg_e W0)
  have HO4 := Lib.hid (wg_ops W0)
  have HT4 := Lib.hid (HT.out.next (wg_below W0))
  have HSM := Lib.hid (goods_small W0.heap.size)
  have HGL := Lib.hid (show (goods W0.heap.size).length = 4 from rfl)
  have HZ4 := Lib.hid (wg_size W0)
  generalize WG W0 = W4 at *
  go_loopw [5] (fun i wr => ∃ k : Nat, k ≤ 4 ∧ i = .int .i64 k ∧ Below W4.heap.size W4 wr) (fun i _ => 4 - (RowKit.intOf i).toNat)
  case atStart => exact ⟨0, by omega, rfl, Below.refl _ _⟩
  case round =>
    obtain ⟨k, hk, rfl, hbel⟩ := hrel
    by_cases hlt : k < 4
    · have hki : (k : Int) < 4 := by omega
      go_wp2_with fail
      go_loopw [6] (fun i wr => ∃ j : Nat, j ≤ 22 ∧ i = .int .i64 j ∧ Below W4.heap.size W4 wr) (fun i _ => 22 - (RowKit.intOf i).toNat)
      case atStart => exact ⟨0, by omega, rfl, hbel⟩
      case round =>
        clear hbel
        obtain ⟨j, hj, rfl, hbel⟩ := hrel
        by_cases hjl : j < 22
        · have hji : (j : Int) < 22 := by omega
          obtain ⟨b, off, ha, hb, c0, c1, c2, c3, c4, c5, c6, c7, c8, c9, ca⟩ := (HO4.out.below hbel).cells k (by rw [HGL.out]; exact hlt)
          have HOP := Lib.hid ((HO4.out.below hbel).op k (by rw [HGL.out]; exact hlt))
          have HSR := Lib.hid (HSM.out (goods W0.heap.size)[k] (List.getElem_mem (by rw [HGL.out]; exact hlt)))
          simp only [Option.some.injEq, Addr.mk.injEq] at ha
          obtain ⟨rfl, rfl, _⟩ := ha
          generalize (goods W0.heap.size)[k]'(by rw [HGL.out]; exact hlt) = r at *
          obtain ⟨⟨site, seq, kind, ⟨es, eq, ei⟩, text, gone, of, num, gen⟩, ra, rc⟩ := r
          simp only [Nat.zero_add] at c0 c1 c2 c3 c4 c5 c6 c7 c8 c9 ca
          simp only at HOP HSR
          have HCP := Lib.hid (CopyOp_any ⟨site, seq, kind, ⟨es, eq, ei⟩, text, gone, of, num, gen⟩ ra rc wr HOP.out.gone (by show gone.length ≤ 1000000; have := HSR.out.1; omega))
          unfold CopyPost OpD.v at HCP
          simp only at HCP
          go_wp2_with fail
          clear c0 c1 c2 c3 c4 c5 c6 c7 c8 c9 ca
          refine HCP.out.mono ?_
          rintro x w5 ⟨a5, cap5, rfl, hown5, hb5⟩
          have HWR := Lib.hid (hbel.size)
          have HB5 := Lib.hid (hbel.trans (hb5.mono hbel.size))
          have HO5 := Lib.hid hown5
          have HZ5 := Lib.hid hb5.size
          have hks := HSR.out.2.2
          clear hown5 hb5 hbel
          obtain ⟨n, hn⟩ : ∃ n, gone.length = n := ⟨_, rfl⟩
          rw [hn] at HO5 ⊢
          have HNG := Lib.hid hn
          have hn2 : (n : Int) ≤ 2 := by have := HSR.out.1; omega
          clear hn
          go_upto_block 4 with fail
          go_cut [] (fun wx => Spoilt W4 w5.heap.size wx)
          case first =>
            have hj22 : j = 0 ∨ j = 1 ∨ j = 2 ∨ j = 3 ∨ j = 4 ∨ j = 5 ∨ j = 6 ∨ j = 7 ∨ j = 8 ∨ j = 9 ∨ j = 10 ∨ j = 11 ∨ j = 12 ∨ j = 13 ∨ j = 14 ∨ j = 15 ∨ j = 16 ∨ j = 17 ∨ j = 18 ∨ j = 19 ∨ j = 20 ∨ j = 21 := by omega
            clear hj hjl hji
            obtain ⟨hk1, hk2⟩ := hks
            have HG5 := Lib.hid (show ElemsAt w5 a5 gone from elems_row' HO5.out HNG.out)
            have HN10 := Lib.hid (show n ≤ 9 from by omega)
            have HT20 := Lib.hid (show text.size ≤ 20 from by have := HSR.out.2.1; omega)
            have HE5 := Lib.hid (HE4.out.step HB5.out)
            have e0 := HE5.out.c0
            have e1 := HE5.out.c1
            have e2 := HE5.out.c2
            have hel := HE5.out.lt
            simp only at e0 e1 e2
            rcases hj22 with rfl | rfl | rfl | rfl | rfl | rfl | rfl | rfl | rfl | rfl | rfl | rfl | rfl | rfl | rfl | rfl | rfl | rfl | rfl | rfl | rfl | rfl
            · as_aux_lemma =>
                go_wp2_with fail
                go_meet
                exact spoil_new (o := ⟨site, seq, kind, ⟨es, eq, ei⟩, text, gone, of, num, gen⟩) HB5.out HG5.out HNG.out (Nat.le_succ_of_le HN10.out) (HT20.out)
            · as_aux_lemma =>
                go_wp2_with fail
                go_meet
                exact spoil_new (o := ⟨0, seq, kind, ⟨es, eq, ei⟩, text, gone, of, num, gen⟩) HB5.out HG5.out HNG.out (Nat.le_succ_of_le HN10.out) (HT20.out)
            · as_aux_lemma =>
                go_wp2_with fail
                go_meet
                exact spoil_new (o := ⟨9, seq, kind, ⟨es, eq, ei⟩, text, gone, of, num, gen⟩) HB5.out HG5.out HNG.out (Nat.le_succ_of_le HN10.out) (HT20.out)
            · as_aux_lemma =>
                go_wp2_with fail
                go_meet
                exact spoil_new (o := ⟨site, 0, kind, ⟨es, eq, ei⟩, text, gone, of, num, gen⟩) HB5.out HG5.out HNG.out (Nat.le_succ_of_le HN10.out) (HT20.out)
            · as_aux_lemma =>
                go_wp2_with fail
                go_meet
                exact spoil_new (o := ⟨site, 268435457, kind, ⟨es, eq, ei⟩, text, gone, of, num, gen⟩) HB5.out HG5.out HNG.out (Nat.le_succ_of_le HN10.out) (HT20.out)
            · as_aux_lemma =>
                go_wp2_with fail
                go_meet
                exact spoil_new (o := ⟨site, seq, 3, ⟨es, eq, ei⟩, text, gone, of, num, gen⟩) HB5.out HG5.out HNG.out (Nat.le_succ_of_le HN10.out) (HT20.out)
            · as_aux_lemma =>
                go_wp2_with fail
                go_meet
                exact spoil_new (o := ⟨site, seq, 0, ⟨es, eq, ei⟩, text, gone, of, num, gen⟩) HB5.out HG5.out HNG.out (Nat.le_succ_of_le HN10.out) (HT20.out)
            · as_aux_lemma =>
                go_wp2_with fail
                go_meet
                exact spoil_new (o := ⟨site, seq, 3 - kind, ⟨es, eq, ei⟩, text, gone, of, num, gen⟩) HB5.out HG5.out HNG.out (Nat.le_succ_of_le HN10.out) (HT20.out)
            · as_aux_lemma =>
                go_wp2_with fail
                go_meet
                exact spoil_new (o := ⟨site, seq, kind, ⟨es, eq, ei⟩, ⟨#[]⟩, gone, of, num, gen⟩) HB5.out HG5.out HNG.out (Nat.le_succ_of_le HN10.out) (Nat.le_of_ble_eq_true rfl)
            · as_aux_lemma =>
                go_wp2_with fail
                go_meet
                exact spoil_new (o := ⟨site, seq, kind, ⟨es, eq, ei⟩, ⟨#[128]⟩, gone, of, num, gen⟩) HB5.out HG5.out HNG.out (Nat.le_succ_of_le HN10.out) (Nat.le_of_ble_eq_true rfl)
            · as_aux_lemma =>
                go_wp2_with fail
                go_meet
                exact spoil_new (o := ⟨site, seq, kind, ⟨es, eq, ei⟩, ⟨#[48, 49, 50, 51, 52, 53, 54, 55, 56, 57, 97, 98]⟩, gone, of, num, gen⟩) HB5.out HG5.out HNG.out (Nat.le_succ_of_le HN10.out) (Nat.le_of_ble_eq_true rfl)
            · as_aux_lemma =>
                go_wp2_with fail
                go_meet
                exact spoil_new (o := ⟨site, seq, kind, ⟨es, eq, ei⟩, ⟨#[48, 49, 50, 51, 52, 53, 54, 55, 56, 57, 97, 98, 99]⟩, gone, of, num, gen⟩) HB5.out HG5.out HNG.out (Nat.le_succ_of_le HN10.out) (Nat.le_of_ble_eq_true rfl)
            · as_aux_lemma =>
                go_wp2_with (first | (at_builtin; refine wpList_append_own _ rfl _ _ 23 rfl wr.heap.size 29 i0 (.agg #[.int .i64 0, .int .i64 0, .int .i64 0]) 3 24 Tryd.underlying23 hi0 hz0 hz1 hz2 rfl (by decide) _ _ _ rfl ((HO5.out.alloc _).alloc _) ⟨w5.heap.size + 1, 0, none⟩ 1 1 (El.cs ⟨2, 1, 0⟩) rfl rfl (by have h := cell_three_new (w5.alloc (.cells (opCells ⟨site, seq, kind, ⟨es, eq, ei⟩, text, gone, of, num, gen⟩ a5 n cap5) 31)) ⟨2, 1, 0⟩ 29; have hz : (w5.alloc (.cells (opCells ⟨site, seq, kind, ⟨es, eq, ei⟩, text, gone, of, num, gen⟩ a5 n cap5) 31)).heap.size = w5.heap.size + 1 := (by simp); rw [hz] at h; exact h) (cs_one ⟨2, 1, 0⟩) (by have := HN10.out; unfold maxLen; omega) (by have := HN10.out; omega) (by have := HZ5.out; first | (simp; omega) | simp) ?_) | fail)
                intro v8 w8 hown8 hgrow8 hne8
                clear hne8
                obtain ⟨a8, c8, rfl, s1, s2, s3⟩ := spoil_app (o := ⟨site, seq, kind, ⟨es, eq, ei⟩, text, gone, of, num, gen⟩) (X := ⟨2, 1, 0⟩) HB5.out HWR.out HO5.out HNG.out HN10.out HT20.out hown8 hgrow8
                have S3 := Lib.hid s3
                clear s3 hown8 hgrow8
                go_wp2_with fail
                go_meet
                exact S3.out
            · as_aux_lemma =>
                go_wp2_with (first | (at_builtin; refine wpList_append_own _ rfl _ _ 23 rfl wr.heap.size 29 i0 (.agg #[.int .i64 0, .int .i64 0, .int .i64 0]) 3 24 Tryd.underlying23 hi0 hz0 hz1 hz2 rfl (by decide) _ _ _ rfl ((HO5.out.alloc _).alloc _) ⟨w5.heap.size + 1, 0, none⟩ 1 1 (El.cs ⟨0, 0, 0⟩) rfl rfl (by have h := cell_three_new (w5.alloc (.cells (opCells ⟨site, seq, kind, ⟨es, eq, ei⟩, text, gone, of, num, gen⟩ a5 n cap5) 31)) ⟨0, 0, 0⟩ 29; have hz : (w5.alloc (.cells (opCells ⟨site, seq, kind, ⟨es, eq, ei⟩, text, gone, of, num, gen⟩ a5 n cap5) 31)).heap.size = w5.heap.size + 1 := (by simp); rw [hz] at h; exact h) (cs_one ⟨0, 0, 0⟩) (by have := HN10.out; unfold maxLen; omega) (by have := HN10.out; omega) (by have := HZ5.out; first | (simp; omega) | simp) ?_) | fail)
                intro v8 w8 hown8 hgrow8 hne8
                clear hne8
                obtain ⟨a8, c8, rfl, s1, s2, s3⟩ := spoil_app (o := ⟨site, seq, kind, ⟨es, eq, ei⟩, text, gone, of, num, gen⟩) (X := ⟨0, 0, 0⟩) HB5.out HWR.out HO5.out HNG.out HN10.out HT20.out hown8 hgrow8
                have S3 := Lib.hid s3
                clear s3 hown8 hgrow8
                go_wp2_with fail
                go_meet
                exact S3.out
            · as_aux_lemma =>
                go_wp2_with (first | (at_builtin; refine wpList_append_own _ rfl _ _ 23 rfl wr.heap.size 29 i0 (.agg #[.int .i64 0, .int .i64 0, .int .i64 0]) 3 24 Tryd.underlying23 hi0 hz0 hz1 hz2 rfl (by decide) _ _ _ rfl ((HO5.out.alloc _).alloc _) ⟨w5.heap.size + 1, 0, none⟩ 1 1 (El.cs ⟨site, seq, 0⟩) rfl rfl (by have h := cell_three_new (w5.alloc (.cells (opCells ⟨site, seq, kind, ⟨es, eq, ei⟩, text, gone, of, num, gen⟩ a5 n cap5) 31)) ⟨site, seq, 0⟩ 29; have hz : (w5.alloc (.cells (opCells ⟨site, seq, kind, ⟨es, eq, ei⟩, text, gone, of, num, gen⟩ a5 n cap5) 31)).heap.size = w5.heap.size + 1 := (by simp); rw [hz] at h; exact h) (cs_one ⟨site, seq, 0⟩) (by have := HN10.out; unfold maxLen; omega) (by have := HN10.out; omega) (by have := HZ5.out; first | (simp; omega) | simp) ?_) | fail)
                intro v8 w8 hown8 hgrow8 hne8
                clear hne8
                obtain ⟨a8, c8, rfl, s1, s2, s3⟩ := spoil_app (o := ⟨site, seq, kind, ⟨es, eq, ei⟩, text, gone, of, num, gen⟩) (X := ⟨site, seq, 0⟩) HB5.out HWR.out HO5.out HNG.out HN10.out HT20.out hown8 hgrow8
                have S3 := Lib.hid s3
                clear s3 hown8 hgrow8
                go_wp2_with fail
                go_meet
                exact S3.out
            · as_aux_lemma =>
                go_wp2_with (first | (at_builtin; refine wpList_append_own _ rfl _ _ 23 rfl wr.heap.size 29 i0 (.agg #[.int .i64 0, .int .i64 0, .int .i64 0]) 3 24 Tryd.underlying23 hi0 hz0 hz1 hz2 rfl (by decide) _ _ _ rfl ((HO5.out.alloc _).alloc _) ⟨w5.heap.size + 1, 0, none⟩ 1 1 (El.cs ⟨8, 5, 12⟩) rfl rfl (by have h := cell_three_new (w5.alloc (.cells (opCells ⟨site, seq, kind, ⟨es, eq, ei⟩, text, gone, of, num, gen⟩ a5 n cap5) 31)) ⟨8, 5, 12⟩ 29; have hz : (w5.alloc (.cells (opCells ⟨site, seq, kind, ⟨es, eq, ei⟩, text, gone, of, num, gen⟩ a5 n cap5) 31)).heap.size = w5.heap.size + 1 := (by simp); rw [hz] at h; exact h) (cs_one ⟨8, 5, 12⟩) (by have := HN10.out; unfold maxLen; omega) (by have := HN10.out; omega) (by have := HZ5.out; first | (simp; omega) | simp) ?_) | fail)
                intro v8 w8 hown8 hgrow8 hne8
                clear hne8
                obtain ⟨a8, c8, rfl, s1, s2, s3⟩ := spoil_app (o := ⟨site, seq, kind, ⟨es, eq, ei⟩, text, gone, of, num, gen⟩) (X := ⟨8, 5, 12⟩) HB5.out HWR.out HO5.out HNG.out HN10.out HT20.out hown8 hgrow8
                have S3 := Lib.hid s3
                clear s3 hown8 hgrow8
                go_wp2_with fail
                go_meet
                exact S3.out
            · as_aux_lemma =>
                go_wp2_with fail
                go_meet
                exact spoil_new (o := ⟨site, seq, kind, ⟨site, seq, 0⟩, text, gone, of, num, gen⟩) HB5.out HG5.out HNG.out (Nat.le_succ_of_le HN10.out) (HT20.out)
            · as_aux_lemma =>
                go_wp2_with fail
                go_meet
                exact spoil_new (o := ⟨site, seq, kind, ⟨3, 0, 1⟩, text, gone, of, num, gen⟩) HB5.out HG5.out HNG.out (Nat.le_succ_of_le HN10.out) (HT20.out)
            · as_aux_lemma =>
                go_wp2_with fail
                go_meet
                exact spoil_new (o := ⟨site, seq, kind, ⟨es, eq, ei⟩, text, gone, site, seq, gen⟩) HB5.out HG5.out HNG.out (Nat.le_succ_of_le HN10.out) (HT20.out)
            · as_aux_lemma =>
                go_wp2_with fail
                go_meet
                exact spoil_new (o := ⟨site, seq, kind, ⟨es, eq, ei⟩, text, gone, of, num, -1⟩) HB5.out HG5.out HNG.out (Nat.le_succ_of_le HN10.out) (HT20.out)
            · as_aux_lemma =>
                go_wp2_with fail
                go_meet
                exact spoil_new (o := ⟨site, seq, kind, ⟨es, eq, ei⟩, text, gone, 0, num, gen⟩) HB5.out HG5.out HNG.out (Nat.le_succ_of_le HN10.out) (HT20.out)
            · as_aux_lemma =>
                go_wp2_with fail
                go_meet
                exact spoil_new (o := ⟨site, seq, kind, ⟨es, eq, ei⟩, text, gone, of, 268435456, gen⟩) HB5.out HG5.out HNG.out (Nat.le_succ_of_le HN10.out) (HT20.out)
          case rest =>
            obtain ⟨o, a, c, hbo, hio, hg10, ht20, hbx⟩ := hcut
            have HXo := Lib.hid hbo
            have HIo := Lib.hid hio
            have HG10 := Lib.hid hg10
            have HT20 := Lib.hid ht20
            have HBx := Lib.hid hbx
            have HTx := Lib.hid (HT4.out.next hbx)
            clear hbo hio hg10 ht20 hbx HO5 HZ5 hks HNG hn2 HCP HOP HSR
            generalize w5.heap.size = bo at *
            have HC := Lib.hid (fun w h => xCheck_any o a c w h)
            have HRO := Lib.hid (fun w h1 h2 => rOp_any o a c w h1 (by have := HT20.out; omega) h2)
            cases hok : okOp o
            · rw [hok] at HC HRO
              have HND := Lib.hid (fun w h => xNeeds_bad o a c w h hok)
              clear hok
              obtain ⟨site, seq, kind, ⟨es, eq, ei⟩, text, gone, of, num, gen⟩ := o
              unfold OpD.v at HC HRO HND
              simp only at HC HRO HND
              have g0 := HXo.out.c0
              have g1 := HXo.out.c1
              have g2 := HXo.out.c2
              have g3 := HXo.out.c3
              have g4 := HXo.out.c4
              have g5 := HXo.out.c5
              have g6 := HXo.out.c6
              have g7 := HXo.out.c7
              have g8 := HXo.out.c8
              have g9 := HXo.out.c9
              have ga := HXo.out.ca
              simp only at g0 g1 g2 g3 g4 g5 g6 g7 g8 g9 ga
              go_wp2_with fail
              clear g0 g1 g2 g3 g4 g5 g6 g7 g8 g9 ga
              refine (HND.out _ HIo.out).mono ?_
              rintro x w6 ⟨rfl, hb6⟩
              have HX6 := Lib.hid (HXo.out.step hb6)
              have HI6 := Lib.hid (HIo.out.below hb6)
              have HT6 := Lib.hid (HTx.out.next hb6)
              have HB6 := Lib.hid (HBx.out.trans (hb6.mono HBx.out.size))
              clear hb6
              have g0 := HX6.out.c0
              have g1 := HX6.out.c1
              have g2 := HX6.out.c2
              have g3 := HX6.out.c3
              have g4 := HX6.out.c4
              have g5 := HX6.out.c5
              have g6 := HX6.out.c6
              have g7 := HX6.out.c7
              have g8 := HX6.out.c8
              have g9 := HX6.out.c9
              have ga := HX6.out.ca
              simp only at g0 g1 g2 g3 g4 g5 g6 g7 g8 g9 ga
              go_wp2_with fail
              clear g0 g1 g2 g3 g4 g5 g6 g7 g8 g9 ga
              refine (HRO.out _ HT6.out HI6.out.gone).mono ?_
              rintro x w7 ⟨rfl, hb7⟩
              have HX7 := Lib.hid (HX6.out.step hb7)
              have HI7 := Lib.hid (HI6.out.below hb7)
              have HB7 := Lib.hid (HB6.out.trans (hb7.mono HB6.out.size))
              clear hb7
              have g0 := HX7.out.c0
              have g1 := HX7.out.c1
              have g2 := HX7.out.c2
              have g3 := HX7.out.c3
              have g4 := HX7.out.c4
              have g5 := HX7.out.c5
              have g6 := HX7.out.c6
              have g7 := HX7.out.c7
              have g8 := HX7.out.c8
              have g9 := HX7.out.c9
              have ga := HX7.out.ca
              simp only at g0 g1 g2 g3 g4 g5 g6 g7 g8 g9 ga
              go_wp2_with fail
              clear g0 g1 g2 g3 g4 g5 g6 g7 g8 g9 ga
              refine (HC.out _ HI7.out).mono ?_
              rintro x w8 ⟨rfl, hb8⟩
              rw [show errO false = 1 from rfl]
              have HB8 := Lib.hid (HB7.out.trans (hb8.mono HB7.out.size))
              clear hb8
              go_wp2_with (go_at_call 12; refine (num_any _ _).mono ?_; rintro x w9 ⟨rfl, rfl⟩)
              go_roundw
              case rel => exact ⟨j + 1, by omega, by go_num, HB8.out⟩
              case measure => simp [RowKit.intOf]; omega
            · rw [hok] at HC HRO
              have HND := Lib.hid (show ∀ w, OpIn w o a → Calls Tryd.prog 8 #[o.v a c] w (ListPost (needs o) w) from fun w h => by
                by_cases hk2 : o.kind = 2
                · exact xNeeds_toggle o a c w h hok hk2
                · exact xNeeds_edit o a c w h hok hk2)
              have HRN := Lib.hid (fun w h => rNeeds_any o a c w h (by have := HG10.out; omega))
              have hnl2 := needs_len o
              obtain ⟨m, hm⟩ : ∃ m, (needs o).length = m := ⟨_, rfl⟩
              have HM := Lib.hid hm
              have hm9 : (m : Int) ≤ 11 := by have := HG10.out; omega
              generalize needs o = nd at *
              clear hok hnl2
              obtain ⟨site, seq, kind, ⟨es, eq, ei⟩, text, gone, of, num, gen⟩ := o
              unfold OpD.v at HC HRO HND HRN
              simp only at HC HRO HND HRN
              have g0 := HXo.out.c0
              have g1 := HXo.out.c1
              have g2 := HXo.out.c2
              have g3 := HXo.out.c3
              have g4 := HXo.out.c4
              have g5 := HXo.out.c5
              have g6 := HXo.out.c6
              have g7 := HXo.out.c7
              have g8 := HXo.out.c8
              have g9 := HXo.out.c9
              have ga := HXo.out.ca
              simp only at g0 g1 g2 g3 g4 g5 g6 g7 g8 g9 ga
              go_wp2_with fail
              clear g0 g1 g2 g3 g4 g5 g6 g7 g8 g9 ga
              refine (HND.out _ HIo.out).mono ?_
              rintro x w6 ⟨a6, cap6, rfl, hown6, hb6⟩
              rw [hm] at hown6 ⊢
              have HX6 := Lib.hid (HXo.out.step hb6)
              have HI6 := Lib.hid (HIo.out.below hb6)
              have HT6 := Lib.hid (HTx.out.next hb6)
              have HB6 := Lib.hid (HBx.out.trans (hb6.mono HBx.out.size))
              have HO6 := Lib.hid hown6
              clear hb6 hown6
              have g0 := HX6.out.c0
              have g1 := HX6.out.c1
              have g2 := HX6.out.c2
              have g3 := HX6.out.c3
              have g4 := HX6.out.c4
              have g5 := HX6.out.c5
              have g6 := HX6.out.c6
              have g7 := HX6.out.c7
              have g8 := HX6.out.c8
              have g9 := HX6.out.c9
              have ga := HX6.out.ca
              simp only at g0 g1 g2 g3 g4 g5 g6 g7 g8 g9 ga
              go_wp2_with fail
              clear g0 g1 g2 g3 g4 g5 g6 g7 g8 g9 ga
              refine (HRO.out _ HT6.out HI6.out.gone).mono ?_
              rintro x w7 ⟨rfl, hb7⟩
              have HX7 := Lib.hid (HX6.out.step hb7)
              have HI7 := Lib.hid (HI6.out.below hb7)
              have HB7 := Lib.hid (HB6.out.trans (hb7.mono HB6.out.size))
              have HO7 := Lib.hid (owns_belE HO6.out hb7)
              clear hb7
              have g0 := HX7.out.c0
              have g1 := HX7.out.c1
              have g2 := HX7.out.c2
              have g3 := HX7.out.c3
              have g4 := HX7.out.c4
              have g5 := HX7.out.c5
              have g6 := HX7.out.c6
              have g7 := HX7.out.c7
              have g8 := HX7.out.c8
              have g9 := HX7.out.c9
              have ga := HX7.out.ca
              simp only at g0 g1 g2 g3 g4 g5 g6 g7 g8 g9 ga
              go_wp2_with fail
              clear g0 g1 g2 g3 g4 g5 g6 g7 g8 g9 ga
              refine (HC.out _ HI7.out).mono ?_
              rintro x w8 ⟨rfl, hb8⟩
              rw [show errO true = 0 from rfl]
              have HX8 := Lib.hid (HX7.out.step hb8)
              have HI8 := Lib.hid (HI7.out.below hb8)
              have HB8 := Lib.hid (HB7.out.trans (hb8.mono HB7.out.size))
              have HO8 := Lib.hid (owns_belE HO7.out hb8)
              clear hb8
              have g0 := HX8.out.c0
              have g1 := HX8.out.c1
              have g2 := HX8.out.c2
              have g3 := HX8.out.c3
              have g4 := HX8.out.c4
              have g5 := HX8.out.c5
              have g6 := HX8.out.c6
              have g7 := HX8.out.c7
              have g8 := HX8.out.c8
              have g9 := HX8.out.c9
              have ga := HX8.out.ca
              simp only at g0 g1 g2 g3 g4 g5 g6 g7 g8 g9 ga
              go_wp2_with (go_at_call 12; refine (num_any _ _).mono ?_; rintro x w9 ⟨rfl, rfl⟩)
              clear g0 g1 g2 g3 g4 g5 g6 g7 g8 g9 ga
              refine (HRN.out _ HI8.out.gone).mono ?_
              rintro x w10 ⟨a10, cap10, rfl, hown10, hb10⟩
              rw [hm] at hown10 ⊢
              have HB10 := Lib.hid (HB8.out.trans (hb10.mono HB8.out.size))
              have HEQ := Lib.hid (EqElems_n a6 a10 cap6 cap10 m nd w10 (elems_row' (owns_belE HO8.out hb10) HM.out) (elems_row' hown10 HM.out) HM.out (by omega))
              clear hb10 hown10
              go_wp2_with fail
              refine HEQ.out.mono ?_
              rintro x w11 ⟨rfl, hb11⟩
              have HB11 := Lib.hid (HB10.out.trans (hb11.mono HB10.out.size))
              clear hb11
              go_wp2_with fail
              go_roundw
              case rel => exact ⟨j + 1, by omega, by go_num, HB11.out⟩
              case measure => simp [RowKit.intOf]; omega
        · go_wp2_with fail
          go_roundw
          case rel => exact ⟨k + 1, by omega, by go_num, hbel⟩
          case measure => simp [RowKit.intOf]; omega
    · have HBX := Lib.hid (HB.out.trans ((HBG.out.trans (hbel.mono HBG.out.size)).mono HB.out.size))
      have q2 := (HX4.out.step hbel).c2
      have hnn : decide ((0 : Int) ≤ (ln.length : Int)) = true := by simp
      simp only at q2
      clear hbel
      go_wp2_with fail
      refine (wakes_any _).mono ?_
      rintro x w9 ⟨rfl, hb9⟩
      go_wp2_with fail
      go_ret
      exact ⟨rfl, HBX.out.trans (hb9.mono HBX.out.size)⟩
end Go.Proofs.YtlgnpkigodohnaaDoor
