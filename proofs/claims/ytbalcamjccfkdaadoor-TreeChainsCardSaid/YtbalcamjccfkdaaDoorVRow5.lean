/- lectionarylaw5.row: the walk, written behind others -/
import Derived.Test.YtbalcamjccfkdaaDoorVRow2
namespace Go.Proofs.YtbalcamjccfkdaaDoor
open Go.RowKit Go.Lib
set_option maxRecDepth 100000 in
set_option maxHeartbeats 16000000 in
theorem row_any2 (p : AskD) (n : Nat) (w : World) (hn : n ≤ 24) (he : p.e.length ≤ BIG) (hl : p.n.length ≤ BIG) : Calls Tryd.prog 13 #[p.v, .int .i64 n, .int .i64 2] w (RowPost (mrow 2 (p.n.length + p.e.length) n) w) := by
  obtain ⟨i0, hq0, hz0, hz1, hz2⟩ := info_parts Tryd.infoOp
  have HX := Lib.hid (BoxA.new w p)
  have hb0 : Below w.heap.size w (w.alloc p.obj) := (Below.refl _ _).alloc (Nat.le_refl _) _
  have HB0 := Lib.hid hb0
  have hbi := big_is
  clear hb0
  unfold AskD.v
  obtain ⟨lr, le, lo, ln, ar, ae, ao, an, cr, ce, co, cn⟩ := p
  unfold AskD.obj at HX HB0
  simp only at HX HB0 he hl ⊢
  have HC1 := Lib.hid HX.out.c1
  have HC3 := Lib.hid HX.out.c3
  simp only at HC1 HC3
  generalize lr.length = n0 at *
  generalize le.length = n2 at *
  generalize lo.length = n1 at *
  generalize ln.length = n3 at *
  have h2a : (n2 : Int) ≤ 140737488351232 := by omega
  have h3a : (n3 : Int) ≤ 140737488351232 := by omega
  clear hbi he hl
  go_enter Tryd.func13, Tryd.ntmps13
  go_wp2_with fail
  generalize w.alloc (.cells #[.slice ar n0 cr, .slice ae n2 ce, .slice ao n1 co, .slice an n3 cn] 27) = W0 at *
  go_loopw [7, 8] (fun s7 s8 wr => ∃ i : Nat, s8 = .int .i64 i ∧ i ≤ n ∧ RSt W0 wr 2 (n3 + n2) i s7) (fun _ s8 _ => n - (RowKit.intOf s8).toNat)
  case atStart => exact ⟨0, rfl, Nat.zero_le _, World.ownsRow_nil _ _ _ _, Below.refl _ _⟩
  case round =>
    obtain ⟨i, rfl, hi, hst⟩ := hrel
    have HST := Lib.hid hst
    obtain ⟨av, cv, hv, -⟩ := hst.ops (by omega)
    subst hv
    by_cases hlt : i < n
    · have p1 := (hst.below.cell (p := ⟨w.heap.size, 1, none⟩) HX.out.lt).trans HC1.out
      have p3 := (hst.below.cell (p := ⟨w.heap.size, 3, none⟩) HX.out.lt).trans HC3.out
      have hwl : w.heap.size < wr.heap.size := Nat.lt_of_lt_of_le HX.out.lt hst.below.size
      have hi24 : (i : Int) < 24 := by omega
      have HM1 := Lib.hid (show i + 1 ≤ maxLen from by simp only [maxLen]; omega)
      have HM2 := Lib.hid (show (i + 1) * 112 ≤ 140737488355328 from by omega)
      clear hst
      have hmod : (i : Int) % 3 = 0 ∨ (i : Int) % 3 = 1 ∨ (i : Int) % 3 = 2 := by omega
      by_cases h0 : (0 : Int) < (i : Int)
      · obtain ⟨k, hik⟩ : ∃ k, (i * 2 + (n3 + n2)) % i = k := ⟨_, rfl⟩
        have hki : k < i := by rw [← hik]; exact Nat.mod_lt _ (by omega)
        have hkk : ((i : Int) * 2 + (n3 : Int) + (n2 : Int)) % (i : Int) = (k : Int) := by
          rw [← hik]
          push_cast
          rw [Int.add_assoc]
        have hki2 : (k : Int) < (i : Int) := by omega
        obtain ⟨tt, htt⟩ : ∃ tt, k % 3 = tt := ⟨_, rfl⟩
        have htt2 : tt ≤ 2 := by omega
        have HAF := Lib.hid (aft_k2 (kind := 2) (by decide) (n3 + n2) i h0 hik htt)
        have HTL := Lib.hid (txO_len htt)
        clear hik htt
        obtain ⟨b, off, rfl, hbb, c0, c1, c6⟩ := HST.out.cells (by omega) hki
        have hwt : IntKind.i64.wrap (((txO k).size : Int) - 1) = (tt : Int) := by rw [HTL.out, IntWalk.i64_in _ (by omega)]; omega
        generalize txO k = tk at *
        rcases hmod with hr | hr | hr
        · have HROW := Lib.hid (row_is0 (kind := 2) (c := n3 + n2) (show i % 3 = 0 from by omega) HAF.out)
          go_wp2_with fail
          have d0 := old_drew (o1 := (.cells #[.string ⟨#[97]⟩, .string ⟨#[98, 99]⟩, .string ⟨#[100, 101, 102]⟩] 9)) (o2 := (.cells #[.int .i64 1, .int .i64 (1 + (i : Int) / 3), .int .i64 1, .int .i64 0, .int .i64 0, .int .i64 0, .string ⟨#[97]⟩, .slice none 0 0, .int .i64 0, .int .i64 0, .int .i64 0] 33)) c0 hbb
          have d1 := old_drew (o1 := (.cells #[.string ⟨#[97]⟩, .string ⟨#[98, 99]⟩, .string ⟨#[100, 101, 102]⟩] 9)) (o2 := (.cells #[.int .i64 1, .int .i64 (1 + (i : Int) / 3), .int .i64 1, .int .i64 0, .int .i64 0, .int .i64 0, .string ⟨#[97]⟩, .slice none 0 0, .int .i64 0, .int .i64 0, .int .i64 0] 33)) c1 hbb
          have d6 := old_drew (o1 := (.cells #[.string ⟨#[97]⟩, .string ⟨#[98, 99]⟩, .string ⟨#[100, 101, 102]⟩] 9)) (o2 := (.cells #[.int .i64 1, .int .i64 (1 + (i : Int) / 3), .int .i64 1, .int .i64 0, .int .i64 0, .int .i64 0, .string ⟨#[97]⟩, .slice none 0 0, .int .i64 0, .int .i64 0, .int .i64 0] 33)) c6 hbb
          have hbw : b < ((wr.alloc (.cells #[.string ⟨#[97]⟩, .string ⟨#[98, 99]⟩, .string ⟨#[100, 101, 102]⟩] 9)).alloc (.cells #[.int .i64 1, .int .i64 (1 + (i : Int) / 3), .int .i64 1, .int .i64 0, .int .i64 0, .int .i64 0, .string ⟨#[97]⟩, .slice none 0 0, .int .i64 0, .int .i64 0, .int .i64 0] 33)).drew.heap.size := by show b < ((wr.alloc (.cells #[.string ⟨#[97]⟩, .string ⟨#[98, 99]⟩, .string ⟨#[100, 101, 102]⟩] 9)).alloc (.cells #[.int .i64 1, .int .i64 (1 + (i : Int) / 3), .int .i64 1, .int .i64 0, .int .i64 0, .int .i64 0, .string ⟨#[97]⟩, .slice none 0 0, .int .i64 0, .int .i64 0, .int .i64 0] 33)).heap.size; simp; omega
          refine wp_region_still_tail 19 (by kernel_rfl) (by kernel_rfl) ?_
          change wpStill _ _ ((wr.alloc (.cells #[.string ⟨#[97]⟩, .string ⟨#[98, 99]⟩, .string ⟨#[100, 101, 102]⟩] 9)).alloc (.cells #[.int .i64 1, .int .i64 (1 + (i : Int) / 3), .int .i64 1, .int .i64 0, .int .i64 0, .int .i64 0, .string ⟨#[97]⟩, .slice none 0 0, .int .i64 0, .int .i64 0, .int .i64 0] 33)).drew (fun a' => wpList _ _ _ _ a' ((wr.alloc (.cells #[.string ⟨#[97]⟩, .string ⟨#[98, 99]⟩, .string ⟨#[100, 101, 102]⟩] 9)).alloc (.cells #[.int .i64 1, .int .i64 (1 + (i : Int) / 3), .int .i64 1, .int .i64 0, .int .i64 0, .int .i64 0, .string ⟨#[97]⟩, .slice none 0 0, .int .i64 0, .int .i64 0, .int .i64 0] 33)).drew) _ _
          generalize hwe : ((wr.alloc (.cells #[.string ⟨#[97]⟩, .string ⟨#[98, 99]⟩, .string ⟨#[100, 101, 102]⟩] 9)).alloc (.cells #[.int .i64 1, .int .i64 (1 + (i : Int) / 3), .int .i64 1, .int .i64 0, .int .i64 0, .int .i64 0, .string ⟨#[97]⟩, .slice none 0 0, .int .i64 0, .int .i64 0, .int .i64 0] 33)).drew = we at *
          have HWE := Lib.hid hwe
          clear hwe
          simp only [List.take_succ_cons, List.take_zero, List.drop_succ_cons, List.drop_zero]
          repeat still_step
          refine wpStill_nil ?_
          rw [← HWE.out]
          clear d0 d1 d6 hbw HWE
          go_wp2_with (first
            | (at_builtin; refine wpList_append_own _ rfl _ _ 24 rfl W0.heap.size 33 i0 (.agg #[.int .i64 0, .int .i64 0, .int .i64 0, .int .i64 0, .int .i64 0, .int .i64 0, .string ⟨#[]⟩, .slice none 0 0, .int .i64 0, .int .i64 0, .int .i64 0]) 11 112 Tryd.underlying24 hq0 hz0 hz1 hz2 rfl (by decide) _ i _ rfl (((same_drewR _).owns ((HST.out.own.alloc _).alloc _)).alloc _) ⟨wr.heap.size + 1 + 1, 0, none⟩ 1 1 (mkR ⟨1, 1 + (i : Int) / 3, 1, ⟨1 + (k : Int) % 3, 1 + (k : Int) / 3, (tt : Int)⟩, ⟨#[97]⟩, [], 0, 0, 0⟩).cs rfl rfl (cell_op_new3d wr ⟨1, 1 + (i : Int) / 3, 1, ⟨1 + (k : Int) % 3, 1 + (k : Int) / 3, (tt : Int)⟩, ⟨#[97]⟩, [], 0, 0, 0⟩ _ _ _) (cs_oneO _) HM1.out HM2.out (by have := HST.out.below.size; show W0.heap.size ≤ _; simp; omega) ?_; intro v8 w8 hown8 hgrow8 hnil8; have HN := Lib.hid (HST.out.nextd hown8 HROW.out hgrow8); clear hown8 hgrow8 hnil8)
            | fail)
          go_roundw
          case rel => exact ⟨i + 1, by go_num, by omega, HN.out⟩
          case measure => simp [RowKit.intOf] <;> omega
        · have HROW := Lib.hid (row_is1 (kind := 2) (c := n3 + n2) (show i % 3 = 1 from by omega) HAF.out)
          go_wp2_with fail
          have d0 := old_drew (o1 := (.cells #[.string ⟨#[97]⟩, .string ⟨#[98, 99]⟩, .string ⟨#[100, 101, 102]⟩] 9)) (o2 := (.cells #[.int .i64 2, .int .i64 (1 + (i : Int) / 3), .int .i64 1, .int .i64 0, .int .i64 0, .int .i64 0, .string ⟨#[98, 99]⟩, .slice none 0 0, .int .i64 0, .int .i64 0, .int .i64 0] 33)) c0 hbb
          have d1 := old_drew (o1 := (.cells #[.string ⟨#[97]⟩, .string ⟨#[98, 99]⟩, .string ⟨#[100, 101, 102]⟩] 9)) (o2 := (.cells #[.int .i64 2, .int .i64 (1 + (i : Int) / 3), .int .i64 1, .int .i64 0, .int .i64 0, .int .i64 0, .string ⟨#[98, 99]⟩, .slice none 0 0, .int .i64 0, .int .i64 0, .int .i64 0] 33)) c1 hbb
          have d6 := old_drew (o1 := (.cells #[.string ⟨#[97]⟩, .string ⟨#[98, 99]⟩, .string ⟨#[100, 101, 102]⟩] 9)) (o2 := (.cells #[.int .i64 2, .int .i64 (1 + (i : Int) / 3), .int .i64 1, .int .i64 0, .int .i64 0, .int .i64 0, .string ⟨#[98, 99]⟩, .slice none 0 0, .int .i64 0, .int .i64 0, .int .i64 0] 33)) c6 hbb
          have hbw : b < ((wr.alloc (.cells #[.string ⟨#[97]⟩, .string ⟨#[98, 99]⟩, .string ⟨#[100, 101, 102]⟩] 9)).alloc (.cells #[.int .i64 2, .int .i64 (1 + (i : Int) / 3), .int .i64 1, .int .i64 0, .int .i64 0, .int .i64 0, .string ⟨#[98, 99]⟩, .slice none 0 0, .int .i64 0, .int .i64 0, .int .i64 0] 33)).drew.heap.size := by show b < ((wr.alloc (.cells #[.string ⟨#[97]⟩, .string ⟨#[98, 99]⟩, .string ⟨#[100, 101, 102]⟩] 9)).alloc (.cells #[.int .i64 2, .int .i64 (1 + (i : Int) / 3), .int .i64 1, .int .i64 0, .int .i64 0, .int .i64 0, .string ⟨#[98, 99]⟩, .slice none 0 0, .int .i64 0, .int .i64 0, .int .i64 0] 33)).heap.size; simp; omega
          refine wp_region_still_tail 19 (by kernel_rfl) (by kernel_rfl) ?_
          change wpStill _ _ ((wr.alloc (.cells #[.string ⟨#[97]⟩, .string ⟨#[98, 99]⟩, .string ⟨#[100, 101, 102]⟩] 9)).alloc (.cells #[.int .i64 2, .int .i64 (1 + (i : Int) / 3), .int .i64 1, .int .i64 0, .int .i64 0, .int .i64 0, .string ⟨#[98, 99]⟩, .slice none 0 0, .int .i64 0, .int .i64 0, .int .i64 0] 33)).drew (fun a' => wpList _ _ _ _ a' ((wr.alloc (.cells #[.string ⟨#[97]⟩, .string ⟨#[98, 99]⟩, .string ⟨#[100, 101, 102]⟩] 9)).alloc (.cells #[.int .i64 2, .int .i64 (1 + (i : Int) / 3), .int .i64 1, .int .i64 0, .int .i64 0, .int .i64 0, .string ⟨#[98, 99]⟩, .slice none 0 0, .int .i64 0, .int .i64 0, .int .i64 0] 33)).drew) _ _
          generalize hwe : ((wr.alloc (.cells #[.string ⟨#[97]⟩, .string ⟨#[98, 99]⟩, .string ⟨#[100, 101, 102]⟩] 9)).alloc (.cells #[.int .i64 2, .int .i64 (1 + (i : Int) / 3), .int .i64 1, .int .i64 0, .int .i64 0, .int .i64 0, .string ⟨#[98, 99]⟩, .slice none 0 0, .int .i64 0, .int .i64 0, .int .i64 0] 33)).drew = we at *
          have HWE := Lib.hid hwe
          clear hwe
          simp only [List.take_succ_cons, List.take_zero, List.drop_succ_cons, List.drop_zero]
          repeat still_step
          refine wpStill_nil ?_
          rw [← HWE.out]
          clear d0 d1 d6 hbw HWE
          go_wp2_with (first
            | (at_builtin; refine wpList_append_own _ rfl _ _ 24 rfl W0.heap.size 33 i0 (.agg #[.int .i64 0, .int .i64 0, .int .i64 0, .int .i64 0, .int .i64 0, .int .i64 0, .string ⟨#[]⟩, .slice none 0 0, .int .i64 0, .int .i64 0, .int .i64 0]) 11 112 Tryd.underlying24 hq0 hz0 hz1 hz2 rfl (by decide) _ i _ rfl (((same_drewR _).owns ((HST.out.own.alloc _).alloc _)).alloc _) ⟨wr.heap.size + 1 + 1, 0, none⟩ 1 1 (mkR ⟨2, 1 + (i : Int) / 3, 1, ⟨1 + (k : Int) % 3, 1 + (k : Int) / 3, (tt : Int)⟩, ⟨#[98, 99]⟩, [], 0, 0, 0⟩).cs rfl rfl (cell_op_new3d wr ⟨2, 1 + (i : Int) / 3, 1, ⟨1 + (k : Int) % 3, 1 + (k : Int) / 3, (tt : Int)⟩, ⟨#[98, 99]⟩, [], 0, 0, 0⟩ _ _ _) (cs_oneO _) HM1.out HM2.out (by have := HST.out.below.size; show W0.heap.size ≤ _; simp; omega) ?_; intro v8 w8 hown8 hgrow8 hnil8; have HN := Lib.hid (HST.out.nextd hown8 HROW.out hgrow8); clear hown8 hgrow8 hnil8)
            | fail)
          go_roundw
          case rel => exact ⟨i + 1, by go_num, by omega, HN.out⟩
          case measure => simp [RowKit.intOf] <;> omega
        · have HROW := Lib.hid (row_is2 (kind := 2) (c := n3 + n2) (show i % 3 = 2 from by omega) HAF.out)
          go_wp2_with fail
          have d0 := old_drew (o1 := (.cells #[.string ⟨#[97]⟩, .string ⟨#[98, 99]⟩, .string ⟨#[100, 101, 102]⟩] 9)) (o2 := (.cells #[.int .i64 3, .int .i64 (1 + (i : Int) / 3), .int .i64 1, .int .i64 0, .int .i64 0, .int .i64 0, .string ⟨#[100, 101, 102]⟩, .slice none 0 0, .int .i64 0, .int .i64 0, .int .i64 0] 33)) c0 hbb
          have d1 := old_drew (o1 := (.cells #[.string ⟨#[97]⟩, .string ⟨#[98, 99]⟩, .string ⟨#[100, 101, 102]⟩] 9)) (o2 := (.cells #[.int .i64 3, .int .i64 (1 + (i : Int) / 3), .int .i64 1, .int .i64 0, .int .i64 0, .int .i64 0, .string ⟨#[100, 101, 102]⟩, .slice none 0 0, .int .i64 0, .int .i64 0, .int .i64 0] 33)) c1 hbb
          have d6 := old_drew (o1 := (.cells #[.string ⟨#[97]⟩, .string ⟨#[98, 99]⟩, .string ⟨#[100, 101, 102]⟩] 9)) (o2 := (.cells #[.int .i64 3, .int .i64 (1 + (i : Int) / 3), .int .i64 1, .int .i64 0, .int .i64 0, .int .i64 0, .string ⟨#[100, 101, 102]⟩, .slice none 0 0, .int .i64 0, .int .i64 0, .int .i64 0] 33)) c6 hbb
          have hbw : b < ((wr.alloc (.cells #[.string ⟨#[97]⟩, .string ⟨#[98, 99]⟩, .string ⟨#[100, 101, 102]⟩] 9)).alloc (.cells #[.int .i64 3, .int .i64 (1 + (i : Int) / 3), .int .i64 1, .int .i64 0, .int .i64 0, .int .i64 0, .string ⟨#[100, 101, 102]⟩, .slice none 0 0, .int .i64 0, .int .i64 0, .int .i64 0] 33)).drew.heap.size := by show b < ((wr.alloc (.cells #[.string ⟨#[97]⟩, .string ⟨#[98, 99]⟩, .string ⟨#[100, 101, 102]⟩] 9)).alloc (.cells #[.int .i64 3, .int .i64 (1 + (i : Int) / 3), .int .i64 1, .int .i64 0, .int .i64 0, .int .i64 0, .string ⟨#[100, 101, 102]⟩, .slice none 0 0, .int .i64 0, .int .i64 0, .int .i64 0] 33)).heap.size; simp; omega
          refine wp_region_still_tail 19 (by kernel_rfl) (by kernel_rfl) ?_
          change wpStill _ _ ((wr.alloc (.cells #[.string ⟨#[97]⟩, .string ⟨#[98, 99]⟩, .string ⟨#[100, 101, 102]⟩] 9)).alloc (.cells #[.int .i64 3, .int .i64 (1 + (i : Int) / 3), .int .i64 1, .int .i64 0, .int .i64 0, .int .i64 0, .string ⟨#[100, 101, 102]⟩, .slice none 0 0, .int .i64 0, .int .i64 0, .int .i64 0] 33)).drew (fun a' => wpList _ _ _ _ a' ((wr.alloc (.cells #[.string ⟨#[97]⟩, .string ⟨#[98, 99]⟩, .string ⟨#[100, 101, 102]⟩] 9)).alloc (.cells #[.int .i64 3, .int .i64 (1 + (i : Int) / 3), .int .i64 1, .int .i64 0, .int .i64 0, .int .i64 0, .string ⟨#[100, 101, 102]⟩, .slice none 0 0, .int .i64 0, .int .i64 0, .int .i64 0] 33)).drew) _ _
          generalize hwe : ((wr.alloc (.cells #[.string ⟨#[97]⟩, .string ⟨#[98, 99]⟩, .string ⟨#[100, 101, 102]⟩] 9)).alloc (.cells #[.int .i64 3, .int .i64 (1 + (i : Int) / 3), .int .i64 1, .int .i64 0, .int .i64 0, .int .i64 0, .string ⟨#[100, 101, 102]⟩, .slice none 0 0, .int .i64 0, .int .i64 0, .int .i64 0] 33)).drew = we at *
          have HWE := Lib.hid hwe
          clear hwe
          simp only [List.take_succ_cons, List.take_zero, List.drop_succ_cons, List.drop_zero]
          repeat still_step
          refine wpStill_nil ?_
          rw [← HWE.out]
          clear d0 d1 d6 hbw HWE
          go_wp2_with (first
            | (at_builtin; refine wpList_append_own _ rfl _ _ 24 rfl W0.heap.size 33 i0 (.agg #[.int .i64 0, .int .i64 0, .int .i64 0, .int .i64 0, .int .i64 0, .int .i64 0, .string ⟨#[]⟩, .slice none 0 0, .int .i64 0, .int .i64 0, .int .i64 0]) 11 112 Tryd.underlying24 hq0 hz0 hz1 hz2 rfl (by decide) _ i _ rfl (((same_drewR _).owns ((HST.out.own.alloc _).alloc _)).alloc _) ⟨wr.heap.size + 1 + 1, 0, none⟩ 1 1 (mkR ⟨3, 1 + (i : Int) / 3, 1, ⟨1 + (k : Int) % 3, 1 + (k : Int) / 3, (tt : Int)⟩, ⟨#[100, 101, 102]⟩, [], 0, 0, 0⟩).cs rfl rfl (cell_op_new3d wr ⟨3, 1 + (i : Int) / 3, 1, ⟨1 + (k : Int) % 3, 1 + (k : Int) / 3, (tt : Int)⟩, ⟨#[100, 101, 102]⟩, [], 0, 0, 0⟩ _ _ _) (cs_oneO _) HM1.out HM2.out (by have := HST.out.below.size; show W0.heap.size ≤ _; simp; omega) ?_; intro v8 w8 hown8 hgrow8 hnil8; have HN := Lib.hid (HST.out.nextd hown8 HROW.out hgrow8); clear hown8 hgrow8 hnil8)
            | fail)
          go_roundw
          case rel => exact ⟨i + 1, by go_num, by omega, HN.out⟩
          case measure => simp [RowKit.intOf] <;> omega
      · have hr : (i : Int) % 3 = 0 := by omega
        have HROW := Lib.hid (row_is0 (kind := 2) (c := n3 + n2) (show i % 3 = 0 from by omega) (aft_00 _ _ _ h0))
        go_wp2_with (first
          | (at_builtin; refine wpList_append_own _ rfl _ _ 24 rfl W0.heap.size 33 i0 (.agg #[.int .i64 0, .int .i64 0, .int .i64 0, .int .i64 0, .int .i64 0, .int .i64 0, .string ⟨#[]⟩, .slice none 0 0, .int .i64 0, .int .i64 0, .int .i64 0]) 11 112 Tryd.underlying24 hq0 hz0 hz1 hz2 rfl (by decide) _ i _ rfl (((HST.out.own.alloc _).alloc _).alloc _) ⟨wr.heap.size + 1 + 1, 0, none⟩ 1 1 (mkR ⟨1, 1 + (i : Int) / 3, 1, ⟨0, 0, 0⟩, ⟨#[97]⟩, [], 0, 0, 0⟩).cs rfl rfl (cell_op_new3 wr ⟨1, 1 + (i : Int) / 3, 1, ⟨0, 0, 0⟩, ⟨#[97]⟩, [], 0, 0, 0⟩ _ _ _) (cs_oneO _) HM1.out HM2.out (by have := HST.out.below.size; simp; omega) ?_; intro v8 w8 hown8 hgrow8 hnil8; have HN := Lib.hid (HST.out.next hown8 HROW.out hgrow8); clear hown8 hgrow8 hnil8)
          | fail)
        go_roundw
        case rel => exact ⟨i + 1, by go_num, by omega, HN.out⟩
        case measure => simp [RowKit.intOf] <;> omega
    · have h0 : i = n := by omega
      have HF := Lib.hid (show RowPost (mrow 2 (n3 + n2) n) w (.returned (.slice av i cv)) wr from by
        refine ⟨_, rfl, ?_, HB0.out.trans (hst.below.mono HB0.out.size)⟩
        rw [mrow_len, ← h0]
        exact owns_base hst.own HB0.out.size)
      clear hst h0
      go_wp2_with fail
      go_ret
      exact HF.out
set_option maxRecDepth 100000 in
set_option maxHeartbeats 16000000 in
theorem row_any5 (p : AskD) (n : Nat) (w : World) (hn : n ≤ 24) (he : p.e.length ≤ BIG) (hl : p.n.length ≤ BIG) : Calls Tryd.prog 13 #[p.v, .int .i64 n, .int .i64 5] w (RowPost (mrow 5 (p.n.length + p.e.length) n) w) := by
  obtain ⟨i0, hq0, hz0, hz1, hz2⟩ := info_parts Tryd.infoOp
  have HX := Lib.hid (BoxA.new w p)
  have hb0 : Below w.heap.size w (w.alloc p.obj) := (Below.refl _ _).alloc (Nat.le_refl _) _
  have HB0 := Lib.hid hb0
  have hbi := big_is
  clear hb0
  unfold AskD.v
  obtain ⟨lr, le, lo, ln, ar, ae, ao, an, cr, ce, co, cn⟩ := p
  unfold AskD.obj at HX HB0
  simp only at HX HB0 he hl ⊢
  have HC1 := Lib.hid HX.out.c1
  have HC3 := Lib.hid HX.out.c3
  simp only at HC1 HC3
  generalize lr.length = n0 at *
  generalize le.length = n2 at *
  generalize lo.length = n1 at *
  generalize ln.length = n3 at *
  have h2a : (n2 : Int) ≤ 140737488351232 := by omega
  have h3a : (n3 : Int) ≤ 140737488351232 := by omega
  clear hbi he hl
  go_enter Tryd.func13, Tryd.ntmps13
  go_wp2_with fail
  generalize w.alloc (.cells #[.slice ar n0 cr, .slice ae n2 ce, .slice ao n1 co, .slice an n3 cn] 27) = W0 at *
  go_loopw [7, 8] (fun s7 s8 wr => ∃ i : Nat, s8 = .int .i64 i ∧ i ≤ n ∧ RSt W0 wr 5 (n3 + n2) i s7) (fun _ s8 _ => n - (RowKit.intOf s8).toNat)
  case atStart => exact ⟨0, rfl, Nat.zero_le _, World.ownsRow_nil _ _ _ _, Below.refl _ _⟩
  case round =>
    obtain ⟨i, rfl, hi, hst⟩ := hrel
    have HST := Lib.hid hst
    obtain ⟨av, cv, hv, -⟩ := hst.ops (by omega)
    subst hv
    by_cases hlt : i < n
    · have p1 := (hst.below.cell (p := ⟨w.heap.size, 1, none⟩) HX.out.lt).trans HC1.out
      have p3 := (hst.below.cell (p := ⟨w.heap.size, 3, none⟩) HX.out.lt).trans HC3.out
      have hwl : w.heap.size < wr.heap.size := Nat.lt_of_lt_of_le HX.out.lt hst.below.size
      have hi24 : (i : Int) < 24 := by omega
      have HM1 := Lib.hid (show i + 1 ≤ maxLen from by simp only [maxLen]; omega)
      have HM2 := Lib.hid (show (i + 1) * 112 ≤ 140737488355328 from by omega)
      clear hst
      have hmod : (i : Int) % 3 = 0 ∨ (i : Int) % 3 = 1 ∨ (i : Int) % 3 = 2 := by omega
      by_cases h0 : (0 : Int) < (i : Int)
      · obtain ⟨k, hik⟩ : ∃ k, (i * 5 + (n3 + n2)) % i = k := ⟨_, rfl⟩
        have hki : k < i := by rw [← hik]; exact Nat.mod_lt _ (by omega)
        have hkk : ((i : Int) * 5 + (n3 : Int) + (n2 : Int)) % (i : Int) = (k : Int) := by
          rw [← hik]
          push_cast
          rw [Int.add_assoc]
        have hki2 : (k : Int) < (i : Int) := by omega
        obtain ⟨tt, htt⟩ : ∃ tt, k % 3 = tt := ⟨_, rfl⟩
        have htt2 : tt ≤ 2 := by omega
        have HAF := Lib.hid (aft_k2 (kind := 5) (by decide) (n3 + n2) i h0 hik htt)
        have HTL := Lib.hid (txO_len htt)
        clear hik htt
        obtain ⟨b, off, rfl, hbb, c0, c1, c6⟩ := HST.out.cells (by omega) hki
        have hwt : IntKind.i64.wrap (((txO k).size : Int) - 1) = (tt : Int) := by rw [HTL.out, IntWalk.i64_in _ (by omega)]; omega
        generalize txO k = tk at *
        rcases hmod with hr | hr | hr
        · have HROW := Lib.hid (row_is0 (kind := 5) (c := n3 + n2) (show i % 3 = 0 from by omega) HAF.out)
          go_wp2_with fail
          have d0 := old_drew (o1 := (.cells #[.string ⟨#[97]⟩, .string ⟨#[98, 99]⟩, .string ⟨#[100, 101, 102]⟩] 9)) (o2 := (.cells #[.int .i64 1, .int .i64 (1 + (i : Int) / 3), .int .i64 1, .int .i64 0, .int .i64 0, .int .i64 0, .string ⟨#[97]⟩, .slice none 0 0, .int .i64 0, .int .i64 0, .int .i64 0] 33)) c0 hbb
          have d1 := old_drew (o1 := (.cells #[.string ⟨#[97]⟩, .string ⟨#[98, 99]⟩, .string ⟨#[100, 101, 102]⟩] 9)) (o2 := (.cells #[.int .i64 1, .int .i64 (1 + (i : Int) / 3), .int .i64 1, .int .i64 0, .int .i64 0, .int .i64 0, .string ⟨#[97]⟩, .slice none 0 0, .int .i64 0, .int .i64 0, .int .i64 0] 33)) c1 hbb
          have d6 := old_drew (o1 := (.cells #[.string ⟨#[97]⟩, .string ⟨#[98, 99]⟩, .string ⟨#[100, 101, 102]⟩] 9)) (o2 := (.cells #[.int .i64 1, .int .i64 (1 + (i : Int) / 3), .int .i64 1, .int .i64 0, .int .i64 0, .int .i64 0, .string ⟨#[97]⟩, .slice none 0 0, .int .i64 0, .int .i64 0, .int .i64 0] 33)) c6 hbb
          have hbw : b < ((wr.alloc (.cells #[.string ⟨#[97]⟩, .string ⟨#[98, 99]⟩, .string ⟨#[100, 101, 102]⟩] 9)).alloc (.cells #[.int .i64 1, .int .i64 (1 + (i : Int) / 3), .int .i64 1, .int .i64 0, .int .i64 0, .int .i64 0, .string ⟨#[97]⟩, .slice none 0 0, .int .i64 0, .int .i64 0, .int .i64 0] 33)).drew.heap.size := by show b < ((wr.alloc (.cells #[.string ⟨#[97]⟩, .string ⟨#[98, 99]⟩, .string ⟨#[100, 101, 102]⟩] 9)).alloc (.cells #[.int .i64 1, .int .i64 (1 + (i : Int) / 3), .int .i64 1, .int .i64 0, .int .i64 0, .int .i64 0, .string ⟨#[97]⟩, .slice none 0 0, .int .i64 0, .int .i64 0, .int .i64 0] 33)).heap.size; simp; omega
          refine wp_region_still_tail 19 (by kernel_rfl) (by kernel_rfl) ?_
          change wpStill _ _ ((wr.alloc (.cells #[.string ⟨#[97]⟩, .string ⟨#[98, 99]⟩, .string ⟨#[100, 101, 102]⟩] 9)).alloc (.cells #[.int .i64 1, .int .i64 (1 + (i : Int) / 3), .int .i64 1, .int .i64 0, .int .i64 0, .int .i64 0, .string ⟨#[97]⟩, .slice none 0 0, .int .i64 0, .int .i64 0, .int .i64 0] 33)).drew (fun a' => wpList _ _ _ _ a' ((wr.alloc (.cells #[.string ⟨#[97]⟩, .string ⟨#[98, 99]⟩, .string ⟨#[100, 101, 102]⟩] 9)).alloc (.cells #[.int .i64 1, .int .i64 (1 + (i : Int) / 3), .int .i64 1, .int .i64 0, .int .i64 0, .int .i64 0, .string ⟨#[97]⟩, .slice none 0 0, .int .i64 0, .int .i64 0, .int .i64 0] 33)).drew) _ _
          generalize hwe : ((wr.alloc (.cells #[.string ⟨#[97]⟩, .string ⟨#[98, 99]⟩, .string ⟨#[100, 101, 102]⟩] 9)).alloc (.cells #[.int .i64 1, .int .i64 (1 + (i : Int) / 3), .int .i64 1, .int .i64 0, .int .i64 0, .int .i64 0, .string ⟨#[97]⟩, .slice none 0 0, .int .i64 0, .int .i64 0, .int .i64 0] 33)).drew = we at *
          have HWE := Lib.hid hwe
          clear hwe
          simp only [List.take_succ_cons, List.take_zero, List.drop_succ_cons, List.drop_zero]
          repeat still_step
          refine wpStill_nil ?_
          rw [← HWE.out]
          clear d0 d1 d6 hbw HWE
          go_wp2_with (first
            | (at_builtin; refine wpList_append_own _ rfl _ _ 24 rfl W0.heap.size 33 i0 (.agg #[.int .i64 0, .int .i64 0, .int .i64 0, .int .i64 0, .int .i64 0, .int .i64 0, .string ⟨#[]⟩, .slice none 0 0, .int .i64 0, .int .i64 0, .int .i64 0]) 11 112 Tryd.underlying24 hq0 hz0 hz1 hz2 rfl (by decide) _ i _ rfl (((same_drewR _).owns ((HST.out.own.alloc _).alloc _)).alloc _) ⟨wr.heap.size + 1 + 1, 0, none⟩ 1 1 (mkR ⟨1, 1 + (i : Int) / 3, 1, ⟨1 + (k : Int) % 3, 1 + (k : Int) / 3, (tt : Int)⟩, ⟨#[97]⟩, [], 0, 0, 0⟩).cs rfl rfl (cell_op_new3d wr ⟨1, 1 + (i : Int) / 3, 1, ⟨1 + (k : Int) % 3, 1 + (k : Int) / 3, (tt : Int)⟩, ⟨#[97]⟩, [], 0, 0, 0⟩ _ _ _) (cs_oneO _) HM1.out HM2.out (by have := HST.out.below.size; show W0.heap.size ≤ _; simp; omega) ?_; intro v8 w8 hown8 hgrow8 hnil8; have HN := Lib.hid (HST.out.nextd hown8 HROW.out hgrow8); clear hown8 hgrow8 hnil8)
            | fail)
          go_roundw
          case rel => exact ⟨i + 1, by go_num, by omega, HN.out⟩
          case measure => simp [RowKit.intOf] <;> omega
        · have HROW := Lib.hid (row_is1 (kind := 5) (c := n3 + n2) (show i % 3 = 1 from by omega) HAF.out)
          go_wp2_with fail
          have d0 := old_drew (o1 := (.cells #[.string ⟨#[97]⟩, .string ⟨#[98, 99]⟩, .string ⟨#[100, 101, 102]⟩] 9)) (o2 := (.cells #[.int .i64 2, .int .i64 (1 + (i : Int) / 3), .int .i64 1, .int .i64 0, .int .i64 0, .int .i64 0, .string ⟨#[98, 99]⟩, .slice none 0 0, .int .i64 0, .int .i64 0, .int .i64 0] 33)) c0 hbb
          have d1 := old_drew (o1 := (.cells #[.string ⟨#[97]⟩, .string ⟨#[98, 99]⟩, .string ⟨#[100, 101, 102]⟩] 9)) (o2 := (.cells #[.int .i64 2, .int .i64 (1 + (i : Int) / 3), .int .i64 1, .int .i64 0, .int .i64 0, .int .i64 0, .string ⟨#[98, 99]⟩, .slice none 0 0, .int .i64 0, .int .i64 0, .int .i64 0] 33)) c1 hbb
          have d6 := old_drew (o1 := (.cells #[.string ⟨#[97]⟩, .string ⟨#[98, 99]⟩, .string ⟨#[100, 101, 102]⟩] 9)) (o2 := (.cells #[.int .i64 2, .int .i64 (1 + (i : Int) / 3), .int .i64 1, .int .i64 0, .int .i64 0, .int .i64 0, .string ⟨#[98, 99]⟩, .slice none 0 0, .int .i64 0, .int .i64 0, .int .i64 0] 33)) c6 hbb
          have hbw : b < ((wr.alloc (.cells #[.string ⟨#[97]⟩, .string ⟨#[98, 99]⟩, .string ⟨#[100, 101, 102]⟩] 9)).alloc (.cells #[.int .i64 2, .int .i64 (1 + (i : Int) / 3), .int .i64 1, .int .i64 0, .int .i64 0, .int .i64 0, .string ⟨#[98, 99]⟩, .slice none 0 0, .int .i64 0, .int .i64 0, .int .i64 0] 33)).drew.heap.size := by show b < ((wr.alloc (.cells #[.string ⟨#[97]⟩, .string ⟨#[98, 99]⟩, .string ⟨#[100, 101, 102]⟩] 9)).alloc (.cells #[.int .i64 2, .int .i64 (1 + (i : Int) / 3), .int .i64 1, .int .i64 0, .int .i64 0, .int .i64 0, .string ⟨#[98, 99]⟩, .slice none 0 0, .int .i64 0, .int .i64 0, .int .i64 0] 33)).heap.size; simp; omega
          refine wp_region_still_tail 19 (by kernel_rfl) (by kernel_rfl) ?_
          change wpStill _ _ ((wr.alloc (.cells #[.string ⟨#[97]⟩, .string ⟨#[98, 99]⟩, .string ⟨#[100, 101, 102]⟩] 9)).alloc (.cells #[.int .i64 2, .int .i64 (1 + (i : Int) / 3), .int .i64 1, .int .i64 0, .int .i64 0, .int .i64 0, .string ⟨#[98, 99]⟩, .slice none 0 0, .int .i64 0, .int .i64 0, .int .i64 0] 33)).drew (fun a' => wpList _ _ _ _ a' ((wr.alloc (.cells #[.string ⟨#[97]⟩, .string ⟨#[98, 99]⟩, .string ⟨#[100, 101, 102]⟩] 9)).alloc (.cells #[.int .i64 2, .int .i64 (1 + (i : Int) / 3), .int .i64 1, .int .i64 0, .int .i64 0, .int .i64 0, .string ⟨#[98, 99]⟩, .slice none 0 0, .int .i64 0, .int .i64 0, .int .i64 0] 33)).drew) _ _
          generalize hwe : ((wr.alloc (.cells #[.string ⟨#[97]⟩, .string ⟨#[98, 99]⟩, .string ⟨#[100, 101, 102]⟩] 9)).alloc (.cells #[.int .i64 2, .int .i64 (1 + (i : Int) / 3), .int .i64 1, .int .i64 0, .int .i64 0, .int .i64 0, .string ⟨#[98, 99]⟩, .slice none 0 0, .int .i64 0, .int .i64 0, .int .i64 0] 33)).drew = we at *
          have HWE := Lib.hid hwe
          clear hwe
          simp only [List.take_succ_cons, List.take_zero, List.drop_succ_cons, List.drop_zero]
          repeat still_step
          refine wpStill_nil ?_
          rw [← HWE.out]
          clear d0 d1 d6 hbw HWE
          go_wp2_with (first
            | (at_builtin; refine wpList_append_own _ rfl _ _ 24 rfl W0.heap.size 33 i0 (.agg #[.int .i64 0, .int .i64 0, .int .i64 0, .int .i64 0, .int .i64 0, .int .i64 0, .string ⟨#[]⟩, .slice none 0 0, .int .i64 0, .int .i64 0, .int .i64 0]) 11 112 Tryd.underlying24 hq0 hz0 hz1 hz2 rfl (by decide) _ i _ rfl (((same_drewR _).owns ((HST.out.own.alloc _).alloc _)).alloc _) ⟨wr.heap.size + 1 + 1, 0, none⟩ 1 1 (mkR ⟨2, 1 + (i : Int) / 3, 1, ⟨1 + (k : Int) % 3, 1 + (k : Int) / 3, (tt : Int)⟩, ⟨#[98, 99]⟩, [], 0, 0, 0⟩).cs rfl rfl (cell_op_new3d wr ⟨2, 1 + (i : Int) / 3, 1, ⟨1 + (k : Int) % 3, 1 + (k : Int) / 3, (tt : Int)⟩, ⟨#[98, 99]⟩, [], 0, 0, 0⟩ _ _ _) (cs_oneO _) HM1.out HM2.out (by have := HST.out.below.size; show W0.heap.size ≤ _; simp; omega) ?_; intro v8 w8 hown8 hgrow8 hnil8; have HN := Lib.hid (HST.out.nextd hown8 HROW.out hgrow8); clear hown8 hgrow8 hnil8)
            | fail)
          go_roundw
          case rel => exact ⟨i + 1, by go_num, by omega, HN.out⟩
          case measure => simp [RowKit.intOf] <;> omega
        · have HROW := Lib.hid (row_is2 (kind := 5) (c := n3 + n2) (show i % 3 = 2 from by omega) HAF.out)
          go_wp2_with fail
          have d0 := old_drew (o1 := (.cells #[.string ⟨#[97]⟩, .string ⟨#[98, 99]⟩, .string ⟨#[100, 101, 102]⟩] 9)) (o2 := (.cells #[.int .i64 3, .int .i64 (1 + (i : Int) / 3), .int .i64 1, .int .i64 0, .int .i64 0, .int .i64 0, .string ⟨#[100, 101, 102]⟩, .slice none 0 0, .int .i64 0, .int .i64 0, .int .i64 0] 33)) c0 hbb
          have d1 := old_drew (o1 := (.cells #[.string ⟨#[97]⟩, .string ⟨#[98, 99]⟩, .string ⟨#[100, 101, 102]⟩] 9)) (o2 := (.cells #[.int .i64 3, .int .i64 (1 + (i : Int) / 3), .int .i64 1, .int .i64 0, .int .i64 0, .int .i64 0, .string ⟨#[100, 101, 102]⟩, .slice none 0 0, .int .i64 0, .int .i64 0, .int .i64 0] 33)) c1 hbb
          have d6 := old_drew (o1 := (.cells #[.string ⟨#[97]⟩, .string ⟨#[98, 99]⟩, .string ⟨#[100, 101, 102]⟩] 9)) (o2 := (.cells #[.int .i64 3, .int .i64 (1 + (i : Int) / 3), .int .i64 1, .int .i64 0, .int .i64 0, .int .i64 0, .string ⟨#[100, 101, 102]⟩, .slice none 0 0, .int .i64 0, .int .i64 0, .int .i64 0] 33)) c6 hbb
          have hbw : b < ((wr.alloc (.cells #[.string ⟨#[97]⟩, .string ⟨#[98, 99]⟩, .string ⟨#[100, 101, 102]⟩] 9)).alloc (.cells #[.int .i64 3, .int .i64 (1 + (i : Int) / 3), .int .i64 1, .int .i64 0, .int .i64 0, .int .i64 0, .string ⟨#[100, 101, 102]⟩, .slice none 0 0, .int .i64 0, .int .i64 0, .int .i64 0] 33)).drew.heap.size := by show b < ((wr.alloc (.cells #[.string ⟨#[97]⟩, .string ⟨#[98, 99]⟩, .string ⟨#[100, 101, 102]⟩] 9)).alloc (.cells #[.int .i64 3, .int .i64 (1 + (i : Int) / 3), .int .i64 1, .int .i64 0, .int .i64 0, .int .i64 0, .string ⟨#[100, 101, 102]⟩, .slice none 0 0, .int .i64 0, .int .i64 0, .int .i64 0] 33)).heap.size; simp; omega
          refine wp_region_still_tail 19 (by kernel_rfl) (by kernel_rfl) ?_
          change wpStill _ _ ((wr.alloc (.cells #[.string ⟨#[97]⟩, .string ⟨#[98, 99]⟩, .string ⟨#[100, 101, 102]⟩] 9)).alloc (.cells #[.int .i64 3, .int .i64 (1 + (i : Int) / 3), .int .i64 1, .int .i64 0, .int .i64 0, .int .i64 0, .string ⟨#[100, 101, 102]⟩, .slice none 0 0, .int .i64 0, .int .i64 0, .int .i64 0] 33)).drew (fun a' => wpList _ _ _ _ a' ((wr.alloc (.cells #[.string ⟨#[97]⟩, .string ⟨#[98, 99]⟩, .string ⟨#[100, 101, 102]⟩] 9)).alloc (.cells #[.int .i64 3, .int .i64 (1 + (i : Int) / 3), .int .i64 1, .int .i64 0, .int .i64 0, .int .i64 0, .string ⟨#[100, 101, 102]⟩, .slice none 0 0, .int .i64 0, .int .i64 0, .int .i64 0] 33)).drew) _ _
          generalize hwe : ((wr.alloc (.cells #[.string ⟨#[97]⟩, .string ⟨#[98, 99]⟩, .string ⟨#[100, 101, 102]⟩] 9)).alloc (.cells #[.int .i64 3, .int .i64 (1 + (i : Int) / 3), .int .i64 1, .int .i64 0, .int .i64 0, .int .i64 0, .string ⟨#[100, 101, 102]⟩, .slice none 0 0, .int .i64 0, .int .i64 0, .int .i64 0] 33)).drew = we at *
          have HWE := Lib.hid hwe
          clear hwe
          simp only [List.take_succ_cons, List.take_zero, List.drop_succ_cons, List.drop_zero]
          repeat still_step
          refine wpStill_nil ?_
          rw [← HWE.out]
          clear d0 d1 d6 hbw HWE
          go_wp2_with (first
            | (at_builtin; refine wpList_append_own _ rfl _ _ 24 rfl W0.heap.size 33 i0 (.agg #[.int .i64 0, .int .i64 0, .int .i64 0, .int .i64 0, .int .i64 0, .int .i64 0, .string ⟨#[]⟩, .slice none 0 0, .int .i64 0, .int .i64 0, .int .i64 0]) 11 112 Tryd.underlying24 hq0 hz0 hz1 hz2 rfl (by decide) _ i _ rfl (((same_drewR _).owns ((HST.out.own.alloc _).alloc _)).alloc _) ⟨wr.heap.size + 1 + 1, 0, none⟩ 1 1 (mkR ⟨3, 1 + (i : Int) / 3, 1, ⟨1 + (k : Int) % 3, 1 + (k : Int) / 3, (tt : Int)⟩, ⟨#[100, 101, 102]⟩, [], 0, 0, 0⟩).cs rfl rfl (cell_op_new3d wr ⟨3, 1 + (i : Int) / 3, 1, ⟨1 + (k : Int) % 3, 1 + (k : Int) / 3, (tt : Int)⟩, ⟨#[100, 101, 102]⟩, [], 0, 0, 0⟩ _ _ _) (cs_oneO _) HM1.out HM2.out (by have := HST.out.below.size; show W0.heap.size ≤ _; simp; omega) ?_; intro v8 w8 hown8 hgrow8 hnil8; have HN := Lib.hid (HST.out.nextd hown8 HROW.out hgrow8); clear hown8 hgrow8 hnil8)
            | fail)
          go_roundw
          case rel => exact ⟨i + 1, by go_num, by omega, HN.out⟩
          case measure => simp [RowKit.intOf] <;> omega
      · have hr : (i : Int) % 3 = 0 := by omega
        have HROW := Lib.hid (row_is0 (kind := 5) (c := n3 + n2) (show i % 3 = 0 from by omega) (aft_00 _ _ _ h0))
        go_wp2_with (first
          | (at_builtin; refine wpList_append_own _ rfl _ _ 24 rfl W0.heap.size 33 i0 (.agg #[.int .i64 0, .int .i64 0, .int .i64 0, .int .i64 0, .int .i64 0, .int .i64 0, .string ⟨#[]⟩, .slice none 0 0, .int .i64 0, .int .i64 0, .int .i64 0]) 11 112 Tryd.underlying24 hq0 hz0 hz1 hz2 rfl (by decide) _ i _ rfl (((HST.out.own.alloc _).alloc _).alloc _) ⟨wr.heap.size + 1 + 1, 0, none⟩ 1 1 (mkR ⟨1, 1 + (i : Int) / 3, 1, ⟨0, 0, 0⟩, ⟨#[97]⟩, [], 0, 0, 0⟩).cs rfl rfl (cell_op_new3 wr ⟨1, 1 + (i : Int) / 3, 1, ⟨0, 0, 0⟩, ⟨#[97]⟩, [], 0, 0, 0⟩ _ _ _) (cs_oneO _) HM1.out HM2.out (by have := HST.out.below.size; simp; omega) ?_; intro v8 w8 hown8 hgrow8 hnil8; have HN := Lib.hid (HST.out.next hown8 HROW.out hgrow8); clear hown8 hgrow8 hnil8)
          | fail)
        go_roundw
        case rel => exact ⟨i + 1, by go_num, by omega, HN.out⟩
        case measure => simp [RowKit.intOf] <;> omega
    · have h0 : i = n := by omega
      have HF := Lib.hid (show RowPost (mrow 5 (n3 + n2) n) w (.returned (.slice av i cv)) wr from by
        refine ⟨_, rfl, ?_, HB0.out.trans (hst.below.mono HB0.out.size)⟩
        rw [mrow_len, ← h0]
        exact owns_base hst.own HB0.out.size)
      clear hst h0
      go_wp2_with fail
      go_ret
      exact HF.out
end Go.Proofs.YtbalcamjccfkdaaDoor
