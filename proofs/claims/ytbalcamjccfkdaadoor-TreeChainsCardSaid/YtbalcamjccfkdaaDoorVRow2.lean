/- lectionarylaw5.row: the walk -/
import Derived.Test.YtbalcamjccfkdaaDoorVRow
import Derived.Test.YtbalcamjccfkdaaDoorVArgs
import Derived.StillTailTactics
import Derived.Deep.CutBlock
import Derived.Deep.DeepCutAuto
namespace Go.Proofs.YtbalcamjccfkdaaDoor
open Go.RowKit Go.Lib

def RowPost (L : List OpD) (w : World) (x : Ending) (w' : World) : Prop := ∃ v, x = .returned v ∧ w'.ownsRow w.heap.size 33 11 v L.length (ocs (L.map mkR)) ∧ Below w.heap.size w w'
/-- an op more -/
structure RSt (W0 wr : World) (kind c i : Nat) (v : Value) : Prop where
  own : wr.ownsRow W0.heap.size 33 11 v i (ocs ((mrow kind c i).map mkR))
  below : Below W0.heap.size W0 wr
theorem RSt.ops {W0 wr : World} {kind c i : Nat} {v : Value} (h : RSt W0 wr kind c i v) (hi : i ≤ 100) : ∃ a cp, v = .slice a i cp ∧ OpsAt wr a ((mrow kind c i).map mkR) ∧ i ≤ cp := by
  have h9 := ops_own (L := (mrow kind c i).map mkR) (by rw [List.length_map, mrow_len]; exact h.own) (mrow_at _ _ _ wr) (by rw [List.length_map, mrow_len]; unfold BIG; omega)
  rw [List.length_map, mrow_len] at h9
  exact h9
theorem RSt.cells {W0 wr : World} {kind c i : Nat} {a : Option Addr} {cp : Nat} (h : RSt W0 wr kind c i (.slice a i cp)) (hi : i ≤ 100) {k : Nat} (hk : k < i) : ∃ b off, a = some ⟨b, off, none⟩ ∧ b < wr.heap.size ∧ wr.cell? ⟨b, off + k * 11, none⟩ = some (.int .i64 (1 + (k : Int) % 3)) ∧ wr.cell? ⟨b, off + k * 11 + 1, none⟩ = some (.int .i64 (1 + (k : Int) / 3)) ∧ wr.cell? ⟨b, off + k * 11 + 6, none⟩ = some (.string (txO k)) := by
  obtain ⟨a', c', hv, ho, _⟩ := h.ops hi
  simp only [Value.slice.injEq] at hv
  obtain ⟨rfl, _, _⟩ := hv
  have hk2 : k < ((mrow kind c i).map mkR).length := by rw [List.length_map, mrow_len]; exact hk
  have he : ((mrow kind c i).map mkR)[k] = mkR (rowO kind c k) := by simp [mrow]
  obtain ⟨b, off, h1, h2, c0, c1, _, _, _, _, c6, _⟩ := ho.cells k hk2
  rw [he] at c0 c1 c6
  exact ⟨b, off, h1, h2, c0, c1, c6⟩
theorem row_snoc (kind c i : Nat) {o : OpD} (h : rowO kind c i = o) : ocs ((mrow kind c (i + 1)).map mkR) = ocs ((mrow kind c i).map mkR) ++ (mkR o).cs := by
  rw [mrow_succ, List.map_append, ocs_append, h]
  show _ ++ ocs [mkR o] = _
  rw [ocs_one]
theorem row_is0 {kind c i : Nat} (hr : i % 3 = 0) {a : El} (ha : aftO kind c i = a) : rowO kind c i = ⟨1, 1 + (i : Int) / 3, 1, a, ⟨#[97]⟩, [], 0, 0, 0⟩ := by
  unfold rowO opO txO
  rw [ha, if_pos hr, show (1 : Int) + (i : Int) % 3 = 1 from by omega]
theorem row_is1 {kind c i : Nat} (hr : i % 3 = 1) {a : El} (ha : aftO kind c i = a) : rowO kind c i = ⟨2, 1 + (i : Int) / 3, 1, a, ⟨#[98, 99]⟩, [], 0, 0, 0⟩ := by
  unfold rowO opO txO
  rw [ha, if_neg (by omega), if_pos hr, show (1 : Int) + (i : Int) % 3 = 2 from by omega]
theorem row_is2 {kind c i : Nat} (hr : i % 3 = 2) {a : El} (ha : aftO kind c i = a) : rowO kind c i = ⟨3, 1 + (i : Int) / 3, 1, a, ⟨#[100, 101, 102]⟩, [], 0, 0, 0⟩ := by
  unfold rowO opO txO
  rw [ha, if_neg (by omega), if_neg (by omega), show (1 : Int) + (i : Int) % 3 = 3 from by omega]
theorem cell_op_new3 (w : World) (o : OpD) (o1 o2 : Obj) (t : TypeId) : ∀ j u, ((mkR o).cs)[j]? = some u → (((w.alloc o1).alloc o2).alloc (.cells #[.int .i64 o.site, .int .i64 o.seq, .int .i64 o.kind, .int .i64 o.after.s, .int .i64 o.after.q, .int .i64 o.after.i, .string o.text, .slice none o.gone.length 0, .int .i64 o.of, .int .i64 o.num, .int .i64 o.gen] t)).cell? ((⟨w.heap.size + 1 + 1, 0, none⟩ : Addr).add j) = some u := by
  have h := cell_op_new ((w.alloc o1).alloc o2) o t
  have hz : ((w.alloc o1).alloc o2).heap.size = w.heap.size + 1 + 1 := by simp
  rw [hz] at h
  exact h
theorem RSt.next {W0 wr w8 : World} {kind c i : Nat} {v v8 : Value} {a b d : Obj} {o : OpD} (h : RSt W0 wr kind c i v) (ho : w8.ownsRow W0.heap.size 33 11 v8 (i + 1) (ocs ((mrow kind c i).map mkR) ++ (mkR o).cs)) (hr : rowO kind c i = o) (hg : (((wr.alloc a).alloc b).alloc d).grownBy w8 v.ownBlock) : RSt W0 w8 kind c (i + 1) v8 := by
  refine ⟨by rw [row_snoc kind c i hr]; exact ho, ?_⟩
  have hs := h.below.size
  exact (((h.below.alloc hs _).alloc (by simp; omega) _).alloc (by simp; omega) _).grown hg (by simp; omega) (fun q hq => own_ge h.own q hq)
theorem cell_op_new3d (w : World) (o : OpD) (o1 o2 : Obj) (t : TypeId) : ∀ j u, ((mkR o).cs)[j]? = some u → (((w.alloc o1).alloc o2).drew.alloc (.cells #[.int .i64 o.site, .int .i64 o.seq, .int .i64 o.kind, .int .i64 o.after.s, .int .i64 o.after.q, .int .i64 o.after.i, .string o.text, .slice none o.gone.length 0, .int .i64 o.of, .int .i64 o.num, .int .i64 o.gen] t)).cell? ((⟨w.heap.size + 1 + 1, 0, none⟩ : Addr).add j) = some u := by
  have h := cell_op_new ((w.alloc o1).alloc o2).drew o t
  have hz : ((w.alloc o1).alloc o2).drew.heap.size = w.heap.size + 1 + 1 := by
    show ((w.alloc o1).alloc o2).heap.size = _
    simp
  rw [hz] at h
  exact h
theorem same_drewR (w : World) : Same w w.drew := ⟨rfl, rfl, rfl, rfl⟩
theorem RSt.nextd {W0 wr w8 : World} {kind c i : Nat} {v v8 : Value} {a b d : Obj} {o : OpD} (h : RSt W0 wr kind c i v) (ho : w8.ownsRow W0.heap.size 33 11 v8 (i + 1) (ocs ((mrow kind c i).map mkR) ++ (mkR o).cs)) (hr : rowO kind c i = o) (hg : (((wr.alloc a).alloc b).drew.alloc d).grownBy w8 v.ownBlock) : RSt W0 w8 kind c (i + 1) v8 := by
  refine ⟨by rw [row_snoc kind c i hr]; exact ho, ?_⟩
  have hs := h.below.size
  have hb2 := (h.below.alloc hs a).alloc (by simp; omega) b
  have hb3 := hb2.trans ((same_drewR _).below W0.heap.size)
  exact (hb3.alloc (by show W0.heap.size ≤ ((wr.alloc a).alloc b).heap.size; simp; omega) _).grown hg (by have := hb3.size; simp at *; omega) (fun q hq => own_ge h.own q hq)
theorem old_drew {w : World} {o1 o2 : Obj} {b o : Nat} {u : Value} (h : w.cell? ⟨b, o, none⟩ = some u) (hb : b < w.heap.size) : ((w.alloc o1).alloc o2).drew.cell? ⟨b, o, none⟩ = some u := by
  have h2 : Below w.heap.size w ((w.alloc o1).alloc o2) := ((Below.refl _ _).alloc (Nat.le_refl _) _).alloc (by simp) _
  exact ((same_drewR _).cell _).trans ((h2.cell (p := ⟨b, o, none⟩) hb).trans h)
theorem aft_k0 (c i : Nat) : aftO 0 c i = ⟨0, 0, 0⟩ := by
  unfold aftO
  by_cases h : i = 0
  · rw [if_pos h]
  · rw [if_neg h, if_pos rfl]
theorem aft_00 (kind c i : Nat) (h : ¬ (0 : Int) < (i : Int)) : aftO kind c i = ⟨0, 0, 0⟩ := by
  unfold aftO
  rw [if_pos (by omega)]
theorem aft_k1 (c i : Nat) {j : Nat} (h : i = j + 1) : aftO 1 c i = ⟨1 + (j : Int) % 3, 1 + (j : Int) / 3, 0⟩ := by
  unfold aftO
  rw [if_neg (by omega), if_neg (by omega), if_pos rfl, show i - 1 = j from by omega]
  rfl
theorem aft_k2 {kind : Nat} (hk : 2 ≤ kind) (c i : Nat) (h : (0 : Int) < (i : Int)) {k t : Nat} (hkk : (i * kind + c) % i = k) (ht : k % 3 = t) : aftO kind c i = ⟨1 + (k : Int) % 3, 1 + (k : Int) / 3, (t : Int)⟩ := by
  unfold aftO
  rw [if_neg (by omega), if_neg (by omega), if_neg (by omega), hkk, ht]
  rfl
theorem txO_len {k t : Nat} (ht : k % 3 = t) : (txO k).size = t + 1 := by
  unfold txO
  by_cases h0 : k % 3 = 0
  · rw [if_pos h0, ← ht, h0]; rfl
  · rw [if_neg h0]
    by_cases h1 : k % 3 = 1
    · rw [if_pos h1, ← ht, h1]; rfl
    · rw [if_neg h1, ← ht, show k % 3 = 2 from by omega]; rfl
set_option maxRecDepth 100000 in
set_option maxHeartbeats 16000000 in
theorem row_any0 (p : AskD) (n : Nat) (w : World) (hn : n ≤ 24) (he : p.e.length ≤ BIG) (hl : p.n.length ≤ BIG) : Calls Tryd.prog 13 #[p.v, .int .i64 n, .int .i64 0] w (RowPost (mrow 0 (p.n.length + p.e.length) n) w) := by
  obtain ⟨i0, hq0, hz0, hz1, hz2⟩ := info_parts Tryd.infoOp
  have HX := Lib.hid (BoxA.new w p)
  have hb0 : Below w.heap.size w (w.alloc p.obj) := (Below.refl _ _).alloc (Nat.le_refl _) _
  have HB0 := Lib.hid hb0
  have hbi := big_is
  clear hb0
  unfold AskD.v
  obtain ⟨lr, le, lo, ln, ar, ae, ao, an, cr, ce, co, cn⟩ := p
  unfold AskD.obj at HX HB0
  simp only at HX HB0 he hl ⊢
  have HC1 := Lib.hid HX.out.c1
  have HC3 := Lib.hid HX.out.c3
  simp only at HC1 HC3
  generalize lr.length = n0 at *
  generalize le.length = n2 at *
  generalize lo.length = n1 at *
  generalize ln.length = n3 at *
  have h2a : (n2 : Int) ≤ 140737488351232 := by omega
  have h3a : (n3 : Int) ≤ 140737488351232 := by omega
  clear hbi he hl
  go_enter Tryd.func13, Tryd.ntmps13
  go_wp2_with fail
  generalize w.alloc (.cells #[.slice ar n0 cr, .slice ae n2 ce, .slice ao n1 co, .slice an n3 cn] 27) = W0 at *
  go_loopw [7, 8] (fun s7 s8 wr => ∃ i : Nat, s8 = .int .i64 i ∧ i ≤ n ∧ RSt W0 wr 0 (n3 + n2) i s7) (fun _ s8 _ => n - (RowKit.intOf s8).toNat)
  case atStart => exact ⟨0, rfl, Nat.zero_le _, World.ownsRow_nil _ _ _ _, Below.refl _ _⟩
  case round =>
    obtain ⟨i, rfl, hi, hst⟩ := hrel
    have HST := Lib.hid hst
    obtain ⟨av, cv, hv, -⟩ := hst.ops (by omega)
    subst hv
    by_cases hlt : i < n
    · have p1 := (hst.below.cell (p := ⟨w.heap.size, 1, none⟩) HX.out.lt).trans HC1.out
      have p3 := (hst.below.cell (p := ⟨w.heap.size, 3, none⟩) HX.out.lt).trans HC3.out
      have hwl : w.heap.size < wr.heap.size := Nat.lt_of_lt_of_le HX.out.lt hst.below.size
      have hi24 : (i : Int) < 24 := by omega
      have HM1 := Lib.hid (show i + 1 ≤ maxLen from by simp only [maxLen]; omega)
      have HM2 := Lib.hid (show (i + 1) * 112 ≤ 140737488355328 from by omega)
      clear hst
      have hmod : (i : Int) % 3 = 0 ∨ (i : Int) % 3 = 1 ∨ (i : Int) % 3 = 2 := by omega
      by_cases h0 : (0 : Int) < (i : Int)
      · rcases hmod with hr | hr | hr
        · have HROW := Lib.hid (row_is0 (kind := 0) (c := n3 + n2) (show i % 3 = 0 from by omega) (aft_k0 _ _))
          go_wp2_with (first
            | (at_builtin; refine wpList_append_own _ rfl _ _ 24 rfl W0.heap.size 33 i0 (.agg #[.int .i64 0, .int .i64 0, .int .i64 0, .int .i64 0, .int .i64 0, .int .i64 0, .string ⟨#[]⟩, .slice none 0 0, .int .i64 0, .int .i64 0, .int .i64 0]) 11 112 Tryd.underlying24 hq0 hz0 hz1 hz2 rfl (by decide) _ i _ rfl (((HST.out.own.alloc _).alloc _).alloc _) ⟨wr.heap.size + 1 + 1, 0, none⟩ 1 1 (mkR ⟨1, 1 + (i : Int) / 3, 1, ⟨0, 0, 0⟩, ⟨#[97]⟩, [], 0, 0, 0⟩).cs rfl rfl (cell_op_new3 wr ⟨1, 1 + (i : Int) / 3, 1, ⟨0, 0, 0⟩, ⟨#[97]⟩, [], 0, 0, 0⟩ _ _ _) (cs_oneO _) HM1.out HM2.out (by have := HST.out.below.size; simp; omega) ?_; intro v8 w8 hown8 hgrow8 hnil8; have HN := Lib.hid (HST.out.next hown8 HROW.out hgrow8); clear hown8 hgrow8 hnil8)
            | fail)
          go_roundw
          case rel => exact ⟨i + 1, by go_num, by omega, HN.out⟩
          case measure => simp [RowKit.intOf] <;> omega
        · have HROW := Lib.hid (row_is1 (kind := 0) (c := n3 + n2) (show i % 3 = 1 from by omega) (aft_k0 _ _))
          go_wp2_with (first
            | (at_builtin; refine wpList_append_own _ rfl _ _ 24 rfl W0.heap.size 33 i0 (.agg #[.int .i64 0, .int .i64 0, .int .i64 0, .int .i64 0, .int .i64 0, .int .i64 0, .string ⟨#[]⟩, .slice none 0 0, .int .i64 0, .int .i64 0, .int .i64 0]) 11 112 Tryd.underlying24 hq0 hz0 hz1 hz2 rfl (by decide) _ i _ rfl (((HST.out.own.alloc _).alloc _).alloc _) ⟨wr.heap.size + 1 + 1, 0, none⟩ 1 1 (mkR ⟨2, 1 + (i : Int) / 3, 1, ⟨0, 0, 0⟩, ⟨#[98, 99]⟩, [], 0, 0, 0⟩).cs rfl rfl (cell_op_new3 wr ⟨2, 1 + (i : Int) / 3, 1, ⟨0, 0, 0⟩, ⟨#[98, 99]⟩, [], 0, 0, 0⟩ _ _ _) (cs_oneO _) HM1.out HM2.out (by have := HST.out.below.size; simp; omega) ?_; intro v8 w8 hown8 hgrow8 hnil8; have HN := Lib.hid (HST.out.next hown8 HROW.out hgrow8); clear hown8 hgrow8 hnil8)
            | fail)
          go_roundw
          case rel => exact ⟨i + 1, by go_num, by omega, HN.out⟩
          case measure => simp [RowKit.intOf] <;> omega
        · have HROW := Lib.hid (row_is2 (kind := 0) (c := n3 + n2) (show i % 3 = 2 from by omega) (aft_k0 _ _))
          go_wp2_with (first
            | (at_builtin; refine wpList_append_own _ rfl _ _ 24 rfl W0.heap.size 33 i0 (.agg #[.int .i64 0, .int .i64 0, .int .i64 0, .int .i64 0, .int .i64 0, .int .i64 0, .string ⟨#[]⟩, .slice none 0 0, .int .i64 0, .int .i64 0, .int .i64 0]) 11 112 Tryd.underlying24 hq0 hz0 hz1 hz2 rfl (by decide) _ i _ rfl (((HST.out.own.alloc _).alloc _).alloc _) ⟨wr.heap.size + 1 + 1, 0, none⟩ 1 1 (mkR ⟨3, 1 + (i : Int) / 3, 1, ⟨0, 0, 0⟩, ⟨#[100, 101, 102]⟩, [], 0, 0, 0⟩).cs rfl rfl (cell_op_new3 wr ⟨3, 1 + (i : Int) / 3, 1, ⟨0, 0, 0⟩, ⟨#[100, 101, 102]⟩, [], 0, 0, 0⟩ _ _ _) (cs_oneO _) HM1.out HM2.out (by have := HST.out.below.size; simp; omega) ?_; intro v8 w8 hown8 hgrow8 hnil8; have HN := Lib.hid (HST.out.next hown8 HROW.out hgrow8); clear hown8 hgrow8 hnil8)
            | fail)
          go_roundw
          case rel => exact ⟨i + 1, by go_num, by omega, HN.out⟩
          case measure => simp [RowKit.intOf] <;> omega
      · have hr : (i : Int) % 3 = 0 := by omega
        have HROW := Lib.hid (row_is0 (kind := 0) (c := n3 + n2) (show i % 3 = 0 from by omega) (aft_00 _ _ _ h0))
        go_wp2_with (first
          | (at_builtin; refine wpList_append_own _ rfl _ _ 24 rfl W0.heap.size 33 i0 (.agg #[.int .i64 0, .int .i64 0, .int .i64 0, .int .i64 0, .int .i64 0, .int .i64 0, .string ⟨#[]⟩, .slice none 0 0, .int .i64 0, .int .i64 0, .int .i64 0]) 11 112 Tryd.underlying24 hq0 hz0 hz1 hz2 rfl (by decide) _ i _ rfl (((HST.out.own.alloc _).alloc _).alloc _) ⟨wr.heap.size + 1 + 1, 0, none⟩ 1 1 (mkR ⟨1, 1 + (i : Int) / 3, 1, ⟨0, 0, 0⟩, ⟨#[97]⟩, [], 0, 0, 0⟩).cs rfl rfl (cell_op_new3 wr ⟨1, 1 + (i : Int) / 3, 1, ⟨0, 0, 0⟩, ⟨#[97]⟩, [], 0, 0, 0⟩ _ _ _) (cs_oneO _) HM1.out HM2.out (by have := HST.out.below.size; simp; omega) ?_; intro v8 w8 hown8 hgrow8 hnil8; have HN := Lib.hid (HST.out.next hown8 HROW.out hgrow8); clear hown8 hgrow8 hnil8)
          | fail)
        go_roundw
        case rel => exact ⟨i + 1, by go_num, by omega, HN.out⟩
        case measure => simp [RowKit.intOf] <;> omega
    · have h0 : i = n := by omega
      have HF := Lib.hid (show RowPost (mrow 0 (n3 + n2) n) w (.returned (.slice av i cv)) wr from by
        refine ⟨_, rfl, ?_, HB0.out.trans (hst.below.mono HB0.out.size)⟩
        rw [mrow_len, ← h0]
        exact owns_base hst.own HB0.out.size)
      clear hst h0
      go_wp2_with fail
      go_ret
      exact HF.out
set_option maxRecDepth 100000 in
set_option maxHeartbeats 16000000 in
theorem row_any1 (p : AskD) (n : Nat) (w : World) (hn : n ≤ 24) (he : p.e.length ≤ BIG) (hl : p.n.length ≤ BIG) : Calls Tryd.prog 13 #[p.v, .int .i64 n, .int .i64 1] w (RowPost (mrow 1 (p.n.length + p.e.length) n) w) := by
  obtain ⟨i0, hq0, hz0, hz1, hz2⟩ := info_parts Tryd.infoOp
  have HX := Lib.hid (BoxA.new w p)
  have hb0 : Below w.heap.size w (w.alloc p.obj) := (Below.refl _ _).alloc (Nat.le_refl _) _
  have HB0 := Lib.hid hb0
  have hbi := big_is
  clear hb0
  unfold AskD.v
  obtain ⟨lr, le, lo, ln, ar, ae, ao, an, cr, ce, co, cn⟩ := p
  unfold AskD.obj at HX HB0
  simp only at HX HB0 he hl ⊢
  have HC1 := Lib.hid HX.out.c1
  have HC3 := Lib.hid HX.out.c3
  simp only at HC1 HC3
  generalize lr.length = n0 at *
  generalize le.length = n2 at *
  generalize lo.length = n1 at *
  generalize ln.length = n3 at *
  have h2a : (n2 : Int) ≤ 140737488351232 := by omega
  have h3a : (n3 : Int) ≤ 140737488351232 := by omega
  clear hbi he hl
  go_enter Tryd.func13, Tryd.ntmps13
  go_wp2_with fail
  generalize w.alloc (.cells #[.slice ar n0 cr, .slice ae n2 ce, .slice ao n1 co, .slice an n3 cn] 27) = W0 at *
  go_loopw [7, 8] (fun s7 s8 wr => ∃ i : Nat, s8 = .int .i64 i ∧ i ≤ n ∧ RSt W0 wr 1 (n3 + n2) i s7) (fun _ s8 _ => n - (RowKit.intOf s8).toNat)
  case atStart => exact ⟨0, rfl, Nat.zero_le _, World.ownsRow_nil _ _ _ _, Below.refl _ _⟩
  case round =>
    obtain ⟨i, rfl, hi, hst⟩ := hrel
    have HST := Lib.hid hst
    obtain ⟨av, cv, hv, -⟩ := hst.ops (by omega)
    subst hv
    by_cases hlt : i < n
    · have p1 := (hst.below.cell (p := ⟨w.heap.size, 1, none⟩) HX.out.lt).trans HC1.out
      have p3 := (hst.below.cell (p := ⟨w.heap.size, 3, none⟩) HX.out.lt).trans HC3.out
      have hwl : w.heap.size < wr.heap.size := Nat.lt_of_lt_of_le HX.out.lt hst.below.size
      have hi24 : (i : Int) < 24 := by omega
      have HM1 := Lib.hid (show i + 1 ≤ maxLen from by simp only [maxLen]; omega)
      have HM2 := Lib.hid (show (i + 1) * 112 ≤ 140737488355328 from by omega)
      clear hst
      have hmod : (i : Int) % 3 = 0 ∨ (i : Int) % 3 = 1 ∨ (i : Int) % 3 = 2 := by omega
      by_cases h0 : (0 : Int) < (i : Int)
      · obtain ⟨k, hik⟩ : ∃ k, i = k + 1 := ⟨i - 1, by omega⟩
        have hki : k < i := by omega
        have hki2 : (k : Int) < (i : Int) := by omega
        have hkk : (i : Int) - 1 = (k : Int) := by omega
        have hwk : IntKind.i64.wrap (k : Int) = (k : Int) := IntWalk.i64_in _ (by omega)
        have HAF := Lib.hid (aft_k1 (n3 + n2) i hik)
        clear hik
        obtain ⟨b, off, rfl, hbb, c0, c1, c6⟩ := HST.out.cells (by omega) hki
        generalize txO k = tk at *
        rcases hmod with hr | hr | hr
        · have HROW := Lib.hid (row_is0 (kind := 1) (c := n3 + n2) (show i % 3 = 0 from by omega) HAF.out)
          go_wp2_with fail
          have d0 := old_drew (o1 := (.cells #[.string ⟨#[97]⟩, .string ⟨#[98, 99]⟩, .string ⟨#[100, 101, 102]⟩] 9)) (o2 := (.cells #[.int .i64 1, .int .i64 (1 + (i : Int) / 3), .int .i64 1, .int .i64 0, .int .i64 0, .int .i64 0, .string ⟨#[97]⟩, .slice none 0 0, .int .i64 0, .int .i64 0, .int .i64 0] 33)) c0 hbb
          have d1 := old_drew (o1 := (.cells #[.string ⟨#[97]⟩, .string ⟨#[98, 99]⟩, .string ⟨#[100, 101, 102]⟩] 9)) (o2 := (.cells #[.int .i64 1, .int .i64 (1 + (i : Int) / 3), .int .i64 1, .int .i64 0, .int .i64 0, .int .i64 0, .string ⟨#[97]⟩, .slice none 0 0, .int .i64 0, .int .i64 0, .int .i64 0] 33)) c1 hbb
          have d6 := old_drew (o1 := (.cells #[.string ⟨#[97]⟩, .string ⟨#[98, 99]⟩, .string ⟨#[100, 101, 102]⟩] 9)) (o2 := (.cells #[.int .i64 1, .int .i64 (1 + (i : Int) / 3), .int .i64 1, .int .i64 0, .int .i64 0, .int .i64 0, .string ⟨#[97]⟩, .slice none 0 0, .int .i64 0, .int .i64 0, .int .i64 0] 33)) c6 hbb
          have hbw : b < ((wr.alloc (.cells #[.string ⟨#[97]⟩, .string ⟨#[98, 99]⟩, .string ⟨#[100, 101, 102]⟩] 9)).alloc (.cells #[.int .i64 1, .int .i64 (1 + (i : Int) / 3), .int .i64 1, .int .i64 0, .int .i64 0, .int .i64 0, .string ⟨#[97]⟩, .slice none 0 0, .int .i64 0, .int .i64 0, .int .i64 0] 33)).drew.heap.size := by show b < ((wr.alloc (.cells #[.string ⟨#[97]⟩, .string ⟨#[98, 99]⟩, .string ⟨#[100, 101, 102]⟩] 9)).alloc (.cells #[.int .i64 1, .int .i64 (1 + (i : Int) / 3), .int .i64 1, .int .i64 0, .int .i64 0, .int .i64 0, .string ⟨#[97]⟩, .slice none 0 0, .int .i64 0, .int .i64 0, .int .i64 0] 33)).heap.size; simp; omega
          refine wp_region_still_tail 14 (by kernel_rfl) (by kernel_rfl) ?_
          change wpStill _ _ ((wr.alloc (.cells #[.string ⟨#[97]⟩, .string ⟨#[98, 99]⟩, .string ⟨#[100, 101, 102]⟩] 9)).alloc (.cells #[.int .i64 1, .int .i64 (1 + (i : Int) / 3), .int .i64 1, .int .i64 0, .int .i64 0, .int .i64 0, .string ⟨#[97]⟩, .slice none 0 0, .int .i64 0, .int .i64 0, .int .i64 0] 33)).drew (fun a' => wpList _ _ _ _ a' ((wr.alloc (.cells #[.string ⟨#[97]⟩, .string ⟨#[98, 99]⟩, .string ⟨#[100, 101, 102]⟩] 9)).alloc (.cells #[.int .i64 1, .int .i64 (1 + (i : Int) / 3), .int .i64 1, .int .i64 0, .int .i64 0, .int .i64 0, .string ⟨#[97]⟩, .slice none 0 0, .int .i64 0, .int .i64 0, .int .i64 0] 33)).drew) _ _
          generalize hwe : ((wr.alloc (.cells #[.string ⟨#[97]⟩, .string ⟨#[98, 99]⟩, .string ⟨#[100, 101, 102]⟩] 9)).alloc (.cells #[.int .i64 1, .int .i64 (1 + (i : Int) / 3), .int .i64 1, .int .i64 0, .int .i64 0, .int .i64 0, .string ⟨#[97]⟩, .slice none 0 0, .int .i64 0, .int .i64 0, .int .i64 0] 33)).drew = we at *
          have HWE := Lib.hid hwe
          clear hwe
          simp only [List.take_succ_cons, List.take_zero, List.drop_succ_cons, List.drop_zero]
          repeat still_step
          refine wpStill_nil ?_
          rw [← HWE.out]
          clear d0 d1 d6 hbw HWE
          go_wp2_with (first
            | (at_builtin; refine wpList_append_own _ rfl _ _ 24 rfl W0.heap.size 33 i0 (.agg #[.int .i64 0, .int .i64 0, .int .i64 0, .int .i64 0, .int .i64 0, .int .i64 0, .string ⟨#[]⟩, .slice none 0 0, .int .i64 0, .int .i64 0, .int .i64 0]) 11 112 Tryd.underlying24 hq0 hz0 hz1 hz2 rfl (by decide) _ i _ rfl (((same_drewR _).owns ((HST.out.own.alloc _).alloc _)).alloc _) ⟨wr.heap.size + 1 + 1, 0, none⟩ 1 1 (mkR ⟨1, 1 + (i : Int) / 3, 1, ⟨1 + (k : Int) % 3, 1 + (k : Int) / 3, 0⟩, ⟨#[97]⟩, [], 0, 0, 0⟩).cs rfl rfl (cell_op_new3d wr ⟨1, 1 + (i : Int) / 3, 1, ⟨1 + (k : Int) % 3, 1 + (k : Int) / 3, 0⟩, ⟨#[97]⟩, [], 0, 0, 0⟩ _ _ _) (cs_oneO _) HM1.out HM2.out (by have := HST.out.below.size; show W0.heap.size ≤ _; simp; omega) ?_; intro v8 w8 hown8 hgrow8 hnil8; have HN := Lib.hid (HST.out.nextd hown8 HROW.out hgrow8); clear hown8 hgrow8 hnil8)
            | fail)
          go_roundw
          case rel => exact ⟨i + 1, by go_num, by omega, HN.out⟩
          case measure => simp [RowKit.intOf] <;> omega
        · have HROW := Lib.hid (row_is1 (kind := 1) (c := n3 + n2) (show i % 3 = 1 from by omega) HAF.out)
          go_wp2_with fail
          have d0 := old_drew (o1 := (.cells #[.string ⟨#[97]⟩, .string ⟨#[98, 99]⟩, .string ⟨#[100, 101, 102]⟩] 9)) (o2 := (.cells #[.int .i64 2, .int .i64 (1 + (i : Int) / 3), .int .i64 1, .int .i64 0, .int .i64 0, .int .i64 0, .string ⟨#[98, 99]⟩, .slice none 0 0, .int .i64 0, .int .i64 0, .int .i64 0] 33)) c0 hbb
          have d1 := old_drew (o1 := (.cells #[.string ⟨#[97]⟩, .string ⟨#[98, 99]⟩, .string ⟨#[100, 101, 102]⟩] 9)) (o2 := (.cells #[.int .i64 2, .int .i64 (1 + (i : Int) / 3), .int .i64 1, .int .i64 0, .int .i64 0, .int .i64 0, .string ⟨#[98, 99]⟩, .slice none 0 0, .int .i64 0, .int .i64 0, .int .i64 0] 33)) c1 hbb
          have d6 := old_drew (o1 := (.cells #[.string ⟨#[97]⟩, .string ⟨#[98, 99]⟩, .string ⟨#[100, 101, 102]⟩] 9)) (o2 := (.cells #[.int .i64 2, .int .i64 (1 + (i : Int) / 3), .int .i64 1, .int .i64 0, .int .i64 0, .int .i64 0, .string ⟨#[98, 99]⟩, .slice none 0 0, .int .i64 0, .int .i64 0, .int .i64 0] 33)) c6 hbb
          have hbw : b < ((wr.alloc (.cells #[.string ⟨#[97]⟩, .string ⟨#[98, 99]⟩, .string ⟨#[100, 101, 102]⟩] 9)).alloc (.cells #[.int .i64 2, .int .i64 (1 + (i : Int) / 3), .int .i64 1, .int .i64 0, .int .i64 0, .int .i64 0, .string ⟨#[98, 99]⟩, .slice none 0 0, .int .i64 0, .int .i64 0, .int .i64 0] 33)).drew.heap.size := by show b < ((wr.alloc (.cells #[.string ⟨#[97]⟩, .string ⟨#[98, 99]⟩, .string ⟨#[100, 101, 102]⟩] 9)).alloc (.cells #[.int .i64 2, .int .i64 (1 + (i : Int) / 3), .int .i64 1, .int .i64 0, .int .i64 0, .int .i64 0, .string ⟨#[98, 99]⟩, .slice none 0 0, .int .i64 0, .int .i64 0, .int .i64 0] 33)).heap.size; simp; omega
          refine wp_region_still_tail 14 (by kernel_rfl) (by kernel_rfl) ?_
          change wpStill _ _ ((wr.alloc (.cells #[.string ⟨#[97]⟩, .string ⟨#[98, 99]⟩, .string ⟨#[100, 101, 102]⟩] 9)).alloc (.cells #[.int .i64 2, .int .i64 (1 + (i : Int) / 3), .int .i64 1, .int .i64 0, .int .i64 0, .int .i64 0, .string ⟨#[98, 99]⟩, .slice none 0 0, .int .i64 0, .int .i64 0, .int .i64 0] 33)).drew (fun a' => wpList _ _ _ _ a' ((wr.alloc (.cells #[.string ⟨#[97]⟩, .string ⟨#[98, 99]⟩, .string ⟨#[100, 101, 102]⟩] 9)).alloc (.cells #[.int .i64 2, .int .i64 (1 + (i : Int) / 3), .int .i64 1, .int .i64 0, .int .i64 0, .int .i64 0, .string ⟨#[98, 99]⟩, .slice none 0 0, .int .i64 0, .int .i64 0, .int .i64 0] 33)).drew) _ _
          generalize hwe : ((wr.alloc (.cells #[.string ⟨#[97]⟩, .string ⟨#[98, 99]⟩, .string ⟨#[100, 101, 102]⟩] 9)).alloc (.cells #[.int .i64 2, .int .i64 (1 + (i : Int) / 3), .int .i64 1, .int .i64 0, .int .i64 0, .int .i64 0, .string ⟨#[98, 99]⟩, .slice none 0 0, .int .i64 0, .int .i64 0, .int .i64 0] 33)).drew = we at *
          have HWE := Lib.hid hwe
          clear hwe
          simp only [List.take_succ_cons, List.take_zero, List.drop_succ_cons, List.drop_zero]
          repeat still_step
          refine wpStill_nil ?_
          rw [← HWE.out]
          clear d0 d1 d6 hbw HWE
          go_wp2_with (first
            | (at_builtin; refine wpList_append_own _ rfl _ _ 24 rfl W0.heap.size 33 i0 (.agg #[.int .i64 0, .int .i64 0, .int .i64 0, .int .i64 0, .int .i64 0, .int .i64 0, .string ⟨#[]⟩, .slice none 0 0, .int .i64 0, .int .i64 0, .int .i64 0]) 11 112 Tryd.underlying24 hq0 hz0 hz1 hz2 rfl (by decide) _ i _ rfl (((same_drewR _).owns ((HST.out.own.alloc _).alloc _)).alloc _) ⟨wr.heap.size + 1 + 1, 0, none⟩ 1 1 (mkR ⟨2, 1 + (i : Int) / 3, 1, ⟨1 + (k : Int) % 3, 1 + (k : Int) / 3, 0⟩, ⟨#[98, 99]⟩, [], 0, 0, 0⟩).cs rfl rfl (cell_op_new3d wr ⟨2, 1 + (i : Int) / 3, 1, ⟨1 + (k : Int) % 3, 1 + (k : Int) / 3, 0⟩, ⟨#[98, 99]⟩, [], 0, 0, 0⟩ _ _ _) (cs_oneO _) HM1.out HM2.out (by have := HST.out.below.size; show W0.heap.size ≤ _; simp; omega) ?_; intro v8 w8 hown8 hgrow8 hnil8; have HN := Lib.hid (HST.out.nextd hown8 HROW.out hgrow8); clear hown8 hgrow8 hnil8)
            | fail)
          go_roundw
          case rel => exact ⟨i + 1, by go_num, by omega, HN.out⟩
          case measure => simp [RowKit.intOf] <;> omega
        · have HROW := Lib.hid (row_is2 (kind := 1) (c := n3 + n2) (show i % 3 = 2 from by omega) HAF.out)
          go_wp2_with fail
          have d0 := old_drew (o1 := (.cells #[.string ⟨#[97]⟩, .string ⟨#[98, 99]⟩, .string ⟨#[100, 101, 102]⟩] 9)) (o2 := (.cells #[.int .i64 3, .int .i64 (1 + (i : Int) / 3), .int .i64 1, .int .i64 0, .int .i64 0, .int .i64 0, .string ⟨#[100, 101, 102]⟩, .slice none 0 0, .int .i64 0, .int .i64 0, .int .i64 0] 33)) c0 hbb
          have d1 := old_drew (o1 := (.cells #[.string ⟨#[97]⟩, .string ⟨#[98, 99]⟩, .string ⟨#[100, 101, 102]⟩] 9)) (o2 := (.cells #[.int .i64 3, .int .i64 (1 + (i : Int) / 3), .int .i64 1, .int .i64 0, .int .i64 0, .int .i64 0, .string ⟨#[100, 101, 102]⟩, .slice none 0 0, .int .i64 0, .int .i64 0, .int .i64 0] 33)) c1 hbb
          have d6 := old_drew (o1 := (.cells #[.string ⟨#[97]⟩, .string ⟨#[98, 99]⟩, .string ⟨#[100, 101, 102]⟩] 9)) (o2 := (.cells #[.int .i64 3, .int .i64 (1 + (i : Int) / 3), .int .i64 1, .int .i64 0, .int .i64 0, .int .i64 0, .string ⟨#[100, 101, 102]⟩, .slice none 0 0, .int .i64 0, .int .i64 0, .int .i64 0] 33)) c6 hbb
          have hbw : b < ((wr.alloc (.cells #[.string ⟨#[97]⟩, .string ⟨#[98, 99]⟩, .string ⟨#[100, 101, 102]⟩] 9)).alloc (.cells #[.int .i64 3, .int .i64 (1 + (i : Int) / 3), .int .i64 1, .int .i64 0, .int .i64 0, .int .i64 0, .string ⟨#[100, 101, 102]⟩, .slice none 0 0, .int .i64 0, .int .i64 0, .int .i64 0] 33)).drew.heap.size := by show b < ((wr.alloc (.cells #[.string ⟨#[97]⟩, .string ⟨#[98, 99]⟩, .string ⟨#[100, 101, 102]⟩] 9)).alloc (.cells #[.int .i64 3, .int .i64 (1 + (i : Int) / 3), .int .i64 1, .int .i64 0, .int .i64 0, .int .i64 0, .string ⟨#[100, 101, 102]⟩, .slice none 0 0, .int .i64 0, .int .i64 0, .int .i64 0] 33)).heap.size; simp; omega
          refine wp_region_still_tail 14 (by kernel_rfl) (by kernel_rfl) ?_
          change wpStill _ _ ((wr.alloc (.cells #[.string ⟨#[97]⟩, .string ⟨#[98, 99]⟩, .string ⟨#[100, 101, 102]⟩] 9)).alloc (.cells #[.int .i64 3, .int .i64 (1 + (i : Int) / 3), .int .i64 1, .int .i64 0, .int .i64 0, .int .i64 0, .string ⟨#[100, 101, 102]⟩, .slice none 0 0, .int .i64 0, .int .i64 0, .int .i64 0] 33)).drew (fun a' => wpList _ _ _ _ a' ((wr.alloc (.cells #[.string ⟨#[97]⟩, .string ⟨#[98, 99]⟩, .string ⟨#[100, 101, 102]⟩] 9)).alloc (.cells #[.int .i64 3, .int .i64 (1 + (i : Int) / 3), .int .i64 1, .int .i64 0, .int .i64 0, .int .i64 0, .string ⟨#[100, 101, 102]⟩, .slice none 0 0, .int .i64 0, .int .i64 0, .int .i64 0] 33)).drew) _ _
          generalize hwe : ((wr.alloc (.cells #[.string ⟨#[97]⟩, .string ⟨#[98, 99]⟩, .string ⟨#[100, 101, 102]⟩] 9)).alloc (.cells #[.int .i64 3, .int .i64 (1 + (i : Int) / 3), .int .i64 1, .int .i64 0, .int .i64 0, .int .i64 0, .string ⟨#[100, 101, 102]⟩, .slice none 0 0, .int .i64 0, .int .i64 0, .int .i64 0] 33)).drew = we at *
          have HWE := Lib.hid hwe
          clear hwe
          simp only [List.take_succ_cons, List.take_zero, List.drop_succ_cons, List.drop_zero]
          repeat still_step
          refine wpStill_nil ?_
          rw [← HWE.out]
          clear d0 d1 d6 hbw HWE
          go_wp2_with (first
            | (at_builtin; refine wpList_append_own _ rfl _ _ 24 rfl W0.heap.size 33 i0 (.agg #[.int .i64 0, .int .i64 0, .int .i64 0, .int .i64 0, .int .i64 0, .int .i64 0, .string ⟨#[]⟩, .slice none 0 0, .int .i64 0, .int .i64 0, .int .i64 0]) 11 112 Tryd.underlying24 hq0 hz0 hz1 hz2 rfl (by decide) _ i _ rfl (((same_drewR _).owns ((HST.out.own.alloc _).alloc _)).alloc _) ⟨wr.heap.size + 1 + 1, 0, none⟩ 1 1 (mkR ⟨3, 1 + (i : Int) / 3, 1, ⟨1 + (k : Int) % 3, 1 + (k : Int) / 3, 0⟩, ⟨#[100, 101, 102]⟩, [], 0, 0, 0⟩).cs rfl rfl (cell_op_new3d wr ⟨3, 1 + (i : Int) / 3, 1, ⟨1 + (k : Int) % 3, 1 + (k : Int) / 3, 0⟩, ⟨#[100, 101, 102]⟩, [], 0, 0, 0⟩ _ _ _) (cs_oneO _) HM1.out HM2.out (by have := HST.out.below.size; show W0.heap.size ≤ _; simp; omega) ?_; intro v8 w8 hown8 hgrow8 hnil8; have HN := Lib.hid (HST.out.nextd hown8 HROW.out hgrow8); clear hown8 hgrow8 hnil8)
            | fail)
          go_roundw
          case rel => exact ⟨i + 1, by go_num, by omega, HN.out⟩
          case measure => simp [RowKit.intOf] <;> omega
      · have hr : (i : Int) % 3 = 0 := by omega
        have HROW := Lib.hid (row_is0 (kind := 1) (c := n3 + n2) (show i % 3 = 0 from by omega) (aft_00 _ _ _ h0))
        go_wp2_with (first
          | (at_builtin; refine wpList_append_own _ rfl _ _ 24 rfl W0.heap.size 33 i0 (.agg #[.int .i64 0, .int .i64 0, .int .i64 0, .int .i64 0, .int .i64 0, .int .i64 0, .string ⟨#[]⟩, .slice none 0 0, .int .i64 0, .int .i64 0, .int .i64 0]) 11 112 Tryd.underlying24 hq0 hz0 hz1 hz2 rfl (by decide) _ i _ rfl (((HST.out.own.alloc _).alloc _).alloc _) ⟨wr.heap.size + 1 + 1, 0, none⟩ 1 1 (mkR ⟨1, 1 + (i : Int) / 3, 1, ⟨0, 0, 0⟩, ⟨#[97]⟩, [], 0, 0, 0⟩).cs rfl rfl (cell_op_new3 wr ⟨1, 1 + (i : Int) / 3, 1, ⟨0, 0, 0⟩, ⟨#[97]⟩, [], 0, 0, 0⟩ _ _ _) (cs_oneO _) HM1.out HM2.out (by have := HST.out.below.size; simp; omega) ?_; intro v8 w8 hown8 hgrow8 hnil8; have HN := Lib.hid (HST.out.next hown8 HROW.out hgrow8); clear hown8 hgrow8 hnil8)
          | fail)
        go_roundw
        case rel => exact ⟨i + 1, by go_num, by omega, HN.out⟩
        case measure => simp [RowKit.intOf] <;> omega
    · have h0 : i = n := by omega
      have HF := Lib.hid (show RowPost (mrow 1 (n3 + n2) n) w (.returned (.slice av i cv)) wr from by
        refine ⟨_, rfl, ?_, HB0.out.trans (hst.below.mono HB0.out.size)⟩
        rw [mrow_len, ← h0]
        exact owns_base hst.own HB0.out.size)
      clear hst h0
      go_wp2_with fail
      go_ret
      exact HF.out
end Go.Proofs.YtbalcamjccfkdaaDoor
