/- tree.hang: the walk -/
import Derived.Test.YtbalcamjccfkdaaTHang
namespace Go.Proofs.Ytbalcamjccfkdaa
open Go.RowKit Go.Lib

def OpR.os (l : List OpR) : List OpD := l.map (·.o)
def HangPost (A : List Tn) (w : World) (e : Ending) (w' : World) : Prop := ∃ bm, e = .returned (.map (some bm)) ∧ Grp w' bm A ∧ Below w.heap.size w w'
/-- behind k ops -/
structure HSt (l : List OpR) (base : Nat) (w wr : World) (k : Nat) : Prop where
  grp : GrpB wr base base (allT ((OpR.os l).take k)) (fun _ => False)
  below : Below base w wr
  size : base < wr.heap.size
theorem snoc_ind {p : List OpD → Prop} (h0 : p []) (h1 : ∀ l o, p l → p (l ++ [o])) (l : List OpD) : p l := by
  have : ∀ n, n ≤ l.length → p (l.take n) := by
    intro n
    induction n with
    | zero => intro _; rw [List.take_zero]; exact h0
    | succ n ih =>
      intro hn
      rw [List.take_succ_eq_append_getElem (by omega)]
      exact h1 _ _ (ih (by omega))
  have h2 := this l.length (Nat.le_refl _)
  rw [List.take_length] at h2
  exact h2
theorem allT_len (l : List OpD) : (allT l).length = tot l := by
  refine snoc_ind (p := fun l => (allT l).length = tot l) rfl (fun l o ih => ?_) l
  rw [allT_snoc, List.length_append, ih, blk_length, tot_snoc]
theorem tot_take (l : List OpD) (k : Nat) : tot (l.take k) ≤ tot l := by
  induction l generalizing k with
  | nil => simp [tot]
  | cons o l ih =>
    cases k with
    | zero => simp [tot]
    | succ k =>
      have := ih k
      simp only [tot, List.take_succ_cons, List.map_cons, List.sum_cons] at this ⊢
      omega
/-- into an op: its elements are told, its After is boxed -/
theorem HSt.enter {l : List OpR} {base : Nat} {w wr w5 : World} {k n : Nat} (h : HSt l base w wr k) {o : OpD} {v : Value} {o1 : Obj} (hn : n = nR o.text)
    (hown : w5.ownsRow (wr.alloc o1).heap.size 36 3 v n (ecs (mine o.site o.seq (nR o.text)))) (hb : Below (wr.alloc o1).heap.size (wr.alloc o1) w5) (i : Nat) :
    InSt (allT ((OpR.os l).take k)) o i base base w5.heap.size (wr.heap.size + 1) v w (w5.alloc (.cells #[.int .i64 o.after.s, .int .i64 o.after.q, .int .i64 o.after.i] 36)) 0 ∧ base ≤ w5.heap.size := by
  obtain ⟨hg, hbl, hsz⟩ := h
  have hs1 : (wr.alloc o1).heap.size = wr.heap.size + 1 := by simp
  rw [hs1] at hown
  have hb5 : Below wr.heap.size wr w5 := ((Below.refl _ _).alloc (Nat.le_refl _) o1).trans (hb.mono (by omega))
  have hz5 := hb5.size
  have hb6 : Below wr.heap.size wr (w5.alloc (.cells #[.int .i64 o.after.s, .int .i64 o.after.q, .int .i64 o.after.i] 36)) := hb5.alloc (by omega) _
  have hne : ∀ g, v.ownBlock = some g → wr.heap.size + 1 ≤ g ∧ g < w5.heap.size := fun g hg => by have := hown.lt g hg; omega
  refine ⟨⟨?_, ?_, ?_, ?_, by omega, ?_, ?_, by omega⟩, by omega⟩
  · rw [List.take_zero, List.append_nil]
    exact (hg.below hb6).weaken (fun g hg => by
      rcases hg with hg | hg
      · have := hne g hg; exact .inr (by omega)
      · exact .inr (by omega))
  · have : par o 0 = o.after := rfl
    rw [this]
    exact heap_alloc_new w5 _
  · rw [← hn]
    rw [← hn] at hown
    exact hown.alloc _
  · intro e; have := hne _ e; omega
  · intro e; have := hne _ e; omega
  · exact hbl.trans ⟨hb6.os, hb6.tape, hb6.output, hb6.size, fun j hj => hb6.block j (by omega)⟩
theorem HSt.leave {l : List OpR} {base pb wb : Nat} {w wi : World} {k : Nat} {v : Value} (hk : k < l.length) {o : OpD} (ho : l[k].o = o) (h : InSt (allT ((OpR.os l).take k)) o k base base pb wb v w wi (nR o.text)) : HSt l base w wi (k + 1) := by
  refine ⟨?_, h.below, h.grp.lt⟩
  have e : (OpR.os l).take (k + 1) = (OpR.os l).take k ++ [o] := by
    rw [List.take_succ_eq_append_getElem (by simp [OpR.os]; exact hk)]
    simp [OpR.os, ho]
  have hlk : ((OpR.os l).take k).length = k := by simp [OpR.os]; omega
  rw [e, allT_snoc, hlk]
  have := h.grp
  rw [show (blk o k).take (nR o.text) = blk o k from List.take_of_length_le (by rw [blk_length]; exact Nat.le_refl _)] at this
  exact this.weaken (fun g (hg : False) => hg.elim)
theorem InSt.elem {A0 : List Tn} {o : OpD} {i base bm pb wb : Nat} {ev : Value} {w wi : World} {j n : Nat} {a : Option Addr} {cap : Nat} (h : InSt A0 o i base bm pb wb ev w wi j) (hev : ev = .slice a n cap) (hn : n = nR o.text) (hj : j < n) :
    ∃ g, a = some ⟨g, 0, none⟩ ∧ g < wi.heap.size ∧ wi.cell? ⟨g, j * 3, none⟩ = some (.int .i64 o.site) ∧ wi.cell? ⟨g, j * 3 + 1, none⟩ = some (.int .i64 o.seq) ∧ wi.cell? ⟨g, j * 3 + 2, none⟩ = some (.int .i64 j) := by
  subst hev
  have ho := h.own
  rcases ho.2 with ⟨hv, h0⟩ | ⟨g, c2, cur, hv, _⟩
  · omega
  · simp only [Value.slice.injEq] at hv
    obtain ⟨ha, _, _⟩ := hv
    subst ha
    rw [← hn] at ho
    obtain ⟨x0, x1, x2⟩ := row_cells ho (mine_length _ _ _) j hj
    have hm : (mine o.site o.seq n)[j]! = ⟨o.site, o.seq, j⟩ := by
      rw [getElem!_pos (mine o.site o.seq n) j (by rw [mine_length]; exact hj)]
      exact mine_get _ _ _ _ _
    rw [hm] at x0 x1 x2
    exact ⟨g, rfl, (ho.lt g rfl).2, x0, x1, x2⟩
set_option maxRecDepth 100000 in
set_option maxHeartbeats 4000000 in
theorem xHang_any (a : Option Addr) (cap : Nat) (l : List OpR) (w : World) (h : OpsAt w a l) (hok : ∀ r ∈ l, okOp r.o = true) (hl : l.length ≤ 40) (ht : tot (OpR.os l) ≤ 200) :
    Calls Try.prog 14 #[.slice a l.length cap] w (HangPost (allT (OpR.os l)) w) := by
  obtain ⟨i0, hi0, hz0, hz1, hz2⟩ := info_parts Try.infoNode
  have HH := Lib.hid h
  have HOK := Lib.hid hok
  have HT := Lib.hid ht
  have HTK := Lib.hid (fun k => Nat.le_trans (Nat.le_of_eq (allT_len ((OpR.os l).take k))) (Nat.le_trans (tot_take (OpR.os l) k) ht))
  have HST := Lib.hid (show HSt l w.heap.size w (w.alloc (.map #[] 0)) 0 from ⟨GrpB.made w w.heap.size (Nat.le_refl _), (Below.refl _ _).alloc (Nat.le_refl _) _, by simp⟩)
  clear h hok ht
  obtain ⟨n, hn⟩ : ∃ n, l.length = n := ⟨_, rfl⟩
  have HN := Lib.hid hn
  rw [hn] at hl ⊢
  clear hn
  have hmk : (Instr.makeMap 48 none).run Try.prog w = .ok (.map (some w.heap.size)) (w.alloc (.map #[] 0)) := run_makeMap _ w
  generalize hbase : w.heap.size = base at *
  have HBS := Lib.hid hbase
  go_enter Try.func14, Try.ntmps14
  go_wp2_with fail
  clear hbase hmk
  go_loopw [14] (fun s14 wr => ∃ k : Nat, s14 = .int .i64 k ∧ k ≤ n ∧ HSt l base w wr k) (fun s14 _ => n - (RowKit.intOf s14).toNat)
  case atStart => exact ⟨0, rfl, Nat.zero_le _, HST.out⟩
  case round =>
    clear HST
    obtain ⟨k, rfl, hk, hst⟩ := hrel
    have HS := Lib.hid hst
    by_cases hlt : k < n
    · have hkl : k < l.length := by rw [HN.out]; exact hlt
      have hbw : Below w.heap.size w wr := by rw [HBS.out]; exact hst.below
      obtain ⟨b, off, rfl, hbb, c0, c1, c2, c3, c4, c5, c6, c7, c8, c9, ca⟩ := (HH.out.below hbw).cells k hkl
      have hoa := (HH.out.below hbw).op k hkl
      have hokk := HOK.out l[k] (List.getElem_mem hkl)
      have HE := Lib.hid (fun wx (hx : Below wr.heap.size wr wx) => xElems_ok l[k].o l[k].a l[k].cap wx ⟨hoa.gone.below hx, hoa.len, hoa.size⟩ hokk)
      have HLV := Lib.hid (fun (o : OpD) (ho : l[k].o = o) pb wb v wi => HSt.leave (base := base) (w := w) (pb := pb) (wb := wb) (wi := wi) (v := v) hkl ho)
      clear hst hoa hbw
      generalize l[k] = r at *
      clear hkl
      obtain ⟨⟨site, seq, kind, ⟨es, eq, ei⟩, text, gone, of, num, gen⟩, ra, rc⟩ := r
      unfold OpD.v at HE
      simp only at c0 c1 c2 c3 c4 c5 c6 c7 c8 c9 ca hokk HE HLV
      have HOKK := Lib.hid hokk
      have HBX := Lib.hid (BoxO.new wr ⟨site, seq, kind, ⟨es, eq, ei⟩, text, gone, of, num, gen⟩ ra rc)
      unfold OpD.obj at HBX
      simp only at HBX
      clear hokk
      generalize hnn : nR text = nn at *
      have HNN := Lib.hid hnn
      have hn12 : nn ≤ 12 := by rw [← hnn]; exact (okOp_text HOKK.out).2.1
      clear hnn
      go_wp2_with (first
        | (go_at_call 19; refine (HE.out _ ((Below.refl _ _).alloc (Nat.le_refl _) _)).mono ?_; rintro x5 w5 ⟨a5, cap5, rfl, hown5, hb5⟩; obtain ⟨pl, _, _, _, p3, p4, p5, _, _, _, _, _⟩ := HBX.out.step hb5; simp only [mine_length] at hown5 ⊢; have hent := HSt.enter (o := ⟨site, seq, kind, ⟨es, eq, ei⟩, text, gone, of, num, gen⟩) (n := nn) HS.out HNN.out.symm (by rw [HNN.out]; exact hown5) hb5 k; have HENT := Lib.hid hent.1; clear hown5 hb5 hent)
        | fail)
      clear pl p3 p4 p5 c0 c1 c2 c3 c4 c5 c6 c7 c8 c9 ca
      go_loopw [28] (fun s28 wi => ∃ j : Nat, s28 = .int .i64 j ∧ j ≤ nn ∧ InSt (allT ((OpR.os l).take k)) ⟨site, seq, kind, ⟨es, eq, ei⟩, text, gone, of, num, gen⟩ k base base w5.heap.size (wr.heap.size + 1) (.slice a5 nn cap5) w wi j) (fun s28 _ => nn - (RowKit.intOf s28).toNat)
      case atStart => exact ⟨0, rfl, Nat.zero_le _, HENT.out⟩
      case round =>
        clear HENT HE HBX
        obtain ⟨j, rfl, hj, hin⟩ := hrel
        by_cases hlt2 : j < nn
        · obtain ⟨g, rfl, hgl, x0, x1, x2⟩ := hin.elem rfl HNN.out.symm hlt2
          obtain ⟨y0, y1, y2, hfz, hpl⟩ := block3 hin.box
          have hbwi : base ≤ wr.heap.size := by have := hin.grp.ge; have := hin.grp.lt; omega
          obtain ⟨st, v0, w1, hrun, hs1, hb1, hnb, ho1, hk1, hback⟩ := hin.round HOKK.out (by rw [HNN.out]; exact hlt2) (by have := HTK.out k; omega) (.cells #[.int .i64 site, .int .i64 seq, .int .i64 j, .int .i64 k] 63) hbwi
          have HO1 := Lib.hid ho1
          have HNB := Lib.hid (World.news_of_block hnb)
          have HRUN := Lib.hid hrun
          have HBK := Lib.hid hback
          have HM1 := Lib.hid (show (kids (allT ((OpR.os l).take k) ++ (blk ⟨site, seq, kind, ⟨es, eq, ei⟩, text, gone, of, num, gen⟩ k).take j) (par ⟨site, seq, kind, ⟨es, eq, ei⟩, text, gone, of, num, gen⟩ j)).length + 1 ≤ maxLen from by simp only [maxLen]; omega)
          have HM2 := Lib.hid (show ((kids (allT ((OpR.os l).take k) ++ (blk ⟨site, seq, kind, ⟨es, eq, ei⟩, text, gone, of, num, gen⟩ k).take j) (par ⟨site, seq, kind, ⟨es, eq, ei⟩, text, gone, of, num, gen⟩ j)).length + 1) * 32 ≤ 140737488355328 from by omega)
          have HB1 := Lib.hid hb1
          clear ho1 hnb hrun hback hk1 hb1 hin hfz hs1
          generalize (par ⟨site, seq, kind, ⟨es, eq, ei⟩, text, gone, of, num, gen⟩ j).s = ps at *
          generalize (par ⟨site, seq, kind, ⟨es, eq, ei⟩, text, gone, of, num, gen⟩ j).q = pq at *
          generalize (par ⟨site, seq, kind, ⟨es, eq, ei⟩, text, gone, of, num, gen⟩ j).i = pi at *
          generalize (kids (allT ((OpR.os l).take k) ++ (blk ⟨site, seq, kind, ⟨es, eq, ei⟩, text, gone, of, num, gen⟩ k).take j) (par ⟨site, seq, kind, ⟨es, eq, ei⟩, text, gone, of, num, gen⟩ j)) = ks at *
          go_wp2_with (first
            | (refine wpList_mapEntry rfl _ _ _ rfl _ _ rfl rfl HRUN.out ?_)
            | (at_builtin; refine wpList_append_own_at _ rfl _ _ 57 rfl base 63 i0 (.agg #[.int .i64 0, .int .i64 0, .int .i64 0, .int .i64 0]) 4 32 Try.underlying57 hi0 hz0 hz1 hz2 rfl (by decide) _ ks.length _ rfl HO1.out ⟨wr.heap.size + 1, 0, none⟩ 1 1 (Nd.cs ⟨⟨site, seq, j⟩, k⟩) rfl rfl HNB.out (cs_oneN ⟨⟨site, seq, j⟩, k⟩) HM1.out HM2.out HB1.out ?_; intro v2 w2 hown2 hgrow2 hnil2 hat2; obtain ⟨w3, hr3, hb3, he3, hin3⟩ := HBK.out w2 v2 hown2 hgrow2 hat2; have HR3 := Lib.hid hr3; obtain ⟨q0, q1, q2, hqf, hql⟩ := block3 hb3; obtain ⟨z0, z1, z2, _, hzl⟩ := block3 he3; have f0 := hqf 0; have f1 := hqf 1; have f2 := hqf 2; have HIN3 := Lib.hid hin3; clear hqf hown2 hgrow2 hnil2 hat2 hr3 hb3 he3 hin3 HBK)
            | (refine wpList_entryStore rfl _ _ _ _ rfl _ _ _ rfl rfl rfl HR3.out ?_)
            | fail)
          go_roundw
          case rel => exact ⟨j + 1, by go_num, by omega, HIN3.out⟩
          case measure => simp [RowKit.intOf]; omega
        · have h0 : j = nn := by omega
          have HNX := Lib.hid (HLV.out _ rfl _ _ _ _ (by rw [HNN.out, ← h0]; exact hin))
          clear hin
          go_wp2_with fail
          go_roundw
          case rel => exact ⟨k + 1, by go_num, by omega, HNX.out⟩
          case measure => simp [RowKit.intOf]; omega
    · have h0 : k = n := by omega
      have HFIN : RowKit.Hid (HangPost (allT (OpR.os l)) w (.returned (.map (some base))) wr) := Lib.hid (by
        refine ⟨base, rfl, ?_, by rw [HBS.out]; exact hst.below⟩
        have := hst.grp.grp
        rw [List.take_of_length_le (by simp [OpR.os, HN.out, h0])] at this
        exact this)
      clear hst HS
      go_wp2
      go_ret
      exact HFIN.out
end Go.Proofs.Ytbalcamjccfkdaa
