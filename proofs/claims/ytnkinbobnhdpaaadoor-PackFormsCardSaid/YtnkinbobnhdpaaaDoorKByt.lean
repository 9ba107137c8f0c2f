/- package pack: Check, Bytes -/
import Derived.Test.YtnkinbobnhdpaaaDoorKChk
namespace Go.Proofs.YtnkinbobnhdpaaaDoor
open Go.RowKit Go.Lib Go.Shelf

def msA (m : MsD) (a : Option Addr) (n cap : Nat) : Array Value := #[.int .i64 m.kind, .int .i64 m.site, .int .i64 m.nonce, .int .i64 m.known, .int .i64 m.seq, .int .i64 m.err, .slice a n cap]
set_option maxHeartbeats 2000000 in
theorem pkCheck_any (m : MsD) (a : Option Addr) (cap : Nat) (L : List OpR) (w : World) (h : MsIn w m a L) : Calls Tryd.prog 30 #[m.v a cap] w (IntB (errO (okMs m)) w) := by
  have HT := Lib.hid (fun wx hx => msgMayBe_any m a cap L wx hx)
  have HI := Lib.hid h
  have HB := Lib.hid (below_al w (.cells (msA m a m.ops.length cap) 53))
  generalize okMs m = ok at *
  clear h
  obtain ⟨kind, site, nonce, known, seq, err, ops⟩ := m
  unfold MsD.v msA at *
  simp only at HT HB ⊢
  cases ok
  all_goals
    go_enter Tryd.func30, Tryd.ntmps30
    go_wp2_with (first
      | (go_at_call 66; refine (HT.out _ (HI.out.below HB.out)).mono ?_; rintro e w1 ⟨rfl, hb⟩; have HB1 := Lib.hid (HB.out.trans (hb.mono HB.out.size)); clear hb)
      | fail)
    go_ret
    exact ⟨rfl, HB1.out⟩

theorem opB_len {o : OpD} (h : okOp o = true) : (opB o).length ≤ 3100 := by
  have hk := okOp_nums h
  have h1 := encL_len _ (fun n hn => (Nb.okB_of (hk.head n hn)).2)
  simp only [List.length_cons, List.length_nil] at h1
  rcases hk.kind with h2 | h2
  · rw [opB_1 h2]
    have h3 := encL_len _ (fun n hn => (Nb.okB_of (El.okN_all (hk.aft h2) n hn)).2)
    have h4 := elsB_len _ hk.gone
    have h5 := hk.len
    have h6 := hk.size
    have h7 : (txB o.text).length ≤ 53 := by
      unfold txB
      rw [List.length_append]
      have h1 := uvarint_length 4 o.text.size (by simp; omega)
      have h2 : o.text.data.toList.length = o.text.size := by simp
      omega
    have h8 : (encL [(o.gone.length : Int)]).length ≤ 5 := encL_len _ (by intro x hx; simp only [List.mem_singleton] at hx; subst hx; omega)
    have h9 : o.after.nums.length = 3 := rfl
    simp only [List.length_append]
    omega
  · rw [opB_2 h2]
    have h3 := encL_len _ (fun n hn => (Nb.okB_of (hk.tog h2 n hn)).2)
    simp only [List.length_cons, List.length_nil] at h3
    rw [List.length_append]
    omega
theorem opsB_len : ∀ (l : List OpD), l.all okOp = true → (opsB l).length ≤ 3100 * l.length
  | [], _ => by simp [opsB]
  | o :: r, h => by
    simp only [List.all_cons, Bool.and_eq_true] at h
    have h1 := opB_len h.1
    have h2 := opsB_len r h.2
    show (opB o ++ opsB r).length ≤ _
    rw [List.length_append, List.length_cons]; omega
theorem opsB_take {l : List OpD} {k : Nat} (h : k < l.length) : opsB (l.take (k + 1)) = opsB (l.take k) ++ opB l[k] := by
  rw [List.take_succ_eq_append_getElem h, opsB_append, opsB_one]
theorem okMs_head {m : MsD} (h : okMs m = true) : ∀ n ∈ m.head, Nb.okB n = true := by
  have h4 := (okMs_ops h).1
  unfold okMs at h
  rw [Bool.and_eq_true] at h
  have h1 := h.1
  unfold MsD.fields fieldsOk at h1
  have hz : ∀ x, z0 x = true → Nb.okB x = true := fun x hx => by have : x = 0 := of_decide_eq_true hx; subst this; rfl
  have hb : ∀ x lo hi, 0 ≤ lo → hi ≤ 268435456 → btw x lo hi = true → Nb.okB x = true := fun x lo hi h0 h1 hx => by have : lo ≤ x ∧ x ≤ hi := of_decide_eq_true hx; exact Nb.okB_yes (by omega) (by omega)
  have hn : Nb.okB (m.ops.length : Int) = true := Nb.okB_yes (by omega) (by omega)
  intro n hn'
  unfold MsD.head at hn'
  simp only [List.mem_cons, List.not_mem_nil, or_false] at hn'
  have key : Nb.okB m.kind = true ∧ Nb.okB m.site = true ∧ Nb.okB m.nonce = true ∧ Nb.okB m.known = true ∧ Nb.okB m.seq = true ∧ Nb.okB m.err = true := by
    repeat' split at h1
    all_goals first
      | (rename_i hk; simp only [Bool.and_eq_true] at h1; obtain ⟨a1, a2, a3, a4, a5, _⟩ := h1; exact ⟨by rw [hk]; rfl, (by first | exact hz _ a1 | exact hb _ 1 8 (by decide) (by decide) a1 | exact hb _ 0 40 (by decide) (by decide) a1 | exact hb _ 1 268435456 (by decide) (by decide) a1), (by first | exact hz _ a2 | exact hb _ 1 8 (by decide) (by decide) a2 | exact hb _ 0 40 (by decide) (by decide) a2 | exact hb _ 1 268435456 (by decide) (by decide) a2), (by first | exact hz _ a3 | exact hb _ 1 8 (by decide) (by decide) a3 | exact hb _ 0 40 (by decide) (by decide) a3 | exact hb _ 1 268435456 (by decide) (by decide) a3), (by first | exact hz _ a4 | exact hb _ 1 8 (by decide) (by decide) a4 | exact hb _ 0 40 (by decide) (by decide) a4 | exact hb _ 1 268435456 (by decide) (by decide) a4), (by first | exact hz _ a5 | exact hb _ 1 8 (by decide) (by decide) a5 | exact hb _ 0 40 (by decide) (by decide) a5 | exact hb _ 1 268435456 (by decide) (by decide) a5)⟩)
      | cases h1
  obtain ⟨k1, k2, k3, k4, k5, k6⟩ := key
  rcases hn' with rfl | rfl | rfl | rfl | rfl | rfl | rfl
  · exact k1
  · exact k2
  · exact k3
  · exact k4
  · exact k5
  · exact k6
  · exact hn

set_option maxRecDepth 100000 in
set_option maxHeartbeats 4000000 in
theorem msgBytes_any (m : MsD) (a : Option Addr) (cap : Nat) (L : List OpR) (w : World) (h : MsIn w m a L) (hk : okMs m = true) : Calls Tryd.prog 64 #[m.v a cap] w (StrB (msB m) w) := by
  have hh := okMs_head hk
  have hops := okMs_ops hk
  have hln := h.len
  have HI := Lib.hid (h.ops.below (below_al w (.cells (msA m a m.ops.length cap) 53)))
  have HB := Lib.hid (below_al w (.cells (msA m a m.ops.length cap) 53))
  have HM := Lib.hid (Hp.new w (msA m a m.ops.length cap) 53)
  have HOS := Lib.hid h.os
  have HOK := Lib.hid (show ∀ k (hk : k < L.length), okOp L[k].o = true from fun k hk => by
    have h1 := hops.2
    rw [← h.os, List.all_eq_true] at h1
    exact h1 _ (List.mem_map.2 ⟨L[k], List.getElem_mem hk, rfl⟩))
  have HLB := Lib.hid (show ∀ k, (encL m.head ++ opsB (m.ops.take k)).length ≤ 20000 from fun k => by
    have h1 := encL_len _ (fun n hn => (Nb.okB_of (hh n hn)).2)
    have h2 : m.head.length = 7 := rfl
    have h3 := opsB_len (m.ops.take k) (by have := hops.2; rw [List.all_eq_true] at this ⊢; exact fun x hx => this x (List.mem_of_mem_take hx))
    have h4 : (m.ops.take k).length ≤ 4 := by rw [List.length_take]; omega
    rw [List.length_append]; omega)
  have hh5 := encL_len _ (fun n hn => (Nb.okB_of (hh n hn)).2)
  have HTK := Lib.hid (show ∀ k (hk : k < L.length), encL m.head ++ opsB (m.ops.take (k + 1)) = (encL m.head ++ opsB (m.ops.take k)) ++ opB L[k].o from fun k hk => by
    have h2 : k < m.ops.length := by rw [h.len]; exact hk
    rw [opsB_take h2, ← List.append_assoc]
    congr 2
    have h3 := os_get hk
    rw [h.os, List.getElem?_eq_getElem h2] at h3
    exact Option.some.inj h3)
  have HTE := Lib.hid (show encL m.head ++ opsB (m.ops.take L.length) = msB m from by unfold msB; rw [List.take_of_length_le (by rw [h.len]; exact Nat.le_refl _)])
  have HT0 := Lib.hid (show encL m.head ++ opsB (m.ops.take 0) = encL m.head from by rw [List.take_zero]; show _ ++ [] = _; rw [List.append_nil])
  have HN := Lib.hid (fun b (wx : World) (hx : NumsAt wx (some ⟨b, 0, none⟩) m.head) => numbers_any (some ⟨b, 0, none⟩) 7 m.head wx hx hh (by simp [MsD.head]))
  have h2 : m.head.length = 7 := rfl
  rw [h2] at hh5
  simp only [h2] at HN
  have HH5 := Lib.hid hh5
  have HNL := Lib.hid (show L.length ≤ 4 from by rw [← hln]; exact hops.1)
  have HNU := Lib.hid (fun wx => nums_new wx m.head 3 #[.int .i64 m.kind, .int .i64 m.site, .int .i64 m.nonce, .int .i64 m.known, .int .i64 m.seq, .int .i64 m.err, .int .i64 m.ops.length] rfl)
  clear h hk hh hops hh5 h2
  generalize msB m = MB at *
  obtain ⟨kind, site, nonce, known, seq, err, ops⟩ := m
  unfold MsD.v msA at *
  simp only at hln HI HB HM HNU ⊢
  rw [hln] at HI HB HM HNU ⊢
  clear hln
  obtain ⟨n, hn⟩ : ∃ n, L.length = n := ⟨_, rfl⟩
  have HLN := Lib.hid hn
  rw [hn] at HI HB HM HNU HTE HNL ⊢
  generalize hA0 : encL (MsD.head ⟨kind, site, nonce, known, seq, err, ops⟩) = A0 at *
  have h0 : A0.length ≤ 35 := HH5.out
  clear hA0 hn
  have HOB := Lib.hid (fun k (hk : k < L.length) (wx : World) (hx : OpIn wx L[k].o L[k].a) => opBytes_any L[k].o L[k].a L[k].cap wx hx (HOK.out k hk))
  go_enter Tryd.func64, Tryd.ntmps64
  go_upto_region 1 with fail
  generalize w.alloc (.cells #[.int .i64 kind, .int .i64 site, .int .i64 nonce, .int .i64 known, .int .i64 seq, .int .i64 err, .slice a n cap] 53) = W0 at *
  obtain ⟨bm, hbm⟩ : ∃ b, w.heap.size = b := ⟨_, rfl⟩
  rw [hbm] at HM ⊢
  have HBR := Lib.hid (Lib.IsBuilderF.of (Lib.fresh_isBuilder 131 5 W0))
  have HB1 := Lib.hid (below_al W0 (.cells #[.pointer none, .slice none 0 0] 131))
  go_upto_region 2 with fail
  generalize W0.alloc (.cells #[.pointer none, .slice none 0 0] 131) = W1 at *
  have HM1 := Lib.hid (HM.out.step HB1.out)
  have c0 : W1.cell? ⟨bm, 0, none⟩ = some (.int .i64 kind) := HM1.out.cell 0 rfl
  have c1 : W1.cell? ⟨bm, 1, none⟩ = some (.int .i64 site) := HM1.out.cell 1 rfl
  have c2 : W1.cell? ⟨bm, 2, none⟩ = some (.int .i64 nonce) := HM1.out.cell 2 rfl
  have c3 : W1.cell? ⟨bm, 3, none⟩ = some (.int .i64 known) := HM1.out.cell 3 rfl
  have c4 : W1.cell? ⟨bm, 4, none⟩ = some (.int .i64 seq) := HM1.out.cell 4 rfl
  have c5 : W1.cell? ⟨bm, 5, none⟩ = some (.int .i64 err) := HM1.out.cell 5 rfl
  have c6 : W1.cell? ⟨bm, 6, none⟩ = some (.slice a n cap) := HM1.out.cell 6 rfl
  go_upto_region 3 with (first
    | (go_at_call 79; refine (HN.out _ _ (HNU.out W1)).mono ?_; rintro e w2 ⟨rfl, hb⟩; have hb' := (below_al W1 (.cells #[.int .i64 kind, .int .i64 site, .int .i64 nonce, .int .i64 known, .int .i64 seq, .int .i64 err, .int .i64 n] 3)).trans (hb.mono (by simp)); have HI2 := Lib.hid (builder_below HBR.out hb'); have HB2 := Lib.hid (HB1.out.trans (hb'.mono HB1.out.size)); clear hb hb' c0 c1 c2 c3 c4 c5 c6)
    | (go_at_call 90; refine Calls.mono (Any.Builder_WriteString_k Tryd.lays166 Tryd.Builder_Extra_166 W0.heap.size W0.heap.size _ ⟨A0.toArray⟩ _ HI2.out (by show 0 + A0.length ≤ _; omega) HB2.out.size) ?_; rintro e w3 ⟨rfl, h1, b1, k1⟩; have HI3 := Lib.hid h1; have HB3 := Lib.hid (HB2.out.trans b1); clear h1 b1 k1; have HM3 := Lib.hid (HM.out.step HB3.out); have d6 : w3.cell? ⟨bm, 6, none⟩ = some (.slice a n cap) := HM3.out.cell 6 rfl)
    | fail)
  go_wp2_with fail
  go_loopw [27] (fun i wr => ∃ k : Nat, k ≤ n ∧ i = .int .i64 k ∧ Lib.IsBuilderF 131 5 W0.heap.size W0.heap.size (Lib.byteCells (A0 ++ opsB (ops.take k))) wr ∧ Below W0.heap.size W0 wr) (fun i _ => n - (RowKit.intOf i).toNat)
  case atStart => exact ⟨0, by omega, rfl, by rw [HT0.out]; exact Or.inr HI3.out, HB3.out⟩
  case round =>
    obtain ⟨k, hk, rfl, hI, hbw⟩ := hrel
    have HBW := Lib.hid hbw
    have HIW := Lib.hid hI
    clear hI hbw d6
    have hLk := HLB.out k
    try simp only at hLk
    have HLK := Lib.hid hLk
    clear hLk
    have hn4 : (n : Int) ≤ 4 := by have := HNL.out; omega
    by_cases hlt : k < n
    · have hkl : k < L.length := by rw [HLN.out]; exact hlt
      obtain ⟨b, off, ha, hb, c0, c1, c2, c3, c4, c5, c6, c7, c8, c9, ca⟩ := (HI.out.below HBW.out).cells k hkl
      have hoa := (HI.out.below HBW.out).op k hkl
      have HOI := Lib.hid (show OpIn wr L[k].o L[k].a from ⟨hoa.gone, hoa.len, hoa.size⟩)
      have HO := Lib.hid (HOB.out k hkl)
      have HTKK := Lib.hid (HTK.out k hkl)
      have HOL := Lib.hid (opB_len (HOK.out k hkl))
      clear hoa
      try simp only at HTKK
      generalize L[k] = r at *
      obtain ⟨⟨os, oq, ok, ⟨es, eq, ei⟩, text, gone, of, num, gen⟩, ra, rc⟩ := r
      unfold OpD.v at HO
      simp only at c0 c1 c2 c3 c4 c5 c6 c7 c8 c9 ca HOI HO HTKK HOL
      generalize opB ⟨os, oq, ok, ⟨es, eq, ei⟩, text, gone, of, num, gen⟩ = OB at *
      subst ha
      go_wp2_with (first
        | (go_at_call 49; refine (HO.out _ (HOI.out.below (below_al _ _))).mono ?_; rintro e w5 ⟨rfl, hb5⟩; have hb5' := (below_al wr _).trans (hb5.mono (by simp)); have HI5 := Lib.hid (builder_below HIW.out hb5'); have HB5 := Lib.hid (HBW.out.trans (hb5'.mono HBW.out.size)); clear hb5 hb5' c0 c1 c2 c3 c4 c5 c6 c7 c8 c9 ca)
        | (go_at_call 90; refine Calls.mono (Any.Builder_WriteString_k Tryd.lays166 Tryd.Builder_Extra_166 W0.heap.size W0.heap.size _ ⟨OB.toArray⟩ _ HI5.out (by rw [Lib.byteCells_length]; have h1 := HLK.out; have h2 : (⟨OB.toArray⟩ : ByteArray).size ≤ 3100 := HOL.out; omega) HB5.out.size) ?_; rintro e w6 ⟨rfl, h1, b1, k1⟩; have HI6 := Lib.hid h1; have HB6 := Lib.hid (HB5.out.trans b1); clear h1 b1 k1)
        | fail)
      go_roundw
      case rel => exact ⟨k + 1, by omega, by go_num, by rw [HTKK.out, Lib.byteCells_append]; exact Or.inr HI6.out, HB6.out⟩
      case measure => simp [RowKit.intOf]; omega
    · have hkn : k = n := by omega
      have HTN := Lib.hid (show A0 ++ opsB (ops.take k) = MB from by rw [hkn]; exact HTE.out)
      have cS := Lib.hid (Any.Builder_String_any_k Tryd.lays169 Tryd.Builder_Extra_169 W0.heap.size W0.heap.size _ wr HIW.out HBW.out.size)
      clear hkn
      go_wp2_with (go_at_call 91; refine Calls.mono cS.out ?_)
      rintro e w4 ⟨rfl, _, b1, _⟩
      have HB4 := Lib.hid (HBW.out.trans b1)
      clear b1
      go_wp2
      go_ret
      exact ⟨(show Ending.returned (Nb.S (A0 ++ opsB (ops.take k))) = .returned (Nb.S MB) by rw [HTN.out]), HB.out.trans (HB4.out.mono HB.out.size)⟩

def msV (m : MsD) : Value := if okMs m = true then .tuple #[Nb.S (msB m), .int .i64 0] else .tuple #[Nb.S [], .int .i64 1]
set_option maxRecDepth 100000 in
set_option maxHeartbeats 4000000 in
theorem pkBytes_any (m : MsD) (a : Option Addr) (cap : Nat) (L : List OpR) (w : World) (h : MsIn w m a L) : Calls Tryd.prog 27 #[m.v a cap] w (PkPost (msV m) w) := by
  have HC := Lib.hid (fun wx hx => pkCheck_any m a cap L wx hx)
  have HO := Lib.hid (fun wx hx => msgBytes_any m a cap L wx hx)
  have HI := Lib.hid (h.below (below_al w (.cells (msA m a m.ops.length cap) 53)))
  have HB := Lib.hid (below_al w (.cells (msA m a m.ops.length cap) 53))
  have HM := Lib.hid (Hp.new w (msA m a m.ops.length cap) 53)
  unfold msV
  generalize msB m = MB at *
  clear h
  cases hk : okMs m
  · rw [hk] at HC
    clear HO HM
    rw [if_neg (by simp)]
    clear hk
    obtain ⟨kind, site, nonce, known, seq, err, ops⟩ := m
    unfold MsD.v msA at *
    simp only at HI HB HC ⊢
    go_enter Tryd.func27, Tryd.ntmps27
    go_wp2_with (first
      | (go_at_call 30; refine (HC.out _ HI.out).mono ?_; rintro e w1 ⟨rfl, hb⟩; have HB1 := Lib.hid (HB.out.trans (hb.mono HB.out.size)); clear hb)
      | fail)
    go_ret2
    exact ⟨rfl, HB1.out⟩
  · rw [hk] at HC
    rw [if_pos rfl]
    have HO2 := Lib.hid (fun wx hx => HO.out wx hx hk)
    clear HO hk
    obtain ⟨kind, site, nonce, known, seq, err, ops⟩ := m
    unfold MsD.v msA at *
    simp only at HI HB HC HO2 HM ⊢
    go_enter Tryd.func27, Tryd.ntmps27
    go_wp2_with (first
      | (go_at_call 30; refine (HC.out _ HI.out).mono ?_; rintro e w1 ⟨rfl, hb⟩; have HB1 := Lib.hid (HB.out.trans (hb.mono HB.out.size)); have HI1 := Lib.hid (HI.out.below hb); have HM1 := Lib.hid (HM.out.step hb); have c0 : w1.cell? ⟨w.heap.size, 0, none⟩ = some (.int .i64 kind) := HM1.out.cell 0 rfl; have c1 : w1.cell? ⟨w.heap.size, 1, none⟩ = some (.int .i64 site) := HM1.out.cell 1 rfl; have c2 : w1.cell? ⟨w.heap.size, 2, none⟩ = some (.int .i64 nonce) := HM1.out.cell 2 rfl; have c3 : w1.cell? ⟨w.heap.size, 3, none⟩ = some (.int .i64 known) := HM1.out.cell 3 rfl; have c4 : w1.cell? ⟨w.heap.size, 4, none⟩ = some (.int .i64 seq) := HM1.out.cell 4 rfl; have c5 : w1.cell? ⟨w.heap.size, 5, none⟩ = some (.int .i64 err) := HM1.out.cell 5 rfl; have c6 : w1.cell? ⟨w.heap.size, 6, none⟩ = some (.slice a ops.length cap) := HM1.out.cell 6 rfl; clear hb)
      | (go_at_call 64; refine (HO2.out _ HI1.out).mono ?_; rintro e w2 ⟨rfl, hb⟩; have HB2 := Lib.hid (HB1.out.trans (hb.mono HB1.out.size)); clear hb)
      | fail)
    go_ret2
    exact ⟨rfl, HB2.out⟩
end Go.Proofs.YtnkinbobnhdpaaaDoor
