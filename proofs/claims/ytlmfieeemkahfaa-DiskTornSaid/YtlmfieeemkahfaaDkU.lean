/- the page's Put, New; answers are written over; how much a disk is -/
import Derived.Test.YtlmfieeemkahfaaDkT
import Derived.Test.YtlmfieeemkahfaaDkK
namespace Go.Proofs.Ytlmfieeemkahfaa
open Go.RowKit Go.Lib

theorem OwnS.grow {base b2 n : Nat} {w w' : World} {v u : Value} {l : List ByteArray} {xs : List Value} (h : OwnS base w v l) (hu : w.ownsRow b2 73 2 u n xs) (hg : w.grownBy w' u.ownBlock) : OwnS base w' v l := by
  obtain ⟨h1, h2⟩ := h.own
  refine ⟨⟨h1, ?_⟩, h.size, h.len⟩
  rcases h2 with h2 | ⟨g, cap, cur, hv, hgb, hh, r⟩
  · exact .inl h2
  · refine .inr ⟨g, cap, cur, hv, hgb, ?_, r⟩
    rw [hg.block g (Array.getElem?_eq_some_iff.1 hh).1 (fun e => ?_)]
    · exact hh
    · rcases hu.2 with ⟨hu0, _⟩ | ⟨g2, cap2, cur2, hv2, _, hh2, _⟩
      · rw [hu0] at e; cases e
      · rw [hv2] at e
        simp only [Value.ownBlock, Option.some.injEq] at e
        subst e
        rw [hh] at hh2
        simp only [Option.some.injEq, Obj.cells.injEq] at hh2
        exact absurd hh2.2.1 (by decide)
def rputE (d : DkD) (n : Int) : Int := if btw n 0 ((d.safe.length : Int) - 1) then (if decide (400 ≤ d.wait.length) then 6 else 0) else 3
set_option maxRecDepth 100000 in
set_option maxHeartbeats 8000000 in
theorem rPut_any (d : DkD) (sa : Option Addr) (sc : Nat) (wa : Option Addr) (wc : Nat) (n : Int) (s : ByteArray) (w : World) (h : DkAt w d sa wa) (hs : s.size ≤ BIG) (hl1 : d.safe.length ≤ 1000) (hl2 : d.wait.length ≤ 1000) :
    Calls Try.prog 37 #[d.v sa sc wa wc, .int .i64 n, .string s] w (DkE (errD (putW d n s) (rputE d n)) (rputE d n) w) := by
  obtain ⟨i0, hi, hz0, hz1, hz2⟩ := info_parts Try.infoSec
  have HNU := Lib.hid (fun wx => Num_any n ((d.safe.length : Int) - 1) wx)
  have HCD := Lib.hid (fun wx (hb : Below w.heap.size w wx) => CopyDisk_any d sa wa sc wc wx (h.below hb) (by omega) (by omega))
  have HSZ := Lib.hid hs
  unfold rputE errD
  generalize hbt : btw n 0 ((d.safe.length : Int) - 1) = bt at *
  have h400 : decide ((400 : Int) ≤ (d.wait.length : Int)) = decide (400 ≤ d.wait.length) := by rw [decide_eq_decide]; omega
  generalize hbf : decide (400 ≤ d.wait.length) = bf at *
  clear hbt hs
  unfold putW
  obtain ⟨safe, wait⟩ := d
  unfold DkD.v DkP at *
  simp only at *
  obtain ⟨m, hm⟩ : ∃ m, safe.length = m := ⟨_, rfl⟩
  obtain ⟨m2, hm2⟩ : ∃ m, wait.length = m := ⟨_, rfl⟩
  rw [hm] at HNU HCD hl1 ⊢
  rw [hm2] at HCD h400 hl2 hbf ⊢
  have HM := Lib.hid hm
  have HM2 := Lib.hid hm2
  obtain ⟨hA, hR, hB, hz⟩ := two w (.slice sa m sc) (.slice wa m2 wc) (.slice none 0 0) (.slice none 0 0) 25 25
  have HA1 := Lib.hid hA
  have HR1 := Lib.hid hR
  have HB1 := Lib.hid hB
  have hws : wrap64 ((m : Int) - 1) = (m : Int) - 1 := by unfold wrap64; omega
  clear hm hm2 hA hR hB hz h
  cases bt
  · simp only [Bool.false_eq_true, if_false]
    rw [if_neg (by decide)]
    go_enter Try.func37, Try.ntmps37
    go_upto_region 1 with fail
    obtain ⟨bx, hbx⟩ : ∃ b, w.heap.size = b := ⟨_, rfl⟩
    rw [hbx] at HA1 HR1
    generalize (w.alloc (.cells #[.slice sa m sc, .slice wa m2 wc] 25)).alloc (.cells #[.slice none 0 0, .slice none 0 0] 25) = w1 at *
    have q0 := HA1.out.cell 0 rfl
    have p2 := HR1.out.cell 0 rfl
    have p3 := HR1.out.cell 1 rfl
    have p4 := HR1.out.fr 0
    have p5 := HR1.out.fr 1
    go_wp2_with (first | (go_at_call 36; refine (HNU.out _).mono ?_; rintro e w3 ⟨rfl, hw3⟩; subst hw3) | fail)
    obtain ⟨u0, u1, hO, hB⟩ := fin2 (w := w) (d := noD) HR1.out (noS_own (bx + 1 + 1) _) (noE_own (bx + 1 + 1) _) (by omega) (by omega) (by omega) HB1.out
    refine bodyPost_ret (v := .tuple #[.agg #[.slice none 0 0, .slice none 0 0], .int .i64 3]) (by simp [results, Try.results37, go_sem, u0, u1]) rfl ⟨_, _, rfl, hO, hB⟩
  · cases bf
    · simp only [if_true, Bool.false_eq_true, if_false]
      have hno : ¬ ((400 : Int) ≤ (m2 : Int)) := of_decide_eq_false h400
      have hno2 : ¬ (400 ≤ m2) := of_decide_eq_false hbf
      go_enter Try.func37, Try.ntmps37
      go_upto_region 1 with fail
      obtain ⟨bx, hbx⟩ : ∃ b, w.heap.size = b := ⟨_, rfl⟩
      rw [hbx] at HA1 HR1
      generalize (w.alloc (.cells #[.slice sa m sc, .slice wa m2 wc] 25)).alloc (.cells #[.slice none 0 0, .slice none 0 0] 25) = w1 at *
      have q0 := HA1.out.cell 0 rfl
      have q1 := HA1.out.cell 1 rfl
      have HLT := Lib.hid (show bx + 1 < w1.heap.size from HR1.out.lt)
      have HLA := Lib.hid (show bx < w1.heap.size from HA1.out.lt)
      go_upto_region 6 with (first
        | (go_at_call 36; refine (HNU.out _).mono ?_; rintro e w3 ⟨rfl, hw3⟩; subst hw3)
        | (go_at_call 16; refine (HCD.out _ HB1.out).mono ?_; rintro e w4 ⟨v4, u4, rfl, how4, hb4⟩; obtain ⟨a4, c4, a5, c5, hv4, hu4⟩ := own_shape how4; rw [show (DkD.mk safe wait).safe.length = m from HM.out] at hv4; rw [show (DkD.mk safe wait).wait.length = m2 from HM2.out] at hu4; subst hv4 hu4; have HO4 := Lib.hid how4; have HA4 := Lib.hid (HA1.out.step hb4); have HR4 := Lib.hid (HR1.out.step hb4); have HB4 := Lib.hid (HB1.out.trans (hb4.mono HB1.out.size)); clear q0 q1; have q0 := HA4.out.cell 0 rfl; have q1 := HA4.out.cell 1 rfl; have q2 := HA4.out.fr 0; have q3 := HA4.out.fr 1; have HZ4 := Lib.hid hb4.size; clear how4 hb4)
        | fail)
      have HA5 := Lib.hid ((HA4.out.set 0 (.slice a4 m c4)).set 1 (.slice a5 m2 c5))
      have HR5 := Lib.hid ((HR4.out.far (k := bx) (c := 0) (by omega) (.slice a4 m c4)).far (k := bx) (c := 1) (by omega) (.slice a5 m2 c5))
      have HB5 := Lib.hid ((HB4.out.setCell (p := ⟨bx, 0, none⟩) (by show w.heap.size ≤ bx; omega) (.slice a4 m c4)).setCell (p := ⟨bx, 1, none⟩) (by show w.heap.size ≤ bx; omega) (.slice a5 m2 c5))
      have HS5 := Lib.hid ((HO4.out.safe.set (p := ⟨bx, 0, none⟩) HLA.out (.slice a4 m c4)).set (p := ⟨bx, 1, none⟩) HLA.out (.slice a5 m2 c5))
      have HE5 := Lib.hid ((HO4.out.wait.set (p := ⟨bx, 0, none⟩) HLA.out (.slice a4 m c4)).set (p := ⟨bx, 1, none⟩) HLA.out (.slice a5 m2 c5))
      have HZ5 := Lib.hid (show w1.heap.size ≤ ((w4.setCell ⟨bx, 0, none⟩ (.slice a4 m c4)).setCell ⟨bx, 1, none⟩ (.slice a5 m2 c5)).heap.size from by simpa using HZ4.out)
      clear q0 q1 q2 q3
      generalize (w4.setCell ⟨bx, 0, none⟩ (.slice a4 m c4)).setCell ⟨bx, 1, none⟩ (.slice a5 m2 c5) = w5 at *
      have q1 : w5.cell? ⟨bx, 1, none⟩ = some (.slice a5 m2 c5) := HA5.out.cell 1 rfl
      have HN5 := Lib.hid (Hp.new w5 #[.int .i64 n, .string s] 73)
      have HEO := Lib.hid (show w5.ownsRow w1.heap.size 73 2 (.slice a5 m2 c5) m2 (scs wait) from by have h9 := HE5.out.own; rw [show (DkD.mk safe wait).wait.length = m2 from HM2.out] at h9; exact h9)
      have HESZ := Lib.hid (show ∀ x ∈ wait, x.text.size ≤ BIG from HE5.out.size)
      have c2 : m2 + 1 ≤ maxLen := by unfold maxLen; omega
      have c3 : (m2 + 1) * 24 ≤ 140737488355328 := by omega
      have HB6 := Lib.hid (below_alx (w1 := w) HB5.out (.cells #[.int .i64 n, .string s] 73))
      go_upto_region 7 with (first
        | (at_builtin; refine wpList_append_own _ rfl _ _ 23 rfl w1.heap.size 73 i0 (.agg #[.int .i64 0, .string ⟨#[]⟩]) 2 24 Try.underlying23 hi hz0 hz1 hz2 rfl (by decide) _ _ _ rfl (HEO.out.alloc _) ⟨w5.heap.size, 0, none⟩ 1 1 (SeD.cs ⟨n, s⟩) rfl rfl (cell_two_new _ ⟨n, s⟩ _) (se_one _) c2 c3 (by have := HZ5.out; simp; omega) ?_; intro v8 w8 hown8 hgrow8 _; have HB8 := Lib.hid (Below.grown (Below.refl w1.heap.size _) hgrow8 (by have := HZ5.out; simp; omega) (own_ge HEO.out)); have HO8 := Lib.hid (show OwnE w1.heap.size w8 v8 (wait ++ [⟨n, s⟩]) from ⟨by rw [List.length_append, HM2.out, scs_append]; exact hown8, fun x hx => by rcases List.mem_append.1 hx with h9 | h9; exact HESZ.out x h9; simp only [List.mem_cons, List.not_mem_nil, or_false] at h9; subst h9; exact HSZ.out, by rw [List.length_append, HM2.out]; show m2 + 1 ≤ BIG; unfold BIG; omega⟩); obtain ⟨a8, c8, hv8, _, _, _⟩ := HO8.out.at_; rw [List.length_append, HM2.out, List.length_singleton] at hv8; subst hv8; have HA8 := Lib.hid ((HA5.out.step (below_al w5 _)).below HB8.out HLA.out); have HR8 := Lib.hid ((HR5.out.step (below_al w5 _)).below HB8.out HLT.out); have HS8 := Lib.hid ((HS5.out.below (below_al w5 (.cells #[.int .i64 n, .string s] 73))).grow (HEO.out.alloc _) hgrow8); have HZ8 := Lib.hid (show w.heap.size ≤ w1.heap.size from HB1.out.size); have HBB := Lib.hid (HB6.out.grown hgrow8 (by have h9 := HZ5.out; have h8 := HB1.out.size; simp; omega) (fun k hk => Nat.le_trans HB1.out.size (own_ge HEO.out k hk))); have q5 := HA8.out.cell 1 rfl; have q6 := HA8.out.fr 1; clear hown8 hgrow8)
        | fail)
      have HA9 := Lib.hid (HA8.out.set 1 (.slice a8 (m2 + 1) c8))
      have HR9 := Lib.hid (HR8.out.far (k := bx) (c := 1) (by omega) (.slice a8 (m2 + 1) c8))
      have HS9 := Lib.hid (HS8.out.set (p := ⟨bx, 1, none⟩) HLA.out (.slice a8 (m2 + 1) c8))
      have HE9 := Lib.hid (HO8.out.set (p := ⟨bx, 1, none⟩) HLA.out (.slice a8 (m2 + 1) c8))
      have HB9 := Lib.hid (HBB.out.setCell (p := ⟨bx, 1, none⟩) (by show w.heap.size ≤ bx; omega) (.slice a8 (m2 + 1) c8))
      clear q1 q5 q6
      generalize w8.setCell ⟨bx, 1, none⟩ (.slice a8 (m2 + 1) c8) = w9 at *
      have t0 : w9.cell? ⟨bx, 0, none⟩ = some (.slice a4 m c4) := HA9.out.cell 0 rfl
      have t1 : w9.cell? ⟨bx, 1, none⟩ = some (.slice a8 (m2 + 1) c8) := HA9.out.cell 1 rfl
      have p2 := HR9.out.cell 0 rfl
      have p3 := HR9.out.cell 1 rfl
      have p4 := HR9.out.fr 0
      have p5 := HR9.out.fr 1
      go_wp2_with fail
      obtain ⟨u0, u1, hO, hB⟩ := fin2 (w := w) (d := ⟨safe, wait ++ [⟨n, s⟩]⟩) HR9.out HS9.out HE9.out HLT.out HLT.out (by omega) HB9.out
      refine bodyPost_ret (v := .tuple #[.agg #[.slice a4 m c4, .slice a8 (m2 + 1) c8], .int .i64 0]) (by simp [results, Try.results37, go_sem, u0, u1]) rfl ⟨_, _, rfl, hO, hB⟩
    · simp only [if_true]
      rw [if_neg (by decide)]
      have hyes : (400 : Int) ≤ (m2 : Int) := of_decide_eq_true h400
      have hyes2 : 400 ≤ m2 := of_decide_eq_true hbf
      go_enter Try.func37, Try.ntmps37
      go_upto_region 1 with fail
      obtain ⟨bx, hbx⟩ : ∃ b, w.heap.size = b := ⟨_, rfl⟩
      rw [hbx] at HA1 HR1
      generalize (w.alloc (.cells #[.slice sa m sc, .slice wa m2 wc] 25)).alloc (.cells #[.slice none 0 0, .slice none 0 0] 25) = w1 at *
      have q0 := HA1.out.cell 0 rfl
      have q1 := HA1.out.cell 1 rfl
      have p2 := HR1.out.cell 0 rfl
      have p3 := HR1.out.cell 1 rfl
      have p4 := HR1.out.fr 0
      have p5 := HR1.out.fr 1
      go_wp2_with (first | (go_at_call 36; refine (HNU.out _).mono ?_; rintro e w3 ⟨rfl, hw3⟩; subst hw3) | fail)
      obtain ⟨u0, u1, hO, hB⟩ := fin2 (w := w) (d := noD) HR1.out (noS_own (bx + 1 + 1) _) (noE_own (bx + 1 + 1) _) (by omega) (by omega) (by omega) HB1.out
      refine bodyPost_ret (v := .tuple #[.agg #[.slice none 0 0, .slice none 0 0], .int .i64 6]) (by simp [results, Try.results37, go_sem, u0, u1]) rfl ⟨_, _, rfl, hO, hB⟩

set_option maxRecDepth 100000 in
set_option maxHeartbeats 8000000 in
theorem rNew_any (m : Nat) (w : World) (hm : m ≤ 1000) : Calls Try.prog 14 #[.int .i64 m] w (DkP (newD m) w) := by
  obtain ⟨i0, hi, hz0, hz1, hz2⟩ := info_parts Try.infoStr
  have HBL := Lib.hid (fun wx => Blank_any wx)
  have HZS := Lib.hid (zerS_size 32)
  unfold newD
  generalize zerS 32 = Z at *
  obtain ⟨hA, hR, hB, hz⟩ := two w (.slice none 0 0) (.slice none 0 0) (.slice none 0 0) (.slice none 0 0) 25 25
  have HA1 := Lib.hid hA
  have HR1 := Lib.hid hR
  have HB1 := Lib.hid hB
  have HZ1 := Lib.hid hz
  clear hA hR hB hz
  go_enter Try.func14, Try.ntmps14
  go_upto_region 2 with fail
  obtain ⟨bx, hbx⟩ : ∃ b, w.heap.size = b := ⟨_, rfl⟩
  rw [hbx] at HA1 HR1 HZ1 ⊢
  generalize (w.alloc (.cells #[.slice none 0 0, .slice none 0 0] 25)).alloc (.cells #[.slice none 0 0, .slice none 0 0] 25) = w1 at *
  go_wp2_with fail
  go_loopw [4] (fun s4 wr => ∃ (k : Nat) (a : Option Addr) (c : Nat), s4 = .int .i64 k ∧ k ≤ m ∧ OwnS w1.heap.size wr (.slice a k c) (List.replicate k Z) ∧ Hp 25 wr bx #[.slice none 0 0, .slice none 0 0] ∧ Hp 25 wr (bx + 1) #[.slice a k c, .slice none 0 0] ∧ Below w.heap.size w wr ∧ w1.heap.size ≤ wr.heap.size) (fun s4 _ => m - (RowKit.intOf s4).toNat)
  case atStart => exact ⟨0, none, 0, rfl, Nat.zero_le _, noS_own _ _, HA1.out, HR1.out, HB1.out, Nat.le_refl _⟩
  case round =>
    obtain ⟨k, a, c, rfl, hk, hos, hha, hhr, hbr, hsz⟩ := hrel
    have HOS := Lib.hid hos
    have HHA := Lib.hid hha
    have HHR := Lib.hid hhr
    have HBR := Lib.hid hbr
    have HSZ := Lib.hid hsz
    clear hos hha hhr hbr hsz HA1 HR1 HB1
    by_cases hlt : k < m
    · have hki : (k : Int) < (m : Int) := by omega
      have c2 : k + 1 ≤ maxLen := by unfold maxLen; omega
      have c3 : (k + 1) * 16 ≤ 140737488355328 := by omega
      have HN := Lib.hid (show (svs (List.replicate k Z)).length = k from by rw [svs_length, List.length_replicate])
      have HOW := Lib.hid (show wr.ownsRow w1.heap.size 9 1 (.slice a k c) k (svs (List.replicate k Z)) from by have h9 := HOS.out.own; rw [List.length_replicate] at h9; exact h9)
      have HCE := Lib.hid (fun (wx : World) (hb : Below wr.heap.size wr wx) => (show wx.cell? ⟨bx + 1, 0, none⟩ = some (.slice a k c) ∧ wx.frozen? ⟨bx + 1, 0, none⟩ = false ∧ wx.ownsRow w1.heap.size 9 1 (.slice a k c) k (svs (List.replicate k Z)) ∧ w1.heap.size ≤ wx.heap.size ∧ bx + 1 < wx.heap.size from ⟨(HHR.out.step hb).cell 0 rfl, (HHR.out.step hb).fr 0, owns_belE HOW.out hb, Nat.le_trans HSZ.out hb.size, (HHR.out.step hb).lt⟩))
      have HFI := Lib.hid (fun (w7 : World) (hb7 : Below w1.heap.size wr w7) (g8 c8 : Nat) (ho : w7.ownsRow w1.heap.size 9 1 (.slice (some ⟨g8, 0, none⟩) (k + 1) c8) (k + 1) (svs (List.replicate k Z) ++ [.string Z])) (wx : World) (hx : wx = w7.setCell ⟨bx + 1, 0, none⟩ (.slice (some ⟨g8, 0, none⟩) (k + 1) c8) ∨ wx = (w7.setCell ⟨bx + 1, 0, none⟩ (.slice (some ⟨g8, 0, none⟩) (k + 1) c8)).drew) =>
        (show OwnS w1.heap.size wx (.slice (some ⟨g8, 0, none⟩) (k + 1) c8) (List.replicate (k + 1) Z) ∧ Hp 25 wx bx #[.slice none 0 0, .slice none 0 0] ∧ Hp 25 wx (bx + 1) #[.slice (some ⟨g8, 0, none⟩) (k + 1) c8, .slice none 0 0] ∧ Below w.heap.size w wx ∧ w1.heap.size ≤ wx.heap.size from by
          have hz1 := HZ1.out
          have h1 : OwnS w1.heap.size w7 (.slice (some ⟨g8, 0, none⟩) (k + 1) c8) (List.replicate (k + 1) Z) := ⟨by rw [List.length_replicate, show svs (List.replicate (k + 1) Z) = svs (List.replicate k Z) ++ [.string Z] from by rw [List.replicate_succ', svs_append]; rfl]; exact ho, fun x hx9 => by rw [List.eq_of_mem_replicate hx9, HZS.out]; decide, by rw [List.length_replicate]; unfold BIG; omega⟩
          have h2 := (HHA.out.below hb7 (by omega)).far (k := bx + 1) (c := 0) (by omega) (.slice (some ⟨g8, 0, none⟩) (k + 1) c8)
          have h3 := (HHR.out.below hb7 (by omega)).set 0 (.slice (some ⟨g8, 0, none⟩) (k + 1) c8)
          have h4 := (HBR.out.trans (hb7.mono (by omega))).setCell (p := ⟨bx + 1, 0, none⟩) (by show w.heap.size ≤ bx + 1; omega) (.slice (some ⟨g8, 0, none⟩) (k + 1) c8)
          have h5 : w1.heap.size ≤ (w7.setCell ⟨bx + 1, 0, none⟩ (.slice (some ⟨g8, 0, none⟩) (k + 1) c8)).heap.size := by rw [World.size_setCell]; exact Nat.le_trans HSZ.out hb7.size
          have h6 := h1.set (p := ⟨bx + 1, 0, none⟩) (by show bx + 1 < _; omega) (.slice (some ⟨g8, 0, none⟩) (k + 1) c8)
          rcases hx with rfl | rfl
          · exact ⟨h6, h2, h3, h4, h5⟩
          · exact ⟨h6.below (below_dr _), h2.step (below_dr _), h3.step (below_dr _), h4.drew, h5⟩))
      obtain ⟨y0, y1, y2, y3, y4⟩ := HCE.out wr.drew (below_dr wr)
      clear y2 y3
      go_upto_region 5 with fail
      go_region_law (first
        | (go_simp; go_at_call 30; refine (HBL.out _).mono ?_; rintro e w6 ⟨rfl, hb6⟩; have HB6 := Lib.hid ((below_dr wr).trans (hb6.mono (Nat.le_refl _))); obtain ⟨x0, x1, x2, x3, x4⟩ := HCE.out w6 HB6.out; have HX2 := Lib.hid x2; have HX3 := Lib.hid x3; clear hb6 x2 x3)
        | (refine step_append_lies _ (by rfl) _ _ _ (by rfl) w1.heap.size 9 i0 (.string ⟨#[]⟩) 1 16 Try.underlying22 hi hz0 hz1 hz2 (by rfl) (by decide) (.slice a k c) k _ (by rfl) (HX2.out.alloc _) ⟨w6.heap.size, 0, none⟩ 1 1 [.string Z] (by rfl) (by rfl) (cell_one_new _ _ _) (fun u hu => by simp only [List.mem_cons, List.not_mem_nil, or_false] at hu; subst hu; rfl) (by decide) c2 c3 (by rw [World.size_alloc]; exact Nat.le_succ_of_le HX3.out) (w6.heap.size + 1) (World.size_alloc _ _) ?_; intro g8 c8 w8 hown8 hgrow8 hat8 hlt8; have HO8 := Lib.hid hown8; have HB8 := Lib.hid ((HB6.out.mono HSZ.out).trans ((Below.alloc (Below.refl w1.heap.size w6) HX3.out (.cells #[.string Z] 9)).grown hgrow8 (by rw [World.size_alloc]; exact Nat.le_succ_of_le HX3.out) (own_ge HX2.out))); have z0 := (HHR.out.below HB8.out (by have h9 := HZ1.out; rw [h9]; exact Nat.lt_succ_self _)).cell 0 rfl; have z1 := (HHR.out.below HB8.out (by have h9 := HZ1.out; rw [h9]; exact Nat.lt_succ_self _)).fr 0; clear hown8 hgrow8 hat8 hlt8)
        | fail)
      all_goals
        go_wp2_with fail
        go_roundw
        case rel =>
          refine ⟨k + 1, some ⟨g8, 0, none⟩, c8, by go_num, by omega, ?_⟩
          exact HFI.out w8 HB8.out g8 c8 HO8.out _ (by first | exact .inl rfl | exact .inr rfl)
        case measure => simp [RowKit.intOf]; omega
    · have hkm : k = m := by omega
      subst hkm
      have q0 := HHA.out.cell 0 rfl
      have x0 := HHR.out.cell 0 rfl
      have x1 := HHR.out.cell 1 rfl
      have q1 := HHA.out.cell 1 rfl
      have q2 := HHA.out.fr 0
      have q3 := HHA.out.fr 1
      go_wp2_with fail
      obtain ⟨u0, u1, hO, hB⟩ := fin2 (w := w) (d := ⟨List.replicate k Z, []⟩) HHA.out HOS.out (noE_own w1.heap.size wr) (by have := HZ1.out; omega) (by have := HZ1.out; omega) (by omega) HBR.out
      refine bodyPost_ret (v := .agg #[.slice a k c, .slice none 0 0]) (by simp [results, Try.results14, go_sem, u0, u1]) rfl ⟨_, _, rfl, hO, hB⟩
end Go.Proofs.Ytlmfieeemkahfaa
