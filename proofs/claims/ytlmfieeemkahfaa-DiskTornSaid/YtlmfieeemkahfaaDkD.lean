/- copies of rows, of a disk; slices.Clone -/
import Derived.Test.YtlmfieeemkahfaaDkC
namespace Go.Proofs.Ytlmfieeemkahfaa
open Go.RowKit Go.Lib

theorem cell_two_new (w : World) (e : SeD) (t : TypeId) : ∀ j u, (SeD.cs e)[j]? = some u → (w.alloc (.cells #[.int .i64 e.pl, .string e.text] t)).cell? ((⟨w.heap.size, 0, none⟩ : Addr).add j) = some u := by
  intro j u hu
  rw [Addr.add_lit, Nat.zero_add, World.cell?_alloc_new]
  rw [← hu]
  show (#[Value.int .i64 e.pl, .string e.text] : Array Value)[j]? = [Value.int .i64 e.pl, .string e.text][j]?
  simp
theorem OwnS.set {base : Nat} {w : World} {v : Value} {l : List ByteArray} (h : OwnS base w v l) {p : Addr} (hp : p.block < base) (x : Value) : OwnS base (w.setCell p x) v l := ⟨ownsRow_setCell_below h.own hp x, h.size, h.len⟩
theorem OwnE.set {base : Nat} {w : World} {v : Value} {l : List SeD} (h : OwnE base w v l) {p : Addr} (hp : p.block < base) (x : Value) : OwnE base (w.setCell p x) v l := ⟨ownsRow_setCell_below h.own hp x, h.size, h.len⟩
theorem OwnS.base {b b' : Nat} {w : World} {v : Value} {l : List ByteArray} (h : OwnS b w v l) (hb : b' ≤ b) : OwnS b' w v l := ⟨owns_base h.own hb, h.size, h.len⟩
theorem OwnE.base {b b' : Nat} {w : World} {v : Value} {l : List SeD} (h : OwnE b w v l) (hb : b' ≤ b) : OwnE b' w v l := ⟨owns_base h.own hb, h.size, h.len⟩
theorem three (w : World) (a b c d e f : Value) (t t2 t3 : TypeId) : Hp t (((w.alloc (.cells #[a, b] t)).alloc (.cells #[c, d] t2)).alloc (.cells #[e, f] t3)) w.heap.size #[a, b] ∧ Hp t2 (((w.alloc (.cells #[a, b] t)).alloc (.cells #[c, d] t2)).alloc (.cells #[e, f] t3)) (w.heap.size + 1) #[c, d] ∧ Hp t3 (((w.alloc (.cells #[a, b] t)).alloc (.cells #[c, d] t2)).alloc (.cells #[e, f] t3)) (w.heap.size + 1 + 1) #[e, f] ∧ Below w.heap.size w (((w.alloc (.cells #[a, b] t)).alloc (.cells #[c, d] t2)).alloc (.cells #[e, f] t3)) := by
  have h1 := Hp.new w #[a, b] t
  have z1 : (w.alloc (.cells #[a, b] t)).heap.size = w.heap.size + 1 := World.size_alloc _ _
  generalize hw1 : w.alloc (.cells #[a, b] t) = w1 at *
  have b1 : Below w.heap.size w w1 := hw1 ▸ below_al w _
  have h2 := Hp.new w1 #[c, d] t2
  have z2 : (w1.alloc (.cells #[c, d] t2)).heap.size = w.heap.size + 1 + 1 := by rw [World.size_alloc, z1]
  rw [z1] at h2
  have h1' := h1.step (below_al w1 (.cells #[c, d] t2))
  generalize hw2 : w1.alloc (.cells #[c, d] t2) = w2 at *
  have b2 : Below w.heap.size w w2 := hw2 ▸ below_alx b1 _
  have h3 := Hp.new w2 #[e, f] t3
  rw [z2] at h3
  exact ⟨h1'.step (below_al w2 _), h2.step (below_al w2 _), h3, below_alx b2 _⟩
theorem strs_sz {w : World} {a : Option Addr} {l : List ByteArray} (h : StrsAt w a l) : ∀ x ∈ l, x.size ≤ BIG := fun x hx => by
  obtain ⟨j, hj, rfl⟩ := List.mem_iff_getElem.1 hx
  exact h.size j hj
theorem secs_sz {w : World} {a : Option Addr} {l : List SeD} (h : SecsAt w a l) : ∀ x ∈ l, x.text.size ≤ BIG := fun x hx => by
  obtain ⟨j, hj, rfl⟩ := List.mem_iff_getElem.1 hx
  exact h.size j hj

set_option maxRecDepth 100000 in
set_option maxHeartbeats 1000000 in
theorem CopyStrings_any (a : Option Addr) (ca : Nat) (l : List ByteArray) (w : World) (ha : StrsAt w a l) (hl : l.length ≤ 1000000) : Calls Try.prog 31 #[.slice a l.length ca] w fun e w' => ∃ v, e = .returned v ∧ OwnS w.heap.size w' v l ∧ Below w.heap.size w w' := by
  obtain ⟨i0, hi, hz0, hz1, hz2⟩ := info_parts Try.infoStr
  have HA := Lib.hid ha
  clear ha
  go_enter Try.func31, Try.ntmps31
  go_wp2
  go_loopw [3, 4] (fun v i wr => ∃ k : Nat, k ≤ l.length ∧ i = .int .i64 k ∧ wr.ownsRow w.heap.size 9 1 v k (svs (l.take k)) ∧ Below w.heap.size w wr) (fun _ i _ => l.length - (RowKit.intOf i).toNat)
  case atStart => exact ⟨0, by omega, rfl, World.ownsRow_nil _ _ _ _, Below.refl _ _⟩
  case round =>
    obtain ⟨k, hk, rfl, hown, hbel⟩ := hrel
    by_cases hlt : k < l.length
    · obtain ⟨b1, o1, h1, hb1, hc1⟩ := HA.out.cell k hlt
      have hr1 := (hbel.cell (p := ⟨b1, o1 + k, none⟩) hb1).trans hc1
      have HT := Lib.hid (List.take_succ_eq_append_getElem hlt)
      clear hc1
      generalize l[k] = e at *
      subst h1
      have c2 : k + 1 ≤ maxLen := by unfold maxLen; omega
      have c3 : (k + 1) * 16 ≤ 140737488355328 := by omega
      go_wp2_with (first | (at_builtin; refine wpList_append_own _ rfl _ _ 22 rfl w.heap.size 9 i0 (.string ⟨#[]⟩) 1 16 Try.underlying22 hi hz0 hz1 hz2 rfl (by decide) _ _ _ rfl (hown.alloc _) ⟨wr.heap.size, 0, none⟩ 1 1 [.string e] rfl rfl (cell_one_new _ _ _) (by intro u hu; simp only [List.mem_cons, List.not_mem_nil, or_false] at hu; subst hu; rfl) c2 c3 (by have := hbel.size; simp; omega) ?_) | fail)
      intro v2 w2 hown2 hgrow2 _
      have hb2 : Below w.heap.size w w2 := (hbel.alloc hbel.size _).grown hgrow2 (by have := hbel.size; simp; omega) (own_ge hown)
      have hown3 : w2.ownsRow w.heap.size 9 1 v2 (k + 1) (svs (l.take (k + 1))) := by
        rw [HT.out, svs_append]
        exact hown2
      clear hown hown2 hgrow2
      go_wp2
      go_roundw
      case rel => exact ⟨k + 1, by omega, by go_num, hown3, hb2⟩
      case measure => simp [RowKit.intOf]; omega
    · have hown3 : wr.ownsRow w.heap.size 9 1 u3 l.length (svs l) := by
        have h0 : k = l.length := by omega
        rw [h0, List.take_length] at hown
        exact hown
      have HO := Lib.hid hown3
      clear hown hown3
      go_wp2
      go_ret
      exact ⟨_, rfl, ⟨HO.out, strs_sz HA.out, HA.out.len⟩, hbel⟩

set_option maxRecDepth 100000 in
set_option maxHeartbeats 1000000 in
theorem CopyNumbers_any (a : Option Addr) (ca : Nat) (l : List Int) (w : World) (ha : NumsAt w a l) (hl : l.length ≤ 1000000) : Calls Try.prog 34 #[.slice a l.length ca] w fun e w' => ∃ v, e = .returned v ∧ OwnN w.heap.size w' v l ∧ Below w.heap.size w w' := by
  obtain ⟨i0, hi, hz0, hz1, hz2⟩ := info_parts Try.infoInt
  have HA := Lib.hid ha
  clear ha
  go_enter Try.func34, Try.ntmps34
  go_wp2
  go_loopw [3, 4] (fun v i wr => ∃ k : Nat, k ≤ l.length ∧ i = .int .i64 k ∧ wr.ownsRow w.heap.size 3 1 v k (nvs (l.take k)) ∧ Below w.heap.size w wr) (fun _ i _ => l.length - (RowKit.intOf i).toNat)
  case atStart => exact ⟨0, by omega, rfl, World.ownsRow_nil _ _ _ _, Below.refl _ _⟩
  case round =>
    obtain ⟨k, hk, rfl, hown, hbel⟩ := hrel
    by_cases hlt : k < l.length
    · obtain ⟨b1, o1, h1, hb1, hc1⟩ := HA.out.cell k hlt
      have hr1 := (hbel.cell (p := ⟨b1, o1 + k, none⟩) hb1).trans hc1
      have HT := Lib.hid (List.take_succ_eq_append_getElem hlt)
      clear hc1
      generalize l[k] = e at *
      subst h1
      have c2 : k + 1 ≤ maxLen := by unfold maxLen; omega
      have c3 : (k + 1) * 8 ≤ 140737488355328 := by omega
      go_wp2_with (first | (at_builtin; refine wpList_append_own _ rfl _ _ 42 rfl w.heap.size 3 i0 (.int .i64 0) 1 8 Try.underlying42 hi hz0 hz1 hz2 rfl (by decide) _ _ _ rfl (hown.alloc _) ⟨wr.heap.size, 0, none⟩ 1 1 [.int .i64 e] rfl rfl (cell_one_new _ _ _) (ints_oneCell .i64 [e]) c2 c3 (by have := hbel.size; simp; omega) ?_) | fail)
      intro v2 w2 hown2 hgrow2 _
      have hb2 : Below w.heap.size w w2 := (hbel.alloc hbel.size _).grown hgrow2 (by have := hbel.size; simp; omega) (own_ge hown)
      have hown3 : w2.ownsRow w.heap.size 3 1 v2 (k + 1) (nvs (l.take (k + 1))) := by
        rw [HT.out, nvs_append]
        exact hown2
      clear hown hown2 hgrow2
      go_wp2
      go_roundw
      case rel => exact ⟨k + 1, by omega, by go_num, hown3, hb2⟩
      case measure => simp [RowKit.intOf]; omega
    · have hown3 : wr.ownsRow w.heap.size 3 1 u3 l.length (nvs l) := by
        have h0 : k = l.length := by omega
        rw [h0, List.take_length] at hown
        exact hown
      have HO := Lib.hid hown3
      clear hown hown3
      go_wp2
      go_ret
      exact ⟨_, rfl, ⟨HO.out, HA.out.len⟩, hbel⟩

set_option maxRecDepth 100000 in
set_option maxHeartbeats 1000000 in
theorem CopySectors_any (a : Option Addr) (ca : Nat) (l : List SeD) (w : World) (ha : SecsAt w a l) (hl : l.length ≤ 1000000) : Calls Try.prog 32 #[.slice a l.length ca] w fun e w' => ∃ v, e = .returned v ∧ OwnE w.heap.size w' v l ∧ Below w.heap.size w w' := by
  obtain ⟨i0, hi, hz0, hz1, hz2⟩ := info_parts Try.infoSec
  have HA := Lib.hid ha
  clear ha
  go_enter Try.func32, Try.ntmps32
  go_wp2
  go_loopw [3, 4] (fun v i wr => ∃ k : Nat, k ≤ l.length ∧ i = .int .i64 k ∧ wr.ownsRow w.heap.size 73 2 v k (scs (l.take k)) ∧ Below w.heap.size w wr) (fun _ i _ => l.length - (RowKit.intOf i).toNat)
  case atStart => exact ⟨0, by omega, rfl, World.ownsRow_nil _ _ _ _, Below.refl _ _⟩
  case round =>
    obtain ⟨k, hk, rfl, hown, hbel⟩ := hrel
    by_cases hlt : k < l.length
    · obtain ⟨b1, o1, h1, hb1, hc1, hc2⟩ := HA.out.cell k hlt
      have hr1 := (hbel.cell (p := ⟨b1, o1 + k * 2, none⟩) hb1).trans hc1
      have hr2 := (hbel.cell (p := ⟨b1, o1 + k * 2 + 1, none⟩) hb1).trans hc2
      have HT := Lib.hid (List.take_succ_eq_append_getElem hlt)
      clear hc1 hc2
      generalize l[k] = e at *
      subst h1
      have c2 : k + 1 ≤ maxLen := by unfold maxLen; omega
      have c3 : (k + 1) * 24 ≤ 140737488355328 := by omega
      go_wp2_with (first | (at_builtin; refine wpList_append_own _ rfl _ _ 23 rfl w.heap.size 73 i0 (.agg #[.int .i64 0, .string ⟨#[]⟩]) 2 24 Try.underlying23 hi hz0 hz1 hz2 rfl (by decide) _ _ _ rfl (hown.alloc _) ⟨wr.heap.size, 0, none⟩ 1 1 (SeD.cs e) rfl rfl (cell_two_new _ e _) (se_one e) c2 c3 (by have := hbel.size; simp; omega) ?_) | fail)
      intro v2 w2 hown2 hgrow2 _
      have hb2 : Below w.heap.size w w2 := (hbel.alloc hbel.size _).grown hgrow2 (by have := hbel.size; simp; omega) (own_ge hown)
      have hown3 : w2.ownsRow w.heap.size 73 2 v2 (k + 1) (scs (l.take (k + 1))) := by
        rw [HT.out, scs_append, (show scs [e] = SeD.cs e from by simp [scs])]
        exact hown2
      clear hown hown2 hgrow2
      go_wp2
      go_roundw
      case rel => exact ⟨k + 1, by omega, by go_num, hown3, hb2⟩
      case measure => simp [RowKit.intOf]; omega
    · have hown3 : wr.ownsRow w.heap.size 73 2 u3 l.length (scs l) := by
        have h0 : k = l.length := by omega
        rw [h0, List.take_length] at hown
        exact hown
      have HO := Lib.hid hown3
      clear hown hown3
      go_wp2
      go_ret
      exact ⟨_, rfl, ⟨HO.out, secs_sz HA.out, HA.out.len⟩, hbel⟩

set_option maxRecDepth 100000 in
set_option maxHeartbeats 2000000 in
theorem CopyDisk_any (d : DkD) (sa wa : Option Addr) (sc wc : Nat) (w : World) (h : DkAt w d sa wa) (hl : d.safe.length ≤ 1000000) (hl2 : d.wait.length ≤ 1000000) : Calls Try.prog 16 #[d.v sa sc wa wc] w (DkP d w) := by
  have HS := Lib.hid (fun wx (hb : Below w.heap.size w wx) => CopyStrings_any sa sc d.safe wx (h.safe.below hb) hl)
  have HW := Lib.hid (fun wx (hb : Below w.heap.size w wx) => CopySectors_any wa wc d.wait wx (h.wait.below hb) hl2)
  clear h
  unfold DkD.v at *
  obtain ⟨safe, wait⟩ := d
  simp only at *
  have hb3 : ∀ o1 o2 o3, Below w.heap.size w (((w.alloc o1).alloc o2).alloc o3) := fun o1 o2 o3 => below_alx (below_alx (below_al w o1) o2) o3
  have HB3 := Lib.hid hb3
  clear hb3
  go_enter Try.func16, Try.ntmps16
  go_upto_region 2 with fail
  obtain ⟨hA, hB, hC, hbw⟩ := three w (.slice sa safe.length sc) (.slice wa wait.length wc) (.slice none 0 0) (.slice none 0 0) (.slice sa safe.length sc) (.slice wa wait.length wc) 25 25 25
  generalize ((w.alloc (.cells #[.slice sa safe.length sc, .slice wa wait.length wc] 25)).alloc (.cells #[.slice none 0 0, .slice none 0 0] 25)).alloc (.cells #[.slice sa safe.length sc, .slice wa wait.length wc] 25) = W3 at *
  obtain ⟨b0, hb0⟩ : ∃ b, w.heap.size = b := ⟨_, rfl⟩
  rw [hb0] at hA hB hC
  have HA := Lib.hid hA
  have HB := Lib.hid hB
  have HC := Lib.hid hC
  have HBW := Lib.hid hbw
  have q0 := hA.cell 0 rfl
  have q1 := hA.cell 1 rfl
  clear hA hB hC hbw
  have n1 : ¬ b0 = b0 + 1 + 1 := by omega
  go_upto_region 3 with (first
    | (go_at_call 31; refine (HS.out _ HBW.out).mono ?_; rintro e w4 ⟨v4, rfl, how4, hb4⟩; obtain ⟨a4, c4, rfl, _, _, _⟩ := how4.at_; have HO4 := Lib.hid how4; have HA4 := Lib.hid (HA.out.step hb4); have HC4 := Lib.hid (HC.out.step hb4); have HB4 := Lib.hid (HB.out.step hb4); have HW4 := Lib.hid (HBW.out.trans (hb4.mono HBW.out.size)); have p0 := HC4.out.cell 0 rfl; have p1 := HC4.out.fr 0; have HZ := Lib.hid (show b0 ≤ W3.heap.size from Nat.le_of_lt HA.out.lt); have HZ2 := Lib.hid (show b0 + 1 + 1 < W3.heap.size from HC.out.lt); clear how4 hb4 q0 q1)
    | fail)
  have HO5 := Lib.hid (HO4.out.set (p := ⟨b0 + 1 + 1, 0, none⟩) HZ2.out (.slice a4 safe.length c4))
  have HA5 := Lib.hid (HA4.out.far (c := 0) n1 (.slice a4 safe.length c4))
  have HC5 := Lib.hid (HC4.out.set 0 (.slice a4 safe.length c4))
  have n2 : ¬ b0 + 1 = b0 + 1 + 1 := by omega
  have HB5 := Lib.hid (HB4.out.far (c := 0) n2 (.slice a4 safe.length c4))
  have HW5 := Lib.hid (HW4.out.setCell (p := ⟨b0 + 1 + 1, 0, none⟩) (by show w.heap.size ≤ b0 + 1 + 1; omega) (.slice a4 safe.length c4))
  clear p0 p1
  generalize w4.setCell ⟨b0 + 1 + 1, 0, none⟩ (.slice a4 safe.length c4) = w5 at *
  have q1 : w5.cell? ⟨b0, 1, none⟩ = some (.slice wa wait.length wc) := HA5.out.cell 1 rfl
  go_upto_region 4 with (first
    | (go_at_call 32; refine (HW.out _ HW5.out).mono ?_; rintro e w6 ⟨v6, rfl, how6, hb6⟩; obtain ⟨a6, c6, rfl, _, _, _⟩ := how6.at_; have HO6 := Lib.hid how6; have HS6 := Lib.hid (HO5.out.below hb6); have HC6 := Lib.hid (HC5.out.step hb6); have HB6 := Lib.hid (HB5.out.step hb6); have HW6 := Lib.hid (HW5.out.trans (hb6.mono HW5.out.size)); have p0 := HC6.out.cell 1 rfl; have p1 := HC6.out.fr 1; have HZ5 := Lib.hid (show b0 + 1 + 1 < w5.heap.size from HC5.out.lt); clear how6 hb6 q1)
    | fail)
  have HO7 := Lib.hid (HO6.out.set (p := ⟨b0 + 1 + 1, 1, none⟩) HZ5.out (.slice a6 wait.length c6))
  have HS7 := Lib.hid (HS6.out.set (p := ⟨b0 + 1 + 1, 1, none⟩) HZ2.out (.slice a6 wait.length c6))
  have HC7 := Lib.hid (HC6.out.set 1 (.slice a6 wait.length c6))
  have HB7 := Lib.hid (HB6.out.far (c := 1) n2 (.slice a6 wait.length c6))
  have HW7 := Lib.hid (HW6.out.setCell (p := ⟨b0 + 1 + 1, 1, none⟩) (by show w.heap.size ≤ b0 + 1 + 1; omega) (.slice a6 wait.length c6))
  clear p0 p1
  generalize w6.setCell ⟨b0 + 1 + 1, 1, none⟩ (.slice a6 wait.length c6) = w7 at *
  have r0 : w7.cell? ⟨b0 + 1 + 1, 0, none⟩ = some (.slice a4 safe.length c4) := HC7.out.cell 0 rfl
  have r1 : w7.cell? ⟨b0 + 1 + 1, 1, none⟩ = some (.slice a6 wait.length c6) := HC7.out.cell 1 rfl
  have r2 := HB7.out.cell 0 rfl
  have r3 := HB7.out.cell 1 rfl
  have r4 := HB7.out.fr 0
  have r5 := HB7.out.fr 1
  have HZB := Lib.hid (show b0 + 1 < W3.heap.size from HB.out.lt)
  have HZC := Lib.hid (show b0 + 1 < w5.heap.size from HB5.out.lt)
  have HB8 := Lib.hid ((HB7.out.set 0 (.slice a4 safe.length c4)).set 1 (.slice a6 wait.length c6))
  have HSX := Lib.hid (((HS7.out.set (p := ⟨b0 + 1, 0, none⟩) HZB.out (.slice a4 safe.length c4)).set (p := ⟨b0 + 1, 1, none⟩) HZB.out (.slice a6 wait.length c6)).base (b' := w.heap.size) (by rw [hb0]; exact HZ.out))
  have HEX := Lib.hid (((HO7.out.set (p := ⟨b0 + 1, 0, none⟩) HZC.out (.slice a4 safe.length c4)).set (p := ⟨b0 + 1, 1, none⟩) HZC.out (.slice a6 wait.length c6)).base (b' := w.heap.size) HW5.out.size)
  have HWX := Lib.hid ((HW7.out.setCell (p := ⟨b0 + 1, 0, none⟩) (by show w.heap.size ≤ b0 + 1; omega) (.slice a4 safe.length c4)).setCell (p := ⟨b0 + 1, 1, none⟩) (by show w.heap.size ≤ b0 + 1; omega) (.slice a6 wait.length c6))
  go_wp2
  have u0 := HB8.out.cell 0 rfl
  have u1 := HB8.out.cell 1 rfl
  refine bodyPost_ret (v := .agg #[.slice a4 safe.length c4, .slice a6 wait.length c6]) (by simp [results, Try.results16, go_sem, u0, u1]) rfl ⟨_, _, rfl, ⟨HSX.out, HEX.out⟩, HWX.out⟩
end Go.Proofs.Ytlmfieeemkahfaa
