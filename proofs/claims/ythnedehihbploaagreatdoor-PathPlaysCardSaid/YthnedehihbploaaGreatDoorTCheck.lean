/- tree.Check, tree.Order -/
import Derived.Test.YthnedehihbploaaGreatDoorTTake
import Derived.Test.YthnedehihbploaaGreatDoorTHangs
namespace Go.Proofs.YthnedehihbploaaGreatDoor
open Go.RowKit Go.Lib

open Classical in
noncomputable def rowB (l : List OpD) : Bool := decide (rowP l)
theorem rowB_iff (l : List OpD) : rowB l = true ↔ rowP l := by simp [rowB]
theorem rowB_no {l : List OpD} (h : ¬ rowP l) : rowB l = false := by simp [rowB, h]
theorem ah_new (w : World) : AhAt ((w.alloc (.map #[] 0)).alloc (.cells #[.map (some w.heap.size), .int .i64 0, .int .i64 0, .int .i64 0, .int .i64 0, .int .i64 0, .int .i64 0, .int .i64 0, .int .i64 0, .int .i64 0, .int .i64 0] 158)) w.heap.size (w.heap.size + 1) w.heap.size [] := by
  have hs : (w.alloc (.map #[] 0)).heap.size = w.heap.size + 1 := by simp
  refine ⟨?_, ?_, by omega, by omega, by omega⟩
  · have h := heap_alloc_new (w.alloc (.map #[] 0)) (.cells #[.map (some w.heap.size), .int .i64 0, .int .i64 0, .int .i64 0, .int .i64 0, .int .i64 0, .int .i64 0, .int .i64 0, .int .i64 0, .int .i64 0, .int .i64 0] 158)
    rw [hs] at h
    exact h
  · have h := MapE.made w
    have h2 := h.kept (w' := (w.alloc (.map #[] 0)).alloc (.cells #[.map (some w.heap.size), .int .i64 0, .int .i64 0, .int .i64 0, .int .i64 0, .int .i64 0, .int .i64 0, .int .i64 0, .int .i64 0, .int .i64 0, .int .i64 0] 158)) (heap_alloc_old _ _ h.lt)
    exact h2
theorem os_take (l : List OpR) (k : Nat) : (OpR.os l).take k = OpR.os (l.take k) := by simp [OpR.os]
theorem okRow_snoc {l : List OpR} {k : Nat} (hk : k < l.length) (h : okRow ((OpR.os l).take k)) (ht : tk ((OpR.os l).take k) l[k].o = true) : okRow ((OpR.os l).take (k + 1)) := by
  have hlen : (OpR.os l).length = l.length := by simp [OpR.os]
  intro j hj
  rw [List.length_take] at hj
  rw [List.take_take, Nat.min_eq_left (by omega), List.getElem_take]
  by_cases hjk : j = k
  · subst hjk
    have : (OpR.os l)[j]'(by omega) = l[j].o := by simp [OpR.os]
    rw [this]
    exact ht
  · have h2 := h j (by rw [List.length_take]; omega)
    rw [List.take_take, Nat.min_eq_left (by omega), List.getElem_take] at h2
    exact h2
theorem not_row {l : List OpR} {k : Nat} (hk : k < l.length) (ht : tk ((OpR.os l).take k) l[k].o = false) : ¬ rowP (OpR.os l) := by
  rintro ⟨_, h⟩
  have h2 := h k (by simp [OpR.os]; exact hk)
  have : (OpR.os l)[k]'(by simp [OpR.os]; exact hk) = l[k].o := by simp [OpR.os]
  rw [this, ht] at h2
  cases h2
set_option maxRecDepth 100000 in
set_option maxHeartbeats 2000000 in
theorem tCheck_any (a : Option Addr) (cap : Nat) (l : List OpR) (w : World) (h : OpsAt w a l) : Calls Tryz.prog 97 #[.slice a l.length cap] w (IntB (errO (rowB (OpR.os l))) w) := by
  have hbig := h.len
  have hbi := big_is
  obtain ⟨n, hn⟩ : ∃ n, l.length = n := ⟨_, rfl⟩
  have HN := Lib.hid hn
  by_cases h40 : n ≤ 40
  · have HH := Lib.hid h
    rw [hn]
    clear h hn hbig hbi
    have HA := Lib.hid (ah_new w)
    have HB := Lib.hid (show Below w.heap.size w ((w.alloc (.map #[] 0)).alloc (.cells #[.map (some w.heap.size), .int .i64 0, .int .i64 0, .int .i64 0, .int .i64 0, .int .i64 0, .int .i64 0, .int .i64 0, .int .i64 0, .int .i64 0, .int .i64 0] 158)) from ((Below.refl _ _).alloc (Nat.le_refl _) _).alloc (by simp) _)
    have hmk : (Instr.makeMap 114 none).run Tryz.prog w = .ok (.map (some w.heap.size)) (w.alloc (.map #[] 0)) := run_makeMap _ w
    go_enter Tryz.func97, Tryz.ntmps97
    go_wp2_with fail
    clear hmk
    go_loopw [13] (fun s13 wr => ∃ k : Nat, s13 = .int .i64 k ∧ k ≤ n ∧ AhAt wr w.heap.size (w.heap.size + 1) w.heap.size ((OpR.os l).take k) ∧ Below w.heap.size w wr ∧ okRow ((OpR.os l).take k)) (fun s13 _ => n - (RowKit.intOf s13).toNat)
    case atStart => exact ⟨0, rfl, Nat.zero_le _, HA.out, HB.out, fun k hk => absurd hk (by simp)⟩
    case round =>
      clear HA HB
      obtain ⟨k, rfl, hk, hah, hb, hrow⟩ := hrel
      by_cases hlt : k < n
      · have hkl : k < l.length := by rw [HN.out]; exact hlt
        obtain ⟨b, off, rfl, hbb, c0, c1, c2, c3, c4, c5, c6, c7, c8, c9, ca⟩ := (HH.out.below hb).cells k hkl
        have hoa := (HH.out.below hb).op k hkl
        have HR1 := Lib.hid (fun ht => okRow_snoc hkl hrow ht)
        have HR2 := Lib.hid (fun ht => not_row (l := l) hkl ht)
        have HTK := Lib.hid (show (OpR.os l).take (k + 1) = (OpR.os l).take k ++ [l[k].o] from by rw [List.take_succ_eq_append_getElem (by simp [OpR.os]; exact hkl)]; simp [OpR.os])
        have htot := row_tot hrow
        have hlk : ((OpR.os l).take k).length ≤ 40 := by rw [List.length_take]; omega
        generalize (OpR.os l).take k = lk at *
        have HT := Lib.hid (fun wx (hx : Below wr.heap.size wr wx) => tTake_any w.heap.size (w.heap.size + 1) w.heap.size lk l[k].o l[k].a l[k].cap wx (hah.below hx) ⟨hoa.gone.below hx, hoa.len, hoa.size⟩ hlk htot)
        have HBW := Lib.hid hb
        have hbz := hb.size
        clear hah hoa hrow hb htot hlk
        generalize l[k] = r at *
        clear hkl
        obtain ⟨⟨site, seq, kind, ⟨es, eq, ei⟩, text, gone, of, num, gen⟩, ra, rc⟩ := r
        unfold OpD.v at HT
        simp only at c0 c1 c2 c3 c4 c5 c6 c7 c8 c9 ca HT HR1 HR2 HTK
        go_wp2_with (first
          | (go_at_call 115; refine (HT.out _ ((Below.refl _ _).alloc (Nat.le_refl _) _)).mono ?_; rintro x5 w5 ⟨hres, hb5⟩; have HB5 := Lib.hid ((HBW.out.alloc hbz _).trans hb5); clear hb5; rcases hres with ⟨ht5, rfl, ha5⟩ | ⟨ht5, rfl⟩)
          | fail)
        · have HA5 := Lib.hid ha5
          have HR5 := Lib.hid (HR1.out ht5)
          clear ha5 ht5
          go_wp2_with fail
          go_roundw
          case rel => exact ⟨k + 1, by go_num, by omega, by rw [HTK.out]; exact HA5.out, HB5.out, HR5.out⟩
          case measure => simp [RowKit.intOf]; omega
        · have HF := Lib.hid (rowB_no (HR2.out ht5))
          clear ht5
          go_wp2_with fail
          go_ret
          refine ⟨?_, HB5.out⟩
          rw [HF.out]
          rfl
      · have h0 : k = n := by omega
        have HF := Lib.hid ((rowB_iff (OpR.os l)).2 ⟨by simp [OpR.os, HN.out]; exact h40, by rw [List.take_of_length_le (by simp [OpR.os, HN.out, h0])] at hrow; exact hrow⟩)
        clear hah hrow
        go_wp2
        go_ret
        refine ⟨?_, hb⟩
        rw [HF.out]
        rfl
  · have HF := Lib.hid (rowB_no (l := OpR.os l) (fun hr => by have := hr.1; simp [OpR.os, hn] at this; omega))
    rw [hn]
    have h41 : (40 : Int) < (n : Int) := by omega
    clear h hn
    go_enter Tryz.func97, Tryz.ntmps97
    go_wp2
    go_ret
    refine ⟨?_, Below.refl _ _⟩
    rw [HF.out]
    rfl

/-- the elements in order -/
def ordE (l : List OpD) : List El := (ordT l).map (fun u => u.nd.e)
def OrdPost (l : List OpD) (w : World) (e : Ending) (w' : World) : Prop := ∃ v, e = .returned (.tuple #[v, .int .i64 0]) ∧ w'.ownsRow w.heap.size 37 3 v (ordE l).length (ecs (ordE l)) ∧ Below w.heap.size w w'
def OrdNo (w : World) (e : Ending) (w' : World) : Prop := e = .returned (.tuple #[.slice none 0 0, .int .i64 1]) ∧ Below w.heap.size w w'
theorem ord_fit {l : List OpD} (h : RInv l) (hc : ∀ s, cnt l s ≤ 40) : ∀ u ∈ ordT l, u.nd.e.fit := by
  intro u hu
  obtain ⟨i, hi⟩ := List.mem_iff_getElem?.1 hu
  obtain ⟨h1, c, h2, h3⟩ := (h.mem u.nd.e).1 ⟨i, u, hi, rfl⟩
  have h4 := h.edk _ _ h2
  have h5 := hc u.nd.e.w.s
  unfold El.w at h4 h5
  simp only at h4 h5
  unfold El.fit in64
  omega
set_option maxRecDepth 100000 in
set_option maxHeartbeats 2000000 in
theorem tOrder_ok (a : Option Addr) (cap : Nat) (l : List OpR) (w : World) (h : OpsAt w a l) (hr : rowP (OpR.os l)) : Calls Tryz.prog 70 #[.slice a l.length cap] w (OrdPost (OpR.os l) w) := by
  have HC := Lib.hid (tCheck_any a cap l w h)
  rw [(rowB_iff _).2 hr] at HC
  have hlen : l.length ≤ 40 := by have := hr.1; simp [OpR.os] at this; exact this
  have hinv := row_inv hr.2 (OpR.os l).length (Nat.le_refl _)
  rw [List.take_length] at hinv
  have htot := row_tot hr.2
  have hok : ∀ r ∈ l, okOp r.o = true := by
    intro r hm
    obtain ⟨k, hk, rfl⟩ := List.getElem_of_mem hm
    have h1 := hr.2 k (by simp [OpR.os]; exact hk)
    unfold tk at h1
    rw [Bool.and_eq_true] at h1
    have h2 := h1.1
    simpa [OpR.os] using h2
  have hcnt : ∀ s, cnt (OpR.os l) s ≤ 40 := fun s => Nat.le_trans (cnt_le _ _) hr.1
  have HH := Lib.hid (fun wx hx => xHang_any a cap l wx (h.below hx) hok hlen htot)
  have HW := Lib.hid (fun bm wx (hx : Grp wx bm (allT (OpR.os l))) => xWalk_any bm _ (ordT (OpR.os l)) wx hx hinv.perm.symm hinv.ord (by rw [hinv.len]; exact htot) (ord_fit hinv hcnt))
  have he0 : errO true = 0 := rfl
  rw [he0] at HC
  clear h hr hlen hinv htot hok hcnt he0
  generalize l.length = n at *
  go_enter Tryz.func70, Tryz.ntmps70
  go_wp2_with (first
    | (go_at_call 97; refine HC.out.mono ?_; rintro x1 w1 ⟨rfl, hb1⟩; have HB1 := Lib.hid hb1; clear hb1)
    | (go_at_call 99; refine (HH.out w1 HB1.out).mono ?_; rintro x2 w2 ⟨bm, rfl, hg2, hb2⟩; have HG2 := Lib.hid hg2; have HB2 := Lib.hid (HB1.out.trans (hb2.mono HB1.out.size)); clear hg2 hb2)
    | (go_at_call 98; refine (HW.out bm w2 HG2.out).mono ?_; rintro x3 w3 ⟨v3, rfl, hown3, hb3⟩; have HO3 := Lib.hid (owns_base hown3 HB2.out.size); have HB3 := Lib.hid (HB2.out.trans (hb3.mono HB2.out.size)); clear hown3 hb3)
    | fail)
  go_ret2
  exact ⟨v3, rfl, HO3.out, HB3.out⟩
set_option maxRecDepth 100000 in
set_option maxHeartbeats 2000000 in
theorem tOrder_bad (a : Option Addr) (cap : Nat) (l : List OpR) (w : World) (h : OpsAt w a l) (hr : ¬ rowP (OpR.os l)) : Calls Tryz.prog 70 #[.slice a l.length cap] w (OrdNo w) := by
  have HC := Lib.hid (tCheck_any a cap l w h)
  rw [rowB_no hr] at HC
  have he0 : errO false = 1 := rfl
  rw [he0] at HC
  clear h hr he0
  generalize l.length = n at *
  go_enter Tryz.func70, Tryz.ntmps70
  go_wp2_with (first
    | (go_at_call 97; refine HC.out.mono ?_; rintro x1 w1 ⟨rfl, hb1⟩; have HB1 := Lib.hid hb1; clear hb1)
    | fail)
  go_ret2
  exact ⟨rfl, HB1.out⟩
end Go.Proofs.YthnedehihbploaaGreatDoor
