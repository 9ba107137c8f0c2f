/- disk.Put -/
import Derived.Test.YtlmfieeemkahfaaDkG
namespace Go.Proofs.Ytlmfieeemkahfaa
open Go.RowKit Go.Lib

theorem two (w : World) (a b c d : Value) (t t2 : TypeId) : Hp t ((w.alloc (.cells #[a, b] t)).alloc (.cells #[c, d] t2)) w.heap.size #[a, b] ∧ Hp t2 ((w.alloc (.cells #[a, b] t)).alloc (.cells #[c, d] t2)) (w.heap.size + 1) #[c, d] ∧ Below w.heap.size w ((w.alloc (.cells #[a, b] t)).alloc (.cells #[c, d] t2)) ∧ ((w.alloc (.cells #[a, b] t)).alloc (.cells #[c, d] t2)).heap.size = w.heap.size + 1 + 1 := by
  have h1 := Hp.new w #[a, b] t
  have z1 : (w.alloc (.cells #[a, b] t)).heap.size = w.heap.size + 1 := World.size_alloc _ _
  generalize hw1 : w.alloc (.cells #[a, b] t) = w1 at *
  have b1 : Below w.heap.size w w1 := hw1 ▸ below_al w _
  have h2 := Hp.new w1 #[c, d] t2
  rw [z1] at h2
  exact ⟨h1.step (below_al w1 _), h2, below_alx b1 _, by rw [World.size_alloc, z1]⟩
def errD (d : DkD) (e : Int) : DkD := if e = 0 then d else noD
def putE (d : DkD) (n : Int) (s : ByteArray) : Int := if mayB d && decide (s.size = 32) then (if btw n 0 ((d.safe.length : Int) - 1) then (if decide (d.wait.length = 400) then 6 else 0) else 3) else 1
def putW (d : DkD) (n : Int) (s : ByteArray) : DkD := ⟨d.safe, d.wait ++ [⟨n, s⟩]⟩
theorem secs_one (w : World) (n : Int) (s : ByteArray) (hs : s.size ≤ BIG) : SecsAt (w.alloc (.cells #[.int .i64 n, .string s] 73)) (some ⟨w.heap.size, 0, none⟩) [⟨n, s⟩] := by
  have h := Hp.new w #[.int .i64 n, .string s] 73
  refine ⟨fun j hj => ?_, by show 1 ≤ BIG; decide, fun j hj => ?_⟩
  · have h0 : j = 0 := by simpa using hj
    subst h0
    exact ⟨w.heap.size, 0, rfl, h.lt, h.cell 0 rfl, h.cell 1 rfl⟩
  · have h0 : j = 0 := by simpa using hj
    subst h0
    exact hs
theorem rows_two (w : World) (l1 : List SeD) (a1 a2 : Option Addr) (c1 m1 : Nat) (x : SeD) (h1 : SecsAt w a1 l1) (h2 : SecsAt w a2 [x]) (hm : l1.length = m1) :
    RowsAt (w.alloc (.cells #[.slice a1 m1 c1, .slice a2 1 1] 23)) (some ⟨w.heap.size, 0, none⟩) [⟨l1, a1, c1⟩, ⟨[x], a2, 1⟩] := by
  have h := Hp.new w #[.slice a1 m1 c1, .slice a2 1 1] 23
  subst hm
  refine ⟨fun j hj => ?_, fun j hj => ?_⟩
  · rcases (by simp at hj; omega : j = 0 ∨ j = 1) with rfl | rfl
    · exact ⟨w.heap.size, 0, rfl, h.lt, h.cell 0 rfl⟩
    · exact ⟨w.heap.size, 0, rfl, h.lt, h.cell 1 rfl⟩
  · rcases (by simp at hj; omega : j = 0 ∨ j = 1) with rfl | rfl
    · exact h1.below (below_al w _)
    · exact h2.below (below_al w _)
theorem strs_some {w : World} {a : Option Addr} {l : List ByteArray} (h : StrsAt w a l) (h0 : 1 ≤ l.length) : ∃ ad, a = some ad := by
  obtain ⟨b, off, h1, _⟩ := h.cell 0 (by omega)
  exact ⟨_, h1⟩
/-- slices.Concat of a row and of one sector -/
theorem Concat_two (w : World) (l1 : List SeD) (a1 : Option Addr) (c1 m1 g cap : Nat) (n : Int) (s : ByteArray) (h1 : SecsAt w a1 l1) (hs : s.size ≤ BIG) (hm : l1.length = m1) (hl : m1 ≤ 1000) (hg : g = w.heap.size + 1) :
    Calls Try.prog 43 #[.slice (some ⟨g, 0, none⟩) 2 cap] ((w.alloc (.cells #[.int .i64 n, .string s] 73)).alloc (.cells #[.slice a1 m1 c1, .slice (some ⟨w.heap.size, 0, none⟩) 1 1] 23)) fun e w' => ∃ a c, e = .returned (.slice a (m1 + 1) c) ∧ OwnE w.heap.size w' (.slice a (m1 + 1) c) (l1 ++ [⟨n, s⟩]) ∧ Below w.heap.size w w' := by
  subst hg
  have hx := secs_one w n s hs
  have h1' := h1.below (below_al w (.cells #[.int .i64 n, .string s] 73))
  have z1 : (w.alloc (.cells #[.int .i64 n, .string s] 73)).heap.size = w.heap.size + 1 := World.size_alloc _ _
  have b1 := below_al w (.cells #[.int .i64 n, .string s] 73)
  have hsz := h1.size
  generalize w.alloc (.cells #[.int .i64 n, .string s] 73) = w1 at *
  have hr := rows_two w1 l1 a1 _ c1 m1 ⟨n, s⟩ h1' hx hm
  rw [z1] at hr
  have hcat : catR [(⟨l1, a1, c1⟩ : RowE), ⟨[⟨n, s⟩], some ⟨w.heap.size, 0, none⟩, 1⟩] 2 = l1 ++ [⟨n, s⟩] := by simp [catR]
  have hc := Concat_any _ cap _ _ hr (by show 0 < (catR _ 2).length; rw [hcat]; simp) (by show (catR _ 2).length ≤ _; rw [hcat]; simp; omega) (by show 2 ≤ 1000000; omega)
  refine Calls.mono hc ?_
  rintro e w' ⟨v, rfl, how, hb⟩
  have hb2 := below_alx b1 (.cells #[.slice a1 m1 c1, .slice (some ⟨w.heap.size, 0, none⟩) 1 1] 23)
  have hO : OwnE w.heap.size w' v (l1 ++ [⟨n, s⟩]) := ⟨by
    have h9 : w'.ownsRow _ 73 2 v (catR [(⟨l1, a1, c1⟩ : RowE), ⟨[⟨n, s⟩], some ⟨w.heap.size, 0, none⟩, 1⟩] 2).length (scs (catR [(⟨l1, a1, c1⟩ : RowE), ⟨[⟨n, s⟩], some ⟨w.heap.size, 0, none⟩, 1⟩] 2)) := how
    rw [hcat] at h9
    exact owns_base h9 hb2.size, fun x hx => by
      rcases List.mem_append.1 hx with h9 | h9
      · obtain ⟨j, hj, rfl⟩ := List.mem_iff_getElem.1 h9
        exact hsz j hj
      · simp only [List.mem_cons, List.not_mem_nil, or_false] at h9
        subst h9
        exact hs, by rw [List.length_append]; show _ + 1 ≤ _; unfold BIG; omega⟩
  obtain ⟨a, c, hv, _, _, _⟩ := hO.at_
  rw [List.length_append, hm] at hv
  subst hv
  exact ⟨a, c, rfl, hO, hb2.trans (hb.mono hb2.size)⟩

set_option maxRecDepth 100000 in
set_option maxHeartbeats 8000000 in
theorem Put_any (d : DkD) (sa : Option Addr) (sc : Nat) (wa : Option Addr) (wc : Nat) (n : Int) (s : ByteArray) (w : World) (h : DkAt w d sa wa) (hs : s.size ≤ BIG) :
    Calls Try.prog 19 #[d.v sa sc wa wc, .int .i64 n, .string s] w (DkE (errD (putW d n s) (putE d n s)) (putE d n s) w) := by
  have HMB := Lib.hid (fun wx (hb : Below w.heap.size w wx) => mayBe_any d sa sc wa wc wx (h.below hb))
  have HBK := Lib.hid (fun wx => isBlock_any s wx)
  have HTH := Lib.hid (fun wx => isThere_any d sa sc wa wc n wx)
  have HH := Lib.hid h
  have HSZ := Lib.hid hs
  have HMAY := Lib.hid (fun hm : mayB d = true => may_of hm)
  have hlm2 := h.wait.len
  unfold putE errD
  generalize hmb : mayB d = bm at *
  generalize hbs : decide (s.size = 32) = bs at *
  generalize hbt : btw n 0 ((d.safe.length : Int) - 1) = bt at *
  have h400 : ((d.wait.length : Int) == 400) = decide (d.wait.length = 400) := by
    by_cases h9 : d.wait.length = 400
    · rw [h9]; rfl
    · rw [decide_eq_false h9]
      simp only [beq_eq_false_iff_ne, ne_eq]
      omega
  generalize hbf : decide (d.wait.length = 400) = bf at *
  have HBF := Lib.hid hbf
  clear hmb hbs hbt hbf h hs
  unfold putW
  obtain ⟨safe, wait⟩ := d
  unfold DkD.v at *
  simp only at *
  obtain ⟨m, hm⟩ : ∃ m, safe.length = m := ⟨_, rfl⟩
  obtain ⟨m2, hm2⟩ : ∃ m, wait.length = m := ⟨_, rfl⟩
  rw [hm] at HMB HTH ⊢
  rw [hm2] at HMB HTH h400 hlm2 ⊢
  have HM := Lib.hid hm
  have HM2 := Lib.hid hm2
  obtain ⟨hA, hR, hB, hz⟩ := two w (.slice sa m sc) (.slice wa m2 wc) (.slice none 0 0) (.slice none 0 0) 25 25
  have HA1 := Lib.hid hA
  have HR1 := Lib.hid hR
  have HB1 := Lib.hid hB
  have HZ1 := Lib.hid hz
  unfold BIG at hlm2
  clear hm hm2 hA hR hB hz
  cases bm
  · simp only [Bool.false_and, Bool.false_eq_true, if_false]
    rw [if_neg (by decide)]
    go_enter Try.func19, Try.ntmps19
    go_upto_region 1 with fail
    obtain ⟨bx, hbx⟩ : ∃ b, w.heap.size = b := ⟨_, rfl⟩
    rw [hbx] at HA1 HR1
    generalize (w.alloc (.cells #[.slice sa m sc, .slice wa m2 wc] 25)).alloc (.cells #[.slice none 0 0, .slice none 0 0] 25) = w1 at *
    have q0 := HA1.out.cell 0 rfl
    have q1 := HA1.out.cell 1 rfl
    go_wp2_with (first
      | (go_at_call 40; refine (HMB.out _ HB1.out).mono ?_; rintro e w2 ⟨rfl, hb2⟩; have HA2 := Lib.hid (HA1.out.step hb2); have HR2 := Lib.hid (HR1.out.step hb2); have HB2 := Lib.hid (HB1.out.trans (hb2.mono HB1.out.size)); have p0 := HA2.out.cell 0 rfl; have p1 := HA2.out.cell 1 rfl; have p2 := HR2.out.cell 0 rfl; have p3 := HR2.out.cell 1 rfl; have p4 := HR2.out.fr 0; have p5 := HR2.out.fr 1; clear hb2)
      | (go_at_call 41; refine (HBK.out _).mono ?_; rintro e w3 ⟨rfl, hw3⟩; subst hw3)
      | (go_at_call 42; refine (HTH.out _).mono ?_; rintro e w4 ⟨rfl, hb4⟩; have HA4 := Lib.hid (HA2.out.step hb4); have HR4 := Lib.hid (HR2.out.step hb4); have HB4 := Lib.hid (HB2.out.trans (hb4.mono HB2.out.size)); clear p0 p1 p2 p3 p4 p5; have p0 := HA4.out.cell 0 rfl; have p1 := HA4.out.cell 1 rfl; have p2 := HR4.out.cell 0 rfl; have p3 := HR4.out.cell 1 rfl; have p4 := HR4.out.fr 0; have p5 := HR4.out.fr 1; clear hb4)
      | fail)
    obtain ⟨u0, u1, hO, hB⟩ := fin2 (w := w) (d := noD) HR2.out (noS_own (bx + 1 + 1) _) (noE_own (bx + 1 + 1) _) (by omega) (by omega) (by omega) HB2.out
    refine bodyPost_ret (v := .tuple #[.agg #[.slice none 0 0, .slice none 0 0], .int .i64 1]) (by simp [results, Try.results19, go_sem, u0, u1]) rfl ⟨_, _, rfl, hO, hB⟩
  · cases bs
    · simp only [Bool.and_false, Bool.false_eq_true, if_false]
      rw [if_neg (by decide)]
      go_enter Try.func19, Try.ntmps19
      go_upto_region 1 with fail
      obtain ⟨bx, hbx⟩ : ∃ b, w.heap.size = b := ⟨_, rfl⟩
      rw [hbx] at HA1 HR1
      generalize (w.alloc (.cells #[.slice sa m sc, .slice wa m2 wc] 25)).alloc (.cells #[.slice none 0 0, .slice none 0 0] 25) = w1 at *
      have q0 := HA1.out.cell 0 rfl
      have q1 := HA1.out.cell 1 rfl
      go_wp2_with (first
      | (go_at_call 40; refine (HMB.out _ HB1.out).mono ?_; rintro e w2 ⟨rfl, hb2⟩; have HA2 := Lib.hid (HA1.out.step hb2); have HR2 := Lib.hid (HR1.out.step hb2); have HB2 := Lib.hid (HB1.out.trans (hb2.mono HB1.out.size)); have p0 := HA2.out.cell 0 rfl; have p1 := HA2.out.cell 1 rfl; have p2 := HR2.out.cell 0 rfl; have p3 := HR2.out.cell 1 rfl; have p4 := HR2.out.fr 0; have p5 := HR2.out.fr 1; clear hb2)
      | (go_at_call 41; refine (HBK.out _).mono ?_; rintro e w3 ⟨rfl, hw3⟩; subst hw3)
      | (go_at_call 42; refine (HTH.out _).mono ?_; rintro e w4 ⟨rfl, hb4⟩; have HA4 := Lib.hid (HA2.out.step hb4); have HR4 := Lib.hid (HR2.out.step hb4); have HB4 := Lib.hid (HB2.out.trans (hb4.mono HB2.out.size)); clear p0 p1 p2 p3 p4 p5; have p0 := HA4.out.cell 0 rfl; have p1 := HA4.out.cell 1 rfl; have p2 := HR4.out.cell 0 rfl; have p3 := HR4.out.cell 1 rfl; have p4 := HR4.out.fr 0; have p5 := HR4.out.fr 1; clear hb4)
      | fail)
      obtain ⟨u0, u1, hO, hB⟩ := fin2 (w := w) (d := noD) HR2.out (noS_own (bx + 1 + 1) _) (noE_own (bx + 1 + 1) _) (by omega) (by omega) (by omega) HB2.out
      refine bodyPost_ret (v := .tuple #[.agg #[.slice none 0 0, .slice none 0 0], .int .i64 1]) (by simp [results, Try.results19, go_sem, u0, u1]) rfl ⟨_, _, rfl, hO, hB⟩
    · cases bt
      · simp only [Bool.and_true, if_true, Bool.false_eq_true, if_false]
        rw [if_neg (by decide)]
        go_enter Try.func19, Try.ntmps19
        go_upto_region 1 with fail
        obtain ⟨bx, hbx⟩ : ∃ b, w.heap.size = b := ⟨_, rfl⟩
        rw [hbx] at HA1 HR1
        generalize (w.alloc (.cells #[.slice sa m sc, .slice wa m2 wc] 25)).alloc (.cells #[.slice none 0 0, .slice none 0 0] 25) = w1 at *
        have q0 := HA1.out.cell 0 rfl
        have q1 := HA1.out.cell 1 rfl
        go_wp2_with (first
      | (go_at_call 40; refine (HMB.out _ HB1.out).mono ?_; rintro e w2 ⟨rfl, hb2⟩; have HA2 := Lib.hid (HA1.out.step hb2); have HR2 := Lib.hid (HR1.out.step hb2); have HB2 := Lib.hid (HB1.out.trans (hb2.mono HB1.out.size)); have p0 := HA2.out.cell 0 rfl; have p1 := HA2.out.cell 1 rfl; have p2 := HR2.out.cell 0 rfl; have p3 := HR2.out.cell 1 rfl; have p4 := HR2.out.fr 0; have p5 := HR2.out.fr 1; clear hb2)
      | (go_at_call 41; refine (HBK.out _).mono ?_; rintro e w3 ⟨rfl, hw3⟩; subst hw3)
      | (go_at_call 42; refine (HTH.out _).mono ?_; rintro e w4 ⟨rfl, hb4⟩; have HA4 := Lib.hid (HA2.out.step hb4); have HR4 := Lib.hid (HR2.out.step hb4); have HB4 := Lib.hid (HB2.out.trans (hb4.mono HB2.out.size)); clear p0 p1 p2 p3 p4 p5; have p0 := HA4.out.cell 0 rfl; have p1 := HA4.out.cell 1 rfl; have p2 := HR4.out.cell 0 rfl; have p3 := HR4.out.cell 1 rfl; have p4 := HR4.out.fr 0; have p5 := HR4.out.fr 1; clear hb4)
      | fail)
        obtain ⟨u0, u1, hO, hB⟩ := fin2 (w := w) (d := noD) HR4.out (noS_own (bx + 1 + 1) _) (noE_own (bx + 1 + 1) _) (by omega) (by omega) (by omega) HB4.out
        refine bodyPost_ret (v := .tuple #[.agg #[.slice none 0 0, .slice none 0 0], .int .i64 3]) (by simp [results, Try.results19, go_sem, u0, u1]) rfl ⟨_, _, rfl, hO, hB⟩
      · cases bf
        · simp only [Bool.and_true, if_true, Bool.false_eq_true, if_false]
          have hmay := HMAY.out rfl
          have hm400 : m2 ≤ 400 := by have := hmay.few; rw [HM2.out] at this; exact this
          have h1m : 1 ≤ m := by have := hmay.lo; rw [HM.out] at this; exact this
          have hm4 : m ≤ 400 := by have := hmay.hi; rw [HM.out] at this; exact this
          obtain ⟨ad, rfl⟩ := strs_some HH.out.safe (by rw [HM.out]; exact h1m)
          clear hmay HMAY
          go_enter Try.func19, Try.ntmps19
          go_upto_region 1 with fail
          obtain ⟨bx, hbx⟩ : ∃ b, w.heap.size = b := ⟨_, rfl⟩
          rw [hbx] at HA1 HR1
          generalize (w.alloc (.cells #[.slice (some ad) m sc, .slice wa m2 wc] 25)).alloc (.cells #[.slice none 0 0, .slice none 0 0] 25) = w1 at *
          have q0 := HA1.out.cell 0 rfl
          have q1 := HA1.out.cell 1 rfl
          go_wp2_with (first
      | (go_at_call 40; refine (HMB.out _ HB1.out).mono ?_; rintro e w2 ⟨rfl, hb2⟩; have HA2 := Lib.hid (HA1.out.step hb2); have HR2 := Lib.hid (HR1.out.step hb2); have HB2 := Lib.hid (HB1.out.trans (hb2.mono HB1.out.size)); have p0 := HA2.out.cell 0 rfl; have p1 := HA2.out.cell 1 rfl; have p2 := HR2.out.cell 0 rfl; have p3 := HR2.out.cell 1 rfl; have p4 := HR2.out.fr 0; have p5 := HR2.out.fr 1; clear hb2)
      | (go_at_call 41; refine (HBK.out _).mono ?_; rintro e w3 ⟨rfl, hw3⟩; subst hw3)
      | (go_at_call 42; refine (HTH.out _).mono ?_; rintro e w4 ⟨rfl, hb4⟩; have HA4 := Lib.hid (HA2.out.step hb4); have HR4 := Lib.hid (HR2.out.step hb4); have HB4 := Lib.hid (HB2.out.trans (hb4.mono HB2.out.size)); clear p0 p1 p2 p3 p4 p5; have p0 := HA4.out.cell 0 rfl; have p1 := HA4.out.cell 1 rfl; have p2 := HR4.out.cell 0 rfl; have p3 := HR4.out.cell 1 rfl; have p4 := HR4.out.fr 0; have p5 := HR4.out.fr 1; clear hb4)
      | (go_at_call 43; refine (Concat_two w4 wait wa wc m2 _ _ n s (HH.out.wait.below HB4.out) HSZ.out HM2.out (by omega) rfl).mono ?_; rintro e w6 ⟨a6, c6, rfl, how6, hb6⟩; have HO6 := Lib.hid how6; have HA6 := Lib.hid (HA4.out.step hb6); have HR6 := Lib.hid (HR4.out.step hb6); have HB6 := Lib.hid (HB4.out.trans (hb6.mono HB4.out.size)); have HZ6 := Lib.hid (show bx + 1 < w4.heap.size from HR4.out.lt); clear p0 p1 p2 p3 p4 p5; have p0 := HA6.out.cell 0 rfl; have p1 := HA6.out.cell 1 rfl; clear how6 hb6)
      | (go_at_call 44; refine (Clone_any ad m sc safe w6 (HH.out.safe.below HB6.out) HM.out (by omega)).mono ?_; rintro e w8 ⟨v8, rfl, how8, hb8⟩; obtain ⟨a8, c8, hv8, _, _, _⟩ := how8.at_; rw [HM.out] at hv8; subst hv8; have HS8 := Lib.hid how8; have HO8 := Lib.hid (HO6.out.below hb8); have HR8 := Lib.hid (HR6.out.step hb8); have HB8 := Lib.hid (HB6.out.trans (hb8.mono HB6.out.size)); have HZ8 := Lib.hid (show bx + 1 < w6.heap.size from HR6.out.lt); clear p0 p1; have p2 := HR8.out.cell 0 rfl; have p3 := HR8.out.cell 1 rfl; have p4 := HR8.out.fr 0; have p5 := HR8.out.fr 1; clear how8 hb8)
      | fail)
          obtain ⟨u0, u1, hO, hB⟩ := fin2 (w := w) (d := ⟨safe, wait ++ [⟨n, s⟩]⟩) HR8.out HS8.out HO8.out HZ8.out HZ6.out (by omega) HB8.out
          refine bodyPost_ret (v := .tuple #[.agg #[.slice a8 m c8, .slice a6 (m2 + 1) c6], .int .i64 0]) (by simp [results, Try.results19, go_sem, u0, u1]) rfl ⟨_, _, rfl, hO, hB⟩
        · simp only [Bool.and_true, if_true]
          rw [if_neg (by decide)]
          go_enter Try.func19, Try.ntmps19
          go_upto_region 1 with fail
          obtain ⟨bx, hbx⟩ : ∃ b, w.heap.size = b := ⟨_, rfl⟩
          rw [hbx] at HA1 HR1
          generalize (w.alloc (.cells #[.slice sa m sc, .slice wa m2 wc] 25)).alloc (.cells #[.slice none 0 0, .slice none 0 0] 25) = w1 at *
          have q0 := HA1.out.cell 0 rfl
          have q1 := HA1.out.cell 1 rfl
          go_wp2_with (first
      | (go_at_call 40; refine (HMB.out _ HB1.out).mono ?_; rintro e w2 ⟨rfl, hb2⟩; have HA2 := Lib.hid (HA1.out.step hb2); have HR2 := Lib.hid (HR1.out.step hb2); have HB2 := Lib.hid (HB1.out.trans (hb2.mono HB1.out.size)); have p0 := HA2.out.cell 0 rfl; have p1 := HA2.out.cell 1 rfl; have p2 := HR2.out.cell 0 rfl; have p3 := HR2.out.cell 1 rfl; have p4 := HR2.out.fr 0; have p5 := HR2.out.fr 1; clear hb2)
      | (go_at_call 41; refine (HBK.out _).mono ?_; rintro e w3 ⟨rfl, hw3⟩; subst hw3)
      | (go_at_call 42; refine (HTH.out _).mono ?_; rintro e w4 ⟨rfl, hb4⟩; have HA4 := Lib.hid (HA2.out.step hb4); have HR4 := Lib.hid (HR2.out.step hb4); have HB4 := Lib.hid (HB2.out.trans (hb4.mono HB2.out.size)); clear p0 p1 p2 p3 p4 p5; have p0 := HA4.out.cell 0 rfl; have p1 := HA4.out.cell 1 rfl; have p2 := HR4.out.cell 0 rfl; have p3 := HR4.out.cell 1 rfl; have p4 := HR4.out.fr 0; have p5 := HR4.out.fr 1; clear hb4)
      | fail)
          obtain ⟨u0, u1, hO, hB⟩ := fin2 (w := w) (d := noD) HR4.out (noS_own (bx + 1 + 1) _) (noE_own (bx + 1 + 1) _) (by omega) (by omega) (by omega) HB4.out
          refine bodyPost_ret (v := .tuple #[.agg #[.slice none 0 0, .slice none 0 0], .int .i64 6]) (by simp [results, Try.results19, go_sem, u0, u1]) rfl ⟨_, _, rfl, hO, hB⟩
end Go.Proofs.Ytlmfieeemkahfaa
