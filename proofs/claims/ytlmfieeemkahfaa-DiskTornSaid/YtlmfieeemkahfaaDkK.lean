/- disk.Sync, Crash -/
import Derived.Test.YtlmfieeemkahfaaDkJ
namespace Go.Proofs.Ytlmfieeemkahfaa
open Go.RowKit Go.Lib

def errM (d : DkD) : Int := if mayB d then 0 else 1
theorem own_shape {base : Nat} {w : World} {d : DkD} {v u : Value} (h : DkOwn base w d v u) : ∃ a c a2 c2, v = .slice a d.safe.length c ∧ u = .slice a2 d.wait.length c2 := by
  obtain ⟨a, c, h1, _⟩ := h.safe.at_
  obtain ⟨a2, c2, h2, _⟩ := h.wait.at_
  exact ⟨a, c, a2, c2, h1, h2⟩
set_option maxRecDepth 100000 in
set_option maxHeartbeats 4000000 in
theorem Sync_any (d : DkD) (sa : Option Addr) (sc : Nat) (wa : Option Addr) (wc : Nat) (w : World) (h : DkAt w d sa wa) :
    Calls Try.prog 20 #[d.v sa sc wa wc] w (DkE (errD (setD d oneF) (errM d)) (errM d) w) := by
  have HST := Lib.hid (fun wx (hb : Below w.heap.size w wx) => settleS_any d sa sc wa wc wx (h.below hb))
  unfold errM
  clear h
  generalize errD (setD d oneF) (if mayB d then 0 else 1) = dd at *
  generalize (if mayB d then (0 : Int) else 1) = ee at *
  unfold DkD.v at *
  generalize d.safe.length = m at *
  generalize d.wait.length = m2 at *
  obtain ⟨hA, hR, hB, hz⟩ := two w (.slice sa m sc) (.slice wa m2 wc) (.slice none 0 0) (.slice none 0 0) 25 25
  have HA1 := Lib.hid hA
  have HR1 := Lib.hid hR
  have HB1 := Lib.hid hB
  clear hA hR hB hz
  go_enter Try.func20, Try.ntmps20
  go_upto_region 1 with fail
  obtain ⟨bx, hbx⟩ : ∃ b, w.heap.size = b := ⟨_, rfl⟩
  rw [hbx] at HA1 HR1
  generalize (w.alloc (.cells #[.slice sa m sc, .slice wa m2 wc] 25)).alloc (.cells #[.slice none 0 0, .slice none 0 0] 25) = w1 at *
  have q0 := HA1.out.cell 0 rfl
  have q1 := HA1.out.cell 1 rfl
  have HLT := Lib.hid (show bx + 1 < w1.heap.size from HR1.out.lt)
  go_wp2_with (first
    | (go_at_call 45; refine (HST.out _ HB1.out).mono ?_; rintro e w2 ⟨v2, u2, rfl, how2, hb2⟩; obtain ⟨a2, c2, a3, c3, rfl, rfl⟩ := own_shape how2; have HO2 := Lib.hid how2; have HR2 := Lib.hid (HR1.out.step hb2); have HB2 := Lib.hid (HB1.out.trans (hb2.mono HB1.out.size)); have p2 := HR2.out.cell 0 rfl; have p3 := HR2.out.cell 1 rfl; have p4 := HR2.out.fr 0; have p5 := HR2.out.fr 1; clear how2 hb2)
    | fail)
  obtain ⟨u0, u1, hO, hB⟩ := fin2 (w := w) (d := dd) HR2.out HO2.out.safe HO2.out.wait HLT.out HLT.out (by omega) HB2.out
  refine bodyPost_ret (v := .tuple #[.agg #[.slice a2 dd.safe.length c2, .slice a3 dd.wait.length c3], .int .i64 ee]) (by simp [results, Try.results20, go_sem, u0, u1]) rfl ⟨_, _, rfl, hO, hB⟩
set_option maxRecDepth 100000 in
set_option maxHeartbeats 4000000 in
theorem Crash_any (d : DkD) (sa : Option Addr) (sc : Nat) (wa : Option Addr) (wc : Nat) (a : Option Addr) (n c : Nat) (ks : List Int) (w : World) (h : DkAt w d sa wa) (hks : NumsAt w a ks) (hkn : ks.length = n) (hi : ∀ x ∈ ks, x ≤ 9223372036854775807) :
    Calls Try.prog 22 #[d.v sa sc wa wc, .slice a n c] w (DkE (errD (setD d (kpF ks)) (errM d)) (errM d) w) := by
  have HST := Lib.hid (fun (bk : Nat) wx (hb : Below w.heap.size w wx) (hbk : wx.cell? ⟨bk, 0, none⟩ = some (.slice a n c)) => settleC_any d sa sc wa wc bk n c a ks wx (h.below hb) hbk (hks.below hb) hkn hi)
  unfold errM
  clear h hks hkn hi
  generalize errD (setD d (kpF ks)) (if mayB d then 0 else 1) = dd at *
  generalize (if mayB d then (0 : Int) else 1) = ee at *
  unfold DkD.v at *
  generalize d.safe.length = m at *
  generalize d.wait.length = m2 at *
  have h1 := Hp.new w #[.slice sa m sc, .slice wa m2 wc] 25
  have z1 : (w.alloc (.cells #[.slice sa m sc, .slice wa m2 wc] 25)).heap.size = w.heap.size + 1 := World.size_alloc _ _
  have b1 := below_al w (.cells #[.slice sa m sc, .slice wa m2 wc] 25)
  go_enter Try.func22, Try.ntmps22
  go_upto_region 1 with fail
  obtain ⟨bx, hbx⟩ : ∃ b, w.heap.size = b := ⟨_, rfl⟩
  rw [hbx] at h1 z1
  generalize w.alloc (.cells #[.slice sa m sc, .slice wa m2 wc] 25) = w1 at *
  have h2 := Hp.new w1 #[.slice a n c] 42
  rw [z1] at h2
  have z2 : (w1.alloc (.cells #[.slice a n c] 42)).heap.size = bx + 1 + 1 := by rw [World.size_alloc, z1]
  have b2 := below_alx b1 (.cells #[.slice a n c] 42)
  have h1' := h1.step (below_al w1 (.cells #[.slice a n c] 42))
  generalize w1.alloc (.cells #[.slice a n c] 42) = w2 at *
  have h3 := Hp.new w2 #[.slice none 0 0, .slice none 0 0] 25
  rw [z2] at h3
  have b3 := below_alx b2 (.cells #[.slice none 0 0, .slice none 0 0] 25)
  have h1'' := h1'.step (below_al w2 (.cells #[.slice none 0 0, .slice none 0 0] 25))
  have h2' := h2.step (below_al w2 (.cells #[.slice none 0 0, .slice none 0 0] 25))
  generalize w2.alloc (.cells #[.slice none 0 0, .slice none 0 0] 25) = w3 at *
  have q0 := h1''.cell 0 rfl
  have q1 := h1''.cell 1 rfl
  have HR1 := Lib.hid h3
  have HB1 := Lib.hid b3
  have HK1 := Lib.hid (h2'.cell 0 rfl)
  have HLT := Lib.hid (show bx + 1 + 1 < w3.heap.size from h3.lt)
  clear h1 z1 b1 h2 z2 b2 h1' h3 b3 h1'' h2'
  go_wp2_with (first
    | (go_at_call 45; refine (HST.out _ _ HB1.out HK1.out).mono ?_; rintro e w4 ⟨v2, u2, rfl, how2, hb2⟩; obtain ⟨a2, c2, a3, c3, rfl, rfl⟩ := own_shape how2; have HO2 := Lib.hid how2; have HR2 := Lib.hid (HR1.out.step hb2); have HB2 := Lib.hid (HB1.out.trans (hb2.mono HB1.out.size)); have p2 := HR2.out.cell 0 rfl; have p3 := HR2.out.cell 1 rfl; have p4 := HR2.out.fr 0; have p5 := HR2.out.fr 1; clear how2 hb2)
    | fail)
  obtain ⟨u0, u1, hO, hB⟩ := fin2 (w := w) (d := dd) HR2.out HO2.out.safe HO2.out.wait HLT.out HLT.out (by omega) HB2.out
  refine bodyPost_ret (v := .tuple #[.agg #[.slice a2 dd.safe.length c2, .slice a3 dd.wait.length c3], .int .i64 ee]) (by simp [results, Try.results22, go_sem, u0, u1]) rfl ⟨_, _, rfl, hO, hB⟩
end Go.Proofs.Ytlmfieeemkahfaa
