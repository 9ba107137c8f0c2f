/- lectionaryref4.Find, Many, Edit, Fits -/
import Derived.Test.YthnedehihbploaaGreatDoorTPages
import Derived.Test.YthnedehihbploaaGreatDoorORop
import Derived.Lib.QuietBelow
import Derived.Deep.QuietTactic
import Derived.BigQuiet
import Derived.IntWalk
import Derived.Test.YthnedehihbploaaGreatDoorVEq
import Derived.Deep.RegionLaw
import Derived.Deep.DeepCutAuto
import Derived.Deep.AppendLies
import Derived.Deep.LoopGhost
namespace Go.Proofs.YthnedehihbploaaGreatDoor
open Go.RowKit Go.Lib Go.Sort

theorem os_len (l : List OpR) : (OpR.os l).length = l.length := by simp [OpR.os]
theorem os_get {l : List OpR} {k : Nat} (h : k < l.length) : (OpR.os l)[k]? = some l[k].o := by simp [OpR.os, h]
theorem fk_at {l : List OpR} {k : Nat} {s q : Int} (h : k < l.length) (hs : l[k].o.site = s) (hq : l[k].o.seq = q) (hall : ∀ j (hj : j < l.length), j < k → ¬ (l[j].o.site = s ∧ l[j].o.seq = q)) : findI (OpR.os l) s q = (k : Nat) := by
  have h1 : fk (OpR.os l) s q = k := by
    unfold fk
    rw [List.findIdx_eq (by rw [os_len]; exact h)]
    refine ⟨by simp [OpR.os, hs, hq], fun j hj => ?_⟩
    have := hall j (by omega) hj
    simp only [OpR.os, List.getElem_map]
    simpa using this
  unfold findI
  rw [h1, os_len, if_pos h]
theorem fk_no {l : List OpR} {s q : Int} (hall : ∀ j (hj : j < l.length), ¬ (l[j].o.site = s ∧ l[j].o.seq = q)) : findI (OpR.os l) s q = -1 := by
  unfold findI
  rw [if_neg]
  intro h
  have h2 := fk_is h
  have h3 := hall (fk (OpR.os l) s q) (by rw [os_len] at h; exact h)
  refine h3 ?_
  simpa [OpR.os] using h2
set_option maxRecDepth 100000 in
set_option maxHeartbeats 2000000 in
theorem rFind_any (a : Option Addr) (cap : Nat) (l : List OpR) (s q : Int) (w : World) (h : OpsAt w a l) : Calls Tryz.prog 64 #[.slice a l.length cap, .int .i64 s, .int .i64 q] w (IntB (findI (OpR.os l) s q) w) := by
  have hbig := h.len
  have hbi := big_is
  obtain ⟨n, hn⟩ : ∃ n, l.length = n := ⟨_, rfl⟩
  have HN := Lib.hid hn
  have HH := Lib.hid h
  have HAT := Lib.hid (fun k hk hs hq hall => fk_at (l := l) (k := k) (s := s) (q := q) hk hs hq hall)
  have HNO := Lib.hid (fun hall => fk_no (l := l) (s := s) (q := q) hall)
  rw [hn]
  have h0a : (n : Int) ≤ 140737488351232 := by omega
  clear h hn hbig hbi
  go_enter Tryz.func64, Tryz.ntmps64
  go_wp2_with fail
  go_loop [7] (fun s7 => ∃ k : Nat, s7 = .int .i64 k ∧ k ≤ n ∧ ∀ j (hj : j < l.length), j < k → ¬ (l[j].o.site = s ∧ l[j].o.seq = q)) (fun s7 => n - (RowKit.intOf s7).toNat)
  case atStart => exact ⟨0, rfl, Nat.zero_le _, fun j _ hj => absurd hj (by omega)⟩
  case round =>
    obtain ⟨k, rfl, hk, hall⟩ := hrel
    have HALL := Lib.hid hall
    clear hall
    by_cases hlt : k < n
    · have hkl : k < l.length := by rw [HN.out]; exact hlt
      obtain ⟨b, off, rfl, hbb, c0, c1, -⟩ := HH.out.cells k hkl
      have HK := Lib.hid (fun hs hq => HAT.out k hkl hs hq HALL.out)
      have HST := Lib.hid (show ¬ (l[k].o.site = s ∧ l[k].o.seq = q) → ∀ j (hj : j < l.length), j < k + 1 → ¬ (l[j].o.site = s ∧ l[j].o.seq = q) from fun hno j hj hjk => by
        by_cases hjk2 : j = k
        · subst hjk2; exact hno
        · exact HALL.out j hj (by omega))
      generalize l[k].o.site = ks at *
      generalize l[k].o.seq = kq at *
      clear hkl
      by_cases hs : ks = s
      · by_cases hq : kq = q
        · have HF := Lib.hid (HK.out hs hq)
          subst hs hq
          go_wp2_with fail
          go_ret
          exact ⟨ret_int HF.out.symm, Below.refl _ _⟩
        · have HS2 := Lib.hid (HST.out (fun h => hq h.2))
          subst hs
          go_wp2_with fail
          go_round
          case rel => exact ⟨k + 1, by go_num, by omega, HS2.out⟩
          case measure => simp [RowKit.intOf]; omega
      · have HS2 := Lib.hid (HST.out (fun h => hs h.1))
        go_wp2_with fail
        go_round
        case rel => exact ⟨k + 1, by go_num, by omega, HS2.out⟩
        case measure => simp [RowKit.intOf]; omega
    · have HF := Lib.hid (HNO.out (fun j hj => HALL.out j hj (by rw [HN.out] at hj; omega)))
      go_wp2_with fail
      go_ret
      exact ⟨ret_int HF.out.symm, Below.refl _ _⟩
theorem cnt_take (l : List OpR) (s : Int) {k : Nat} (hk : k < l.length) : cnt ((OpR.os l).take (k + 1)) s = cnt ((OpR.os l).take k) s + if l[k].o.site = s then 1 else 0 := by
  rw [List.take_succ_eq_append_getElem (by rw [os_len]; exact hk), cnt_snoc]
  simp [OpR.os]
set_option maxRecDepth 100000 in
set_option maxHeartbeats 2000000 in
theorem rMany_any (a : Option Addr) (cap : Nat) (l : List OpR) (s : Int) (w : World) (h : OpsAt w a l) : Calls Tryz.prog 65 #[.slice a l.length cap, .int .i64 s] w (IntB (cnt (OpR.os l) s) w) := by
  have hbig := h.len
  have hbi := big_is
  obtain ⟨n, hn⟩ : ∃ n, l.length = n := ⟨_, rfl⟩
  have HN := Lib.hid hn
  have HH := Lib.hid h
  rw [hn]
  have h0a : (n : Int) ≤ 140737488351232 := by omega
  clear h hn hbig hbi
  go_enter Tryz.func65, Tryz.ntmps65
  go_wp2_with fail
  go_loop [5, 6] (fun s5 s6 => ∃ k : Nat, s6 = .int .i64 k ∧ k ≤ n ∧ s5 = .int .i64 (cnt ((OpR.os l).take k) s : Nat)) (fun _ s6 => n - (RowKit.intOf s6).toNat)
  case atStart => exact ⟨0, rfl, Nat.zero_le _, rfl⟩
  case round =>
    obtain ⟨k, rfl, hk, rfl⟩ := hrel
    by_cases hlt : k < n
    · have hkl : k < l.length := by rw [HN.out]; exact hlt
      obtain ⟨b, off, rfl, hbb, c0, -⟩ := HH.out.cells k hkl
      have HC := Lib.hid (cnt_take l s hkl)
      have hcle : cnt ((OpR.os l).take k) s ≤ k := Nat.le_trans (cnt_le _ _) (by rw [List.length_take]; omega)
      generalize l[k].o.site = ks at *
      generalize cnt ((OpR.os l).take k) s = c at *
      clear hkl
      by_cases hs : ks = s
      · have HC2 := Lib.hid (HC.out.trans (by rw [if_pos hs]))
        subst hs
        go_wp2_with fail
        go_round
        case rel => exact ⟨k + 1, by go_num, by omega, by rw [HC2.out]; go_num⟩
        case measure => simp [RowKit.intOf]; omega
      · have HC2 := Lib.hid (HC.out.trans (by rw [if_neg hs]))
        go_wp2_with fail
        go_round
        case rel => exact ⟨k + 1, by go_num, by omega, by rw [HC2.out]; rfl⟩
        case measure => simp [RowKit.intOf]; omega
    · have HF := Lib.hid (show (OpR.os l).take k = OpR.os l from List.take_of_length_le (by rw [os_len, HN.out]; omega))
      go_wp2_with fail
      go_ret
      exact ⟨ret_int (by rw [HF.out]), Below.refl _ _⟩
/-- Find's answer, as three cases -/
theorem find_cases (l : List OpR) (s q : Int) : (findI (OpR.os l) s q < 0 ∧ ∀ j, (OpR.os l)[fk (OpR.os l) s q]? ≠ some j) ∨ ∃ k : Nat, ∃ h : k < l.length, findI (OpR.os l) s q = k ∧ (OpR.os l)[fk (OpR.os l) s q]? = some l[k].o := by
  unfold findI
  by_cases h : fk (OpR.os l) s q < (OpR.os l).length
  · rw [if_pos h]
    rw [os_len] at h
    exact .inr ⟨fk (OpR.os l) s q, h, rfl, os_get h⟩
  · rw [if_neg h]
    refine .inl ⟨by omega, fun j => ?_⟩
    rw [List.getElem?_eq_none (by omega)]
    simp
set_option maxRecDepth 100000 in
set_option maxHeartbeats 2000000 in
theorem rEdit_any (a : Option Addr) (cap : Nat) (l : List OpR) (s q : Int) (w : World) (h : OpsAt w a l) : Calls Tryz.prog 67 #[.slice a l.length cap, .int .i64 s, .int .i64 q] w (BoB (edt (OpR.os l) s q) w) := by
  have hbig := h.len
  have hbi := big_is
  have HF := Lib.hid (rFind_any a cap l s q w h)
  have hc := find_cases l s q
  have hcl : ∀ (w1 : World), Below w.heap.size w w1 → OpsAt w1 a l := fun w1 hb => h.below hb
  have HCL := Lib.hid hcl
  obtain ⟨n, hn⟩ : ∃ n, l.length = n := ⟨_, rfl⟩
  have HN := Lib.hid hn
  generalize findI (OpR.os l) s q = z at *
  rcases hc with ⟨hz, hno⟩ | ⟨k, hk, hz, hsome⟩
  · have HR := Lib.hid (show edt (OpR.os l) s q = false from by
      unfold edt
      cases hx : (OpR.os l)[fk (OpR.os l) s q]? with
      | none => rfl
      | some p => exact absurd hx (hno p))
    rw [hn] at HF ⊢
    clear h hn hbig hbi hcl hno
    go_enter Tryz.func67, Tryz.ntmps67
    go_wp2_with (first | (go_at_call 64; refine HF.out.mono ?_; rintro x1 w1 ⟨rfl, hb1⟩; have HB1 := Lib.hid hb1; clear hb1) | fail)
    go_ret
    exact ⟨ret_bool HR.out.symm, HB1.out⟩
  · have HR := Lib.hid (show edt (OpR.os l) s q = decide (l[k].o.kind = 1) from by
      unfold edt
      rw [hsome])
    have HC := Lib.hid (fun (w1 : World) (hb : Below w.heap.size w w1) => (show ∃ b off, a = some ⟨b, off, none⟩ ∧ b < w1.heap.size ∧ w1.cell? ⟨b, off + k * 11 + 2, none⟩ = some (.int .i64 l[k].o.kind) from by
      obtain ⟨b, off, h1, h2, _, _, h3, _⟩ := (hcl w1 hb).cells k hk
      exact ⟨b, off, h1, h2, h3⟩))
    subst hz
    generalize l[k].o.kind = kk at *
    rw [hn] at HF hk ⊢
    have h0a : (n : Int) ≤ 140737488351232 := by omega
    clear h hn hbig hbi hcl hsome HCL
    by_cases h1 : kk = 1
    · have HR2 := Lib.hid (HR.out.trans (decide_eq_true h1))
      subst h1
      go_enter Tryz.func67, Tryz.ntmps67
      go_wp2_with (first | (go_at_call 64; refine HF.out.mono ?_; rintro x1 w1 ⟨rfl, hb1⟩; have HB1 := Lib.hid hb1; obtain ⟨b, off, rfl, hbb, c2⟩ := HC.out _ hb1; clear hb1) | fail)
      go_ret
      exact ⟨ret_bool HR2.out.symm, HB1.out⟩
    · have HR2 := Lib.hid (HR.out.trans (decide_eq_false h1))
      go_enter Tryz.func67, Tryz.ntmps67
      go_wp2_with (first | (go_at_call 64; refine HF.out.mono ?_; rintro x1 w1 ⟨rfl, hb1⟩; have HB1 := Lib.hid hb1; obtain ⟨b, off, rfl, hbb, c2⟩ := HC.out _ hb1; clear hb1) | fail)
      go_ret
      exact ⟨ret_bool (by rw [HR2.out]; simpa using h1), HB1.out⟩
end Go.Proofs.YthnedehihbploaaGreatDoor
/- lectionaryref4.written -/
namespace Go.Proofs.YthnedehihbploaaGreatDoor
open Go.RowKit Go.Lib Go.Sort

def Szs (l : List OpR) : Prop := ∀ r ∈ l, r.o.text.size ≤ 60000
theorem wrt_begin {l : List OpD} {e : El} (h : e.begin = true) : wrt l e = true := by unfold wrt; rw [h]; rfl
theorem wrt_none {l : List OpD} {e : El} (h : e.begin = false) (hno : ∀ j, l[fk l e.s e.q]? ≠ some j) : wrt l e = false := by
  unfold wrt
  rw [h]
  cases hx : l[fk l e.s e.q]? with
  | none => rfl
  | some p => exact absurd hx (hno p)
theorem wrt_some {l : List OpD} {e : El} {p : OpD} (h : e.begin = false) (hp : l[fk l e.s e.q]? = some p) : wrt l e = (decide (0 ≤ e.i) && decide (e.i < (nR p.text : Int))) := by
  unfold wrt
  rw [h, hp]
  rfl
set_option maxRecDepth 100000 in
set_option maxHeartbeats 4000000 in
theorem rWritten_any (a : Option Addr) (cap : Nat) (l : List OpR) (e : El) (w : World) (hT : Tabs w) (hsz : Szs l) (h : OpsAt w a l) : Calls Tryz.prog 58 #[.slice a l.length cap, e.v] w (BoB (wrt (OpR.os l) e) w) := by
  have hbig := h.len
  have hbi := big_is
  have HBG := Lib.hid (fun wx => Begin_any e wx)
  have HX := Lib.hid (BoxE.new w e)
  have hb0 : Below w.heap.size w (w.alloc (.cells #[.int .i64 e.s, .int .i64 e.q, .int .i64 e.i] 37)) := (Below.refl _ _).alloc (Nat.le_refl _) _
  have HB0 := Lib.hid hb0
  have HFD := Lib.hid (fun wx (hx : Below w.heap.size w wx) => rFind_any a cap l e.s e.q wx (h.below hx))
  have hc := find_cases l e.s e.q
  have HWB := Lib.hid (fun hb => wrt_begin (l := OpR.os l) (e := e) hb)
  have HWN := Lib.hid (fun hb hno => wrt_none (l := OpR.os l) (e := e) hb hno)
  have HWS := Lib.hid (fun p hb hp => wrt_some (l := OpR.os l) (e := e) (p := p) hb hp)
  have HH := Lib.hid h
  obtain ⟨n, hn⟩ : ∃ n, l.length = n := ⟨_, rfl⟩
  have HN := Lib.hid hn
  generalize findI (OpR.os l) e.s e.q = z at *
  rw [hn] at HFD ⊢
  have h0a : (n : Int) ≤ 140737488351232 := by omega
  clear h hn hbig hbi hb0
  generalize hbb : e.begin = bb at *
  have HBB := Lib.hid hbb
  clear hbb
  obtain ⟨s, q, i⟩ := e
  unfold El.v at HBG ⊢
  simp only at HBG HX HB0 HFD hc HWS ⊢
  generalize wrt (OpR.os l) ⟨s, q, i⟩ = res at *
  have HTT := Lib.hid hT
  clear hT
  cases bb
  · rcases hc with ⟨hz, hno⟩ | ⟨k, hk, hz, hsome⟩
    · have hres := HWN.out rfl hno
      subst hres
      have hd : decide (0 ≤ z) = false := decide_eq_false (by omega)
      clear hno
      go_enter Tryz.func58, Tryz.ntmps58
      go_wp2_with (first
        | (go_at_call 57; refine (HBG.out _).mono ?_; rintro x1 w1 ⟨rfl, hb1⟩; have HB1 := Lib.hid (HB0.out.trans (hb1.mono HB0.out.size)); have hx1 := HX.out.step hb1; have p0 := hx1.c0; have p1 := hx1.c1; simp only at p0 p1; clear hb1)
        | (go_at_call 64; refine (HFD.out _ HB1.out).mono ?_; rintro x2 w2 ⟨rfl, hb2⟩; have HB2 := Lib.hid (HB1.out.trans (hb2.mono HB1.out.size)); have hx2 := hx1.step hb2; clear hb2)
        | fail)
      clear p0 p1 hx1
      have r2 := cell_regrown hx2.c2
      have hlt := hx2.lt
      clear hx2
      refine wp_region_quiet_below (by kernel_rfl) (by kernel_rfl) ?_
      repeat (first | go_big_quiet_step (fail) | quiet_step (fail))
      refine wpQuiet_nil ?_
      intro _ hw'
      obtain ⟨⟨dq, osq⟩, hw''⟩ := hw'
      subst hw''
      have HBV := Lib.hid (HB2.out.trans ((below_regrown w2 dq osq).mono HB2.out.size))
      clear r2
      generalize grow (redrawn w2 dq) osq = wv at *
      go_wp2
      go_ret
      exact ⟨rfl, HBV.out⟩
    · have HRES := Lib.hid (HWS.out _ rfl hsome)
      subst hz
      have HKL := Lib.hid hk
      have hkn : k < n := by rw [← HN.out]; exact hk
      have HRU := Lib.hid (fun wx (hx : Below w.heap.size w wx) => Runes4_any l[k].o l[k].a l[k].cap wx (HTT.out.next hx) (hsz _ (List.getElem_mem hk)))
      have HCE := Lib.hid (fun wx (hx : Below w.heap.size w wx) => (HH.out.below hx).cells k hk)
      have hnn := (nR_le l[k].o.text)
      have hn6 := hsz _ (List.getElem_mem hk)
      generalize l[k] = r at *
      obtain ⟨⟨site, seq, kind, ⟨es, eq, ei⟩, text, gone, of, num, gen⟩, ra, rc⟩ := r
      unfold OpD.v at HRU
      simp only at HRU HCE HRES hnn hn6
      generalize nR text = nn at *
      have hnn2 : nn ≤ 60000 := by omega
      clear hsome hnn hn6 hk
      by_cases hi : 0 ≤ i
      · have hlt3 : decide (i < (nn : Int)) = res := by rw [HRES.out, decide_eq_true hi, Bool.true_and]
        have HL3 := Lib.hid hlt3
        clear hlt3
        go_enter Tryz.func58, Tryz.ntmps58
        go_wp2_with (first
          | (go_at_call 57; refine (HBG.out _).mono ?_; rintro x1 w1 ⟨rfl, hb1⟩; have HB1 := Lib.hid (HB0.out.trans (hb1.mono HB0.out.size)); have hx1 := HX.out.step hb1; have p0 := hx1.c0; have p1 := hx1.c1; simp only at p0 p1; clear hb1)
          | (go_at_call 64; refine (HFD.out _ HB1.out).mono ?_; rintro x2 w2 ⟨rfl, hb2⟩; have HB2 := Lib.hid (HB1.out.trans (hb2.mono HB1.out.size)); have hx2 := hx1.step hb2; clear hb2)
          | fail)
        clear p0 p1 hx1
        have r2 := cell_regrown hx2.c2
        have hlt := hx2.lt
        simp only at r2
        obtain ⟨b, off, rfl, hbb, c0, c1, c2, c3, c4, c5, c6, c7, c8, c9, ca⟩ := HCE.out _ HB2.out
        have d0 := cell_regrown c0
        have d1 := cell_regrown c1
        have d2 := cell_regrown c2
        have d3 := cell_regrown c3
        have d4 := cell_regrown c4
        have d5 := cell_regrown c5
        have d6 := cell_regrown c6
        have d7 := cell_regrown c7
        have d8 := cell_regrown c8
        have d9 := cell_regrown c9
        have da := cell_regrown ca
        have HRR := Lib.hid (fun d os => HRU.out _ (HB2.out.trans ((below_regrown w2 d os).mono HB2.out.size)))
        clear hx2 c0 c1 c2 c3 c4 c5 c6 c7 c8 c9 ca
        refine wp_region_quiet_below (by kernel_rfl) (by kernel_rfl) ?_
        repeat (first | go_big_quiet_step (exact Calls.regrown_of (HRR.out _ _)) | quiet_step (exact Calls.regrown_of (HRR.out _ _)))
        refine wpQuiet_nil ?_
        intro _ hw'
        obtain ⟨⟨dq, osq⟩, hw''⟩ := hw'
        subst hw''
        have HBV := Lib.hid (HB2.out.trans ((below_regrown w2 dq osq).mono HB2.out.size))
        clear r2 d0 d1 d2 d3 d4 d5 d6 d7 d8 d9 da
        generalize grow (redrawn w2 dq) osq = wv at *
        go_wp2
        go_ret
        exact ⟨ret_bool HL3.out, HBV.out⟩
      · have hd : decide (0 ≤ i) = false := decide_eq_false hi
        have hres : res = false := by rw [HRES.out, hd, Bool.false_and]
        subst hres
        clear HRES
        go_enter Tryz.func58, Tryz.ntmps58
        go_wp2_with (first
          | (go_at_call 57; refine (HBG.out _).mono ?_; rintro x1 w1 ⟨rfl, hb1⟩; have HB1 := Lib.hid (HB0.out.trans (hb1.mono HB0.out.size)); have hx1 := HX.out.step hb1; have p0 := hx1.c0; have p1 := hx1.c1; simp only at p0 p1; clear hb1)
          | (go_at_call 64; refine (HFD.out _ HB1.out).mono ?_; rintro x2 w2 ⟨rfl, hb2⟩; have HB2 := Lib.hid (HB1.out.trans (hb2.mono HB1.out.size)); have hx2 := hx1.step hb2; clear hb2)
          | fail)
        clear p0 p1 hx1
        have r2 := cell_regrown hx2.c2
        have hlt := hx2.lt
        simp only at r2
        clear hx2
        refine wp_region_quiet_below (by kernel_rfl) (by kernel_rfl) ?_
        repeat (first | go_big_quiet_step (fail) | quiet_step (fail))
        refine wpQuiet_nil ?_
        intro _ hw'
        obtain ⟨⟨dq, osq⟩, hw''⟩ := hw'
        subst hw''
        have HBV := Lib.hid (HB2.out.trans ((below_regrown w2 dq osq).mono HB2.out.size))
        clear r2
        generalize grow (redrawn w2 dq) osq = wv at *
        go_wp2
        go_ret
        exact ⟨rfl, HBV.out⟩
  · have hres := HWB.out rfl
    subst hres
    clear hc
    go_enter Tryz.func58, Tryz.ntmps58
    go_wp2_with (first
      | (go_at_call 57; refine (HBG.out _).mono ?_; rintro x1 w1 ⟨rfl, hb1⟩; have HB1 := Lib.hid (HB0.out.trans (hb1.mono HB0.out.size)); clear hb1)
      | fail)
    go_ret
    exact ⟨rfl, HB1.out⟩
end Go.Proofs.YthnedehihbploaaGreatDoor
/- lectionaryref4.Fits, Goes, Row -/
namespace Go.Proofs.YthnedehihbploaaGreatDoor
open Go.RowKit Go.Lib Go.Sort

theorem tot_take1 (l : List OpR) {k : Nat} (hk : k < l.length) : tot ((OpR.os l).take (k + 1)) = tot ((OpR.os l).take k) + nR l[k].o.text := by
  rw [List.take_succ_eq_append_getElem (by rw [os_len]; exact hk), tot_snoc]
  simp [OpR.os]
theorem tot_small (l : List OpR) (hs : Szs l) (k : Nat) : tot ((OpR.os l).take k) ≤ k * 60000 := by
  induction k with
  | zero => rw [List.take_zero]; exact Nat.zero_le _
  | succ k ih =>
    by_cases hk : k < l.length
    · have h1 := hs _ (List.getElem_mem hk)
      have h2 := nR_le l[k].o.text
      rw [tot_take1 l hk, Nat.add_mul, Nat.one_mul]
      exact Nat.add_le_add ih (Nat.le_trans h2 h1)
    · rw [List.take_of_length_le (by rw [os_len]; omega)]
      rw [List.take_of_length_le (by rw [os_len]; omega)] at ih
      exact Nat.le_trans ih (Nat.mul_le_mul_right _ (Nat.le_succ k))
set_option maxRecDepth 100000 in
set_option maxHeartbeats 4000000 in
theorem rFits_any (a : Option Addr) (cap : Nat) (l : List OpR) (w : World) (hT : Tabs w) (hsz : Szs l) (h : OpsAt w a l) (h40 : l.length ≤ 40) : Calls Tryz.prog 54 #[.slice a l.length cap] w (BoB (decide (tot (OpR.os l) ≤ 200)) w) := by
  have HH := Lib.hid h
  have HT := Lib.hid hT
  have HSZ := Lib.hid hsz
  obtain ⟨n, hn⟩ : ∃ n, l.length = n := ⟨_, rfl⟩
  have HN := Lib.hid hn
  rw [hn] at h40 ⊢
  clear h hn hT hsz
  go_enter Tryz.func54, Tryz.ntmps54
  go_wp2_with fail
  go_loopw [3, 4] (fun s3 s4 wr => ∃ k : Nat, s4 = .int .i64 k ∧ k ≤ n ∧ s3 = .int .i64 (tot ((OpR.os l).take k) : Nat) ∧ Below w.heap.size w wr) (fun _ s4 _ => n - (RowKit.intOf s4).toNat)
  case atStart => exact ⟨0, rfl, Nat.zero_le _, rfl, Below.refl _ _⟩
  case round =>
    obtain ⟨k, rfl, hk, rfl, hb⟩ := hrel
    have HB := Lib.hid hb
    have hts := tot_small l HSZ.out k
    have hk40 : (k : Int) ≤ 40 := by omega
    by_cases hlt : k < n
    · have hkl : k < l.length := by rw [HN.out]; exact hlt
      obtain ⟨b, off, rfl, hbb, c0, c1, c2, c3, c4, c5, c6, c7, c8, c9, ca⟩ := (HH.out.below hb).cells k hkl
      have HRU := Lib.hid (Runes4_any l[k].o l[k].a l[k].cap wr (HT.out.next hb) (HSZ.out _ (List.getElem_mem hkl)))
      have HT1 := Lib.hid (tot_take1 l hkl)
      have hnn := nR_le l[k].o.text
      have hn6 := HSZ.out _ (List.getElem_mem hkl)
      generalize tot ((OpR.os l).take k) = t at *
      generalize l[k] = r at *
      obtain ⟨⟨site, seq, kind, ⟨es, eq, ei⟩, text, gone, of, num, gen⟩, ra, rc⟩ := r
      unfold OpD.v at HRU
      simp only at HRU HT1 hnn hn6 c0 c1 c2 c3 c4 c5 c6 c7 c8 c9 ca
      generalize nR text = nn at *
      have hnn2 : nn ≤ 60000 := by omega
      have ht2 : t ≤ 2400000 := by omega
      clear hb hkl hnn hn6 hts
      go_wp2_with (first
        | (go_at_call 86; refine HRU.out.mono ?_; rintro x1 w1 ⟨rfl, hb1⟩; have HB1 := Lib.hid (HB.out.trans (hb1.mono HB.out.size)); clear hb1)
        | fail)
      go_roundw
      case rel => exact ⟨k + 1, by go_num, by omega, by rw [HT1.out]; go_num, HB1.out⟩
      case measure => simp [RowKit.intOf]; omega
    · have HF := Lib.hid (show (OpR.os l).take k = OpR.os l from List.take_of_length_le (by rw [os_len, HN.out]; omega))
      rw [HF.out] at hts ⊢
      generalize tot (OpR.os l) = t at *
      have ht2 : t ≤ 2400000 := by omega
      have hn40 : (n : Int) ≤ 40 := by omega
      clear hts
      go_wp2_with fail
      go_ret
      refine ⟨ret_bool ?_, HB.out⟩
      rw [decide_eq_decide]
      omega

set_option maxRecDepth 100000 in
set_option maxHeartbeats 8000000 in
theorem rGoes_any (a : Option Addr) (cap : Nat) (l : List OpR) (o : OpD) (oa : Option Addr) (oc : Nat) (w : World) (hT : Tabs w) (hsz : Szs l) (hs : o.text.size ≤ 60000) (h : OpsAt w a l) (hi : OpIn w o oa) (hl1000 : l.length ≤ 1000) : Calls Tryz.prog 53 #[.slice a l.length cap, o.v oa oc] w (BoB (goes (OpR.os l) o) w) := by
  have HX := Lib.hid (BoxO.new w o oa oc)
  have hb0 : Below w.heap.size w (w.alloc (o.obj oa oc)) := (Below.refl _ _).alloc (Nat.le_refl _) _
  have HB0 := Lib.hid hb0
  have HI := Lib.hid (fun wx (hx : Below w.heap.size w wx) => hi.gone.below hx)
  have hgl := hi.len
  have HOP := Lib.hid (fun wx (hx : Below w.heap.size w wx) => rOp_any o oa oc wx (hT.next hx) hs (hi.gone.below hx))
  have HMN := Lib.hid (fun wx (hx : Below w.heap.size w wx) => rMany_any a cap l o.site wx (h.below hx))
  have HWR := Lib.hid (fun (e : El) wx (hx : Below w.heap.size w wx) => rWritten_any a cap l e wx (hT.next hx) hsz (h.below hx))
  have HED := Lib.hid (fun wx (hx : Below w.heap.size w wx) => rEdit_any a cap l o.of o.num wx (h.below hx))
  have hcl : cnt (OpR.os l) o.site ≤ 1000 := Nat.le_trans (cnt_le _ _) (by rw [os_len]; exact hl1000)
  obtain ⟨n, hn⟩ : ∃ n, l.length = n := ⟨_, rfl⟩
  have HG : RowKit.Hid (goes (OpR.os l) o = (okOp o && (decide (o.seq = cnt (OpR.os l) o.site + 1) && (wrt (OpR.os l) o.after && (o.gone.all (wrt (OpR.os l)) && (decide (o.kind = 1) || edt (OpR.os l) o.of o.num)))))) := Lib.hid rfl
  rw [hn] at HMN HWR HED ⊢
  clear h hi hT hsz hs hb0 hn hl1000
  generalize goes (OpR.os l) o = res at *
  generalize okOp o = ok at *
  obtain ⟨site, seq, kind, ⟨es, eq, ei⟩, text, gone, of, num, gen⟩ := o
  unfold OpD.v at HOP ⊢
  unfold OpD.obj at HX HB0
  simp only at HX HB0 HI hgl HOP HMN HWR HED hcl HG ⊢
  generalize cnt (OpR.os l) site = c at *
  obtain ⟨g, hg⟩ : ∃ g, gone.length = g := ⟨_, rfl⟩
  have HGL := Lib.hid hg
  rw [hg] at HX HB0 HOP hgl ⊢
  clear hg
  generalize hw0 : w.alloc (.cells #[.int .i64 site, .int .i64 seq, .int .i64 kind, .int .i64 es, .int .i64 eq, .int .i64 ei, .string text, .slice oa g oc, .int .i64 of, .int .i64 num, .int .i64 gen] 39) = w0 at *
  have HW0 := Lib.hid hw0
  have q0 := cell_regrown HX.out.c0
  have q1 := cell_regrown HX.out.c1
  have q2 := cell_regrown HX.out.c2
  have q3 := cell_regrown HX.out.c3
  have q4 := cell_regrown HX.out.c4
  have q5 := cell_regrown HX.out.c5
  have q6 := cell_regrown HX.out.c6
  have q7 := cell_regrown HX.out.c7
  have q8 := cell_regrown HX.out.c8
  have q9 := cell_regrown HX.out.c9
  have qa := cell_regrown HX.out.ca
  have hxl := HX.out.lt
  simp only at q0 q1 q2 q3 q4 q5 q6 q7 q8 q9 qa
  rw [HGL.out] at q7
  have HOR := Lib.hid (fun d os => HOP.out _ (HB0.out.trans ((below_regrown w0 d os).mono HB0.out.size)))
  have HMR := Lib.hid (fun d os => HMN.out _ (HB0.out.trans ((below_regrown w0 d os).mono HB0.out.size)))
  have HWRR := Lib.hid (fun d os => HWR.out ⟨es, eq, ei⟩ _ (HB0.out.trans ((below_regrown w0 d os).mono HB0.out.size)))
  unfold El.v at HWRR
  simp only at HWRR
  have hw1 : IntKind.i64.wrap ((c : Int) + 1) = (c : Int) + 1 := IntWalk.i64_in _ (by omega)
  clear hw0
  cases ok
  · -- it may not be
    have hres : res = false := HG.out
    subst hres
    clear HG
    go_enter Tryz.func53, Tryz.ntmps53
    go_wp2_with fail
    rw [HW0.out]
    refine wp_region_quiet_below (by kernel_rfl) (by kernel_rfl) ?_
    repeat (first | go_big_quiet_step (exact Calls.regrown_of (HOR.out _ _)) | quiet_step (exact Calls.regrown_of (HOR.out _ _)))
    refine wpQuiet_nil ?_
    intro _ hw'
    obtain ⟨⟨dq, osq⟩, hw''⟩ := hw'
    subst hw''
    have HBV := Lib.hid (HB0.out.trans ((below_regrown w0 dq osq).mono HB0.out.size))
    clear q0 q1 q2 q3 q4 q5 q6 q7 q8 q9 qa hw1
    generalize grow (redrawn w0 dq) osq = wv at *
    go_wp2
    go_ret
    exact ⟨rfl, HBV.out⟩
  · by_cases hseq : seq = (c : Int) + 1
    · subst hseq
      have HG2 : RowKit.Hid (res = (wrt (OpR.os l) ⟨es, eq, ei⟩ && (gone.all (wrt (OpR.os l)) && (decide (kind = 1) || edt (OpR.os l) of num)))) := Lib.hid (by rw [HG.out, decide_eq_true rfl, Bool.true_and, Bool.true_and])
      clear HG
      generalize wrt (OpR.os l) ⟨es, eq, ei⟩ = wa at *
      cases wa
      · have hres : res = false := HG2.out
        subst hres
        clear HG2
        go_enter Tryz.func53, Tryz.ntmps53
        go_wp2_with fail
        rw [HW0.out]
        refine wp_region_quiet_below (by kernel_rfl) (by kernel_rfl) ?_
        repeat (first | go_big_quiet_step (first | exact Calls.regrown_of (HOR.out _ _) | exact Calls.regrown_of (HMR.out _ _) | exact Calls.regrown_of (HWRR.out _ _)) | quiet_step (first | exact Calls.regrown_of (HOR.out _ _) | exact Calls.regrown_of (HMR.out _ _) | exact Calls.regrown_of (HWRR.out _ _)))
        refine wpQuiet_nil ?_
        intro _ hw'
        obtain ⟨⟨dq, osq⟩, hw''⟩ := hw'
        subst hw''
        have HBV := Lib.hid (HB0.out.trans ((below_regrown w0 dq osq).mono HB0.out.size))
        clear q0 q1 q2 q3 q4 q5 q6 q7 q8 q9 qa hw1
        generalize grow (redrawn w0 dq) osq = wv at *
        go_wp2
        go_ret
        exact ⟨rfl, HBV.out⟩
      · have HG3 : RowKit.Hid (res = (gone.all (wrt (OpR.os l)) && (decide (kind = 1) || edt (OpR.os l) of num))) := Lib.hid (by rw [HG2.out, Bool.true_and])
        clear HG2
        go_enter Tryz.func53, Tryz.ntmps53
        go_wp2_with fail
        rw [HW0.out]
        refine wp_region_quiet_below (by kernel_rfl) (by kernel_rfl) ?_
        repeat (first | go_big_quiet_step (first | exact Calls.regrown_of (HOR.out _ _) | exact Calls.regrown_of (HMR.out _ _) | exact Calls.regrown_of (HWRR.out _ _)) | quiet_step (first | exact Calls.regrown_of (HOR.out _ _) | exact Calls.regrown_of (HMR.out _ _) | exact Calls.regrown_of (HWRR.out _ _)))
        refine wpQuiet_nil ?_
        intro _ hw'
        obtain ⟨⟨dq, osq⟩, hw''⟩ := hw'
        subst hw''
        have HXV := Lib.hid (HX.out.step (below_regrown w0 dq osq))
        have HBV := Lib.hid (HB0.out.trans ((below_regrown w0 dq osq).mono HB0.out.size))
        clear q0 q1 q2 q3 q4 q5 q6 q7 q8 q9 qa hw1 hxl
        generalize grow (redrawn w0 dq) osq = wv at *
        clear HX HB0 HW0 HOR HMR HWRR HOP HMN
        go_wp2_with fail
        go_loopw [5] (fun s5 wr => ∃ k : Nat, s5 = .int .i64 k ∧ k ≤ g ∧ Below wv.heap.size wv wr ∧ ∀ j (hj : j < gone.length), j < k → wrt (OpR.os l) gone[j] = true) (fun s5 _ => g - (RowKit.intOf s5).toNat)
        case atStart => exact ⟨0, rfl, Nat.zero_le _, Below.refl _ _, fun j _ hj => absurd hj (by omega)⟩
        case round =>
          obtain ⟨k, rfl, hk, hb, hall⟩ := hrel
          have HALL := Lib.hid hall
          have HXR := Lib.hid (HXV.out.next hb HXV.out.lt)
          have HBR := Lib.hid (HBV.out.trans (hb.mono HBV.out.size))
          have HBB := Lib.hid hb
          have p7 := HXR.out.c7
          simp only at p7
          rw [HGL.out] at p7
          have hxl := HXR.out.lt
          clear hall
          by_cases hlt : k < g
          · have hkl : k < gone.length := by rw [HGL.out]; exact hlt
            obtain ⟨b, off, rfl, hbb, x0, x1, x2⟩ := (HI.out _ HBR.out).cell k hkl
            have HW1 := Lib.hid (HWR.out gone[k] wr HBR.out)
            have HSTEP := Lib.hid (show wrt (OpR.os l) gone[k] = true → ∀ j (hj : j < gone.length), j < k + 1 → wrt (OpR.os l) gone[j] = true from fun ht j hj hjk => by
              by_cases hjk2 : j = k
              · subst hjk2; exact ht
              · exact HALL.out j hj (by omega))
            have HNO := Lib.hid (show wrt (OpR.os l) gone[k] = false → res = false from fun hf => by
              rw [HG3.out]
              have : gone.all (wrt (OpR.os l)) = false := Bool.eq_false_iff.2 (fun hh => by
                rw [List.all_eq_true] at hh
                have := hh _ (List.getElem_mem hkl)
                rw [hf] at this
                cases this)
              rw [this, Bool.false_and])
            generalize wrt (OpR.os l) gone[k] = wk at *
            generalize gone[k] = e at *
            obtain ⟨xs, xq, xi⟩ := e
            unfold El.v at HW1
            simp only at x0 x1 x2 HW1
            clear hb hkl
            cases wk
            · have hres := HNO.out rfl
              subst hres
              clear HG3 HNO HSTEP
              go_wp2_with (first
                | (go_at_call 58; refine HW1.out.mono ?_; rintro x1 w1 ⟨rfl, hb1⟩; have HB1 := Lib.hid (HBR.out.trans (hb1.mono HBR.out.size)); clear hb1)
                | fail)
              go_ret
              exact ⟨rfl, HB1.out⟩
            · go_wp2_with (first
                | (go_at_call 58; refine HW1.out.mono ?_; rintro x1 w1 ⟨rfl, hb1⟩; have HB1 := Lib.hid (HBB.out.trans (hb1.mono HBB.out.size)); clear hb1)
                | fail)
              go_roundw
              case rel => exact ⟨k + 1, by go_num, by omega, HB1.out, HSTEP.out (by trivial)⟩
              case measure => simp [RowKit.intOf]; omega
          · have hg1 : gone.all (wrt (OpR.os l)) = true := by
              rw [List.all_eq_true]
              intro x hx
              obtain ⟨j, hj, rfl⟩ := List.getElem_of_mem hx
              exact HALL.out j hj (by rw [HGL.out] at hj; omega)
            have hr2 : res = (decide (kind = 1) || edt (OpR.os l) of num) := by rw [HG3.out, hg1, Bool.true_and]
            have HR2 := Lib.hid hr2
            have HEDR := Lib.hid (HED.out wr HBR.out)
            have p2 := HXR.out.c2
            have p8 := HXR.out.c8
            have p9 := HXR.out.c9
            simp only at p2 p8 p9
            generalize edt (OpR.os l) of num = ed at *
            clear hb hg1 hr2 HG3 HALL
            by_cases hk1 : kind = 1
            · have hres : res = true := by rw [HR2.out, decide_eq_true hk1, Bool.true_or]
              subst hk1 hres
              go_wp2_with fail
              go_ret
              exact ⟨rfl, HBR.out⟩
            · have hres : res = ed := by rw [HR2.out, decide_eq_false hk1, Bool.false_or]
              subst hres
              go_wp2_with (first
                | (go_at_call 67; refine HEDR.out.mono ?_; rintro x1 w1 ⟨rfl, hb1⟩; have HB1 := Lib.hid (HBR.out.trans (hb1.mono HBR.out.size)); clear hb1)
                | fail)
              go_ret
              exact ⟨ret_bool (by simp [hk1]), HB1.out⟩
    · have hres : res = false := by rw [HG.out, decide_eq_false hseq, Bool.false_and, Bool.true_and]
      subst hres
      have hne2 : (seq == (c : Int) + 1) = false := by simpa using hseq
      clear HG
      go_enter Tryz.func53, Tryz.ntmps53
      go_wp2_with fail
      rw [HW0.out]
      refine wp_region_quiet_below (by kernel_rfl) (by kernel_rfl) ?_
      repeat (first | go_big_quiet_step (first | exact Calls.regrown_of (HOR.out _ _) | exact Calls.regrown_of (HMR.out _ _)) | quiet_step (first | exact Calls.regrown_of (HOR.out _ _) | exact Calls.regrown_of (HMR.out _ _)))
      refine wpQuiet_nil ?_
      intro _ hw'
      obtain ⟨⟨dq, osq⟩, hw''⟩ := hw'
      subst hw''
      have HBV := Lib.hid (HB0.out.trans ((below_regrown w0 dq osq).mono HB0.out.size))
      clear q0 q1 q2 q3 q4 q5 q6 q7 q8 q9 qa hw1
      generalize grow (redrawn w0 dq) osq = wv at *
      go_wp2
      go_ret
      exact ⟨rfl, HBV.out⟩
end Go.Proofs.YthnedehihbploaaGreatDoor
/- lectionaryref4.Row -/
namespace Go.Proofs.YthnedehihbploaaGreatDoor
open Go.RowKit Go.Lib Go.Sort

theorem rowB_of {l : List OpR} (h40 : l.length ≤ 40) (hall : ∀ j (hj : j < l.length), goes ((OpR.os l).take j) l[j].o = true) : rowB (OpR.os l) = decide (tot (OpR.os l) ≤ 200) := by
  have hG : rowG (OpR.os l) ↔ tot (OpR.os l) ≤ 200 := by
    constructor
    · exact fun h => h.2.2
    · intro h
      refine ⟨by rw [os_len]; exact h40, fun k hk => ?_, h⟩
      rw [os_len] at hk
      have := hall k hk
      simpa [OpR.os] using this
  cases hd : decide (tot (OpR.os l) ≤ 200) with
  | true => exact (rowB_iff _).2 ((row_iff _).2 (hG.2 (of_decide_eq_true hd)))
  | false => exact rowB_no (fun h => absurd (hG.1 ((row_iff _).1 h)) (of_decide_eq_false hd))
theorem rowB_bad {l : List OpR} {k : Nat} (hk : k < l.length) (h : goes ((OpR.os l).take k) l[k].o = false) : rowB (OpR.os l) = false := by
  refine rowB_no (fun hr => ?_)
  have h2 := ((row_iff _).1 hr).2.1 k (by rw [os_len]; exact hk)
  have h3 : (OpR.os l)[k]'(by rw [os_len]; exact hk) = l[k].o := by simp [OpR.os]
  rw [h3, h] at h2
  cases h2
set_option maxRecDepth 100000 in
set_option maxHeartbeats 8000000 in
theorem rRow_any (a : Option Addr) (cap : Nat) (l : List OpR) (w : World) (hT : Tabs w) (hsz : Szs l) (h : OpsAt w a l) (hcap : l.length ≤ cap) : Calls Tryz.prog 19 #[.slice a l.length cap] w (BoB (rowB (OpR.os l)) w) := by
  have hbig := h.len
  have hbi := big_is
  by_cases h40 : l.length ≤ 40
  · have HFT := Lib.hid (fun wx (hx : Below w.heap.size w wx) => rFits_any a cap l wx (hT.next hx) hsz (h.below hx) h40)
    have HGO := Lib.hid (fun (k : Nat) (hk : k < l.length) wx (hx : Below w.heap.size w wx) => rGoes_any a cap (l.take k) l[k].o l[k].a l[k].cap wx (hT.next hx) (fun r hr => hsz r (List.mem_of_mem_take hr)) (hsz _ (List.getElem_mem hk)) ((h.below hx).take k) ⟨((h.below hx).op k hk).gone, ((h.below hx).op k hk).len, ((h.below hx).op k hk).size⟩ (by rw [List.length_take]; omega))
    have HRB := Lib.hid (fun hall => rowB_of h40 hall)
    have HNO := Lib.hid (fun k hk hg => rowB_bad (l := l) (k := k) hk hg)
    have HH := Lib.hid h
    obtain ⟨n, hn⟩ : ∃ n, l.length = n := ⟨_, rfl⟩
    have HN := Lib.hid hn
    rw [hn] at HFT hcap h40 ⊢
    generalize rowB (OpR.os l) = res at *
    clear h hT hsz hn hbig hbi
    go_enter Tryz.func19, Tryz.ntmps19
    go_wp2_with fail
    go_loopw [3] (fun s3 wr => ∃ k : Nat, s3 = .int .i64 k ∧ k ≤ n ∧ Below w.heap.size w wr ∧ ∀ j (hj : j < l.length), j < k → goes ((OpR.os l).take j) l[j].o = true) (fun s3 _ => n - (RowKit.intOf s3).toNat)
    case atStart => exact ⟨0, rfl, Nat.zero_le _, Below.refl _ _, fun j _ hj => absurd hj (by omega)⟩
    case round =>
      obtain ⟨k, rfl, hk, hb, hall⟩ := hrel
      have HALL := Lib.hid hall
      have HB := Lib.hid hb
      have hk40 : (k : Int) ≤ 40 := by omega
      clear hall
      by_cases hlt : k < n
      · have hkl : k < l.length := by rw [HN.out]; exact hlt
        have HG := Lib.hid (fun d os => HGO.out k hkl (grow (redrawn wr d) os) (HB.out.trans ((below_regrown wr d os).mono HB.out.size)))
        have htl : (l.take k).length = k := by rw [List.length_take, HN.out]; omega
        rw [htl, ← os_take] at HG
        have HST := Lib.hid (show goes ((OpR.os l).take k) l[k].o = true → ∀ j (hj : j < l.length), j < k + 1 → goes ((OpR.os l).take j) l[j].o = true from fun ht j hj hjk => by
          by_cases hjk2 : j = k
          · subst hjk2; exact ht
          · exact HALL.out j hj (by omega))
        have HNO2 := Lib.hid (fun hg => HNO.out k hkl hg)
        obtain ⟨b, off, rfl, hbb, c0, c1, c2, c3, c4, c5, c6, c7, c8, c9, ca⟩ := (HH.out.below hb).cells k hkl
        generalize goes ((OpR.os l).take k) l[k].o = gk at *
        generalize l[k] = r at *
        obtain ⟨⟨site, seq, kind, ⟨es, eq, ei⟩, text, gone, of, num, gen⟩, ra, rc⟩ := r
        unfold OpD.v at HG
        simp only at HG c0 c1 c2 c3 c4 c5 c6 c7 c8 c9 ca
        have d0 := cell_regrown c0
        have d1 := cell_regrown c1
        have d2 := cell_regrown c2
        have d3 := cell_regrown c3
        have d4 := cell_regrown c4
        have d5 := cell_regrown c5
        have d6 := cell_regrown c6
        have d7 := cell_regrown c7
        have d8 := cell_regrown c8
        have d9 := cell_regrown c9
        have da := cell_regrown ca
        clear c0 c1 c2 c3 c4 c5 c6 c7 c8 c9 ca hb hkl htl
        cases gk
        · have hres := HNO2.out rfl
          subst hres
          clear HNO2 HST
          go_wp2_with fail
          refine wp_region_quiet_below (by kernel_rfl) (by kernel_rfl) ?_
          repeat (first | go_big_quiet_step (exact Calls.regrown_of (HG.out _ _)) | quiet_step (exact Calls.regrown_of (HG.out _ _)))
          refine wpQuiet_nil ?_
          intro _ hw'
          obtain ⟨⟨dq, osq⟩, hw''⟩ := hw'
          subst hw''
          have HBV := Lib.hid (HB.out.trans ((below_regrown wr dq osq).mono HB.out.size))
          clear d0 d1 d2 d3 d4 d5 d6 d7 d8 d9 da
          generalize grow (redrawn wr dq) osq = wv at *
          go_wp2
          go_ret
          exact ⟨rfl, HBV.out⟩
        · go_wp2_with fail
          refine wp_region_quiet_below (by kernel_rfl) (by kernel_rfl) ?_
          repeat (first | go_big_quiet_step (exact Calls.regrown_of (HG.out _ _)) | quiet_step (exact Calls.regrown_of (HG.out _ _)))
          refine wpQuiet_nil ?_
          intro _ hw'
          obtain ⟨⟨dq, osq⟩, hw''⟩ := hw'
          subst hw''
          have HBV := Lib.hid (HB.out.trans ((below_regrown wr dq osq).mono HB.out.size))
          clear d0 d1 d2 d3 d4 d5 d6 d7 d8 d9 da
          generalize grow (redrawn wr dq) osq = wv at *
          go_wp2_with fail
          go_roundw
          case rel => exact ⟨k + 1, by go_num, by omega, HBV.out, HST.out (by trivial)⟩
          case measure => simp [RowKit.intOf]; omega
      · have HRES := Lib.hid (HRB.out (fun j hj => HALL.out j hj (by rw [HN.out] at hj; omega)))
        have HFR := Lib.hid (HFT.out wr hb)
        generalize decide (tot (OpR.os l) ≤ 200) = dt at *
        clear hb
        go_wp2_with (first
          | (go_at_call 54; refine HFR.out.mono ?_; rintro x1 w1 ⟨rfl, hb1⟩; have HB1 := Lib.hid (HB.out.trans (hb1.mono HB.out.size)); clear hb1)
          | fail)
        go_ret
        exact ⟨ret_bool HRES.out.symm, HB1.out⟩
  · have HF := Lib.hid (rowB_no (l := OpR.os l) (fun hr => by have := hr.1; rw [os_len] at this; omega))
    obtain ⟨n, hn⟩ : ∃ n, l.length = n := ⟨_, rfl⟩
    rw [hn] at h40 hbig ⊢
    have h41 : (40 : Int) < (n : Int) := by omega
    clear h hT hsz hn hcap hbig hbi
    go_enter Tryz.func19, Tryz.ntmps19
    go_wp2
    go_ret
    exact ⟨ret_bool HF.out.symm, Below.refl _ _⟩
end Go.Proofs.YthnedehihbploaaGreatDoor
/- slices.Index, slices.Contains at elements; tree.Place -/
namespace Go.Proofs.YthnedehihbploaaGreatDoor
open Go.RowKit Go.Lib

set_option maxRecDepth 100000 in
set_option maxHeartbeats 2000000 in
theorem Index_any (a : Option Addr) (cap : Nat) (l : List El) (e : El) (w : World) (h : ElemsAt w a l) (hl : l.length ≤ 1000000) :
    Calls Tryz.prog 87 #[.slice a l.length cap, e.v] w (IntB (atI l e) w) := by
  have HH := Lib.hid h
  obtain ⟨n, hn⟩ : ∃ n, l.length = n := ⟨_, rfl⟩
  have HN := Lib.hid hn
  have HA := Lib.hid (fun k hk hall => atI_at (l := l) (e := e) (k := k) hk hall)
  have HNO := Lib.hid (fun hall => atI_no (l := l) (e := e) hall)
  rw [hn] at hl ⊢
  have hbx := BoxE.new w e
  have HB0 : RowKit.Hid (Below w.heap.size w (w.alloc (.cells #[.int .i64 e.s, .int .i64 e.q, .int .i64 e.i] 37))) := Lib.hid ((Below.refl _ _).alloc (Nat.le_refl _) _)
  have HBX := Lib.hid hbx
  clear h hn hbx
  obtain ⟨s, q, i⟩ := e
  unfold El.v
  simp only at HB0 HBX ⊢
  generalize atI l ⟨s, q, i⟩ = z at *
  go_enter Tryz.func87, Tryz.ntmps87
  go_wp2_with fail
  go_loopw [8] (fun s8 wr => ∃ k : Nat, s8 = .int .i64 k ∧ k ≤ n ∧ Below w.heap.size w wr ∧ BoxE wr w.heap.size ⟨s, q, i⟩ ∧ ∀ j x, j < k → l[j]? = some x → x ≠ ⟨s, q, i⟩) (fun s8 _ => n - (RowKit.intOf s8).toNat)
  case atStart => exact ⟨0, rfl, Nat.zero_le _, HB0.out, HBX.out, fun j x hj => absurd hj (by omega)⟩
  case round =>
    clear HB0 HBX
    obtain ⟨k, rfl, hk, hb, hbx, hall⟩ := hrel
    have HALL := Lib.hid hall
    have HBX := Lib.hid hbx
    have HB := Lib.hid hb
    clear hall
    by_cases hlt : k < n
    · have hkl : k < l.length := by rw [HN.out]; exact hlt
      obtain ⟨b, off, rfl, hbb, x0, x1, x2⟩ := (HH.out.below hb).cell k hkl
      have y0 := hbx.c0
      have y1 := hbx.c1
      have y2 := hbx.c2
      have hyl := hbx.lt
      have HG := Lib.hid (show l[k]? = some l[k] from List.getElem?_eq_getElem hkl)
      clear hb hbx
      generalize l[k] = x at *
      clear hkl
      have hsp := el_split ⟨s, q, i⟩ x
      obtain ⟨xs, xq, xi⟩ := x
      simp only at x0 x1 x2 hsp
      rcases hsp with ⟨he, z0, z1, z2⟩ | ⟨hne, hz⟩
      · have HZ := Lib.hid (HA.out k (by rw [HG.out, he]) HALL.out)
        clear he
        subst z0
        subst z1
        subst z2
        go_wp2_with fail
        go_quiet (fail)
        go_wp2
        go_ret
        exact ⟨ret_int HZ.out.symm, HB.out.trans ((Same.drewN wr nq).below _)⟩
      · have HNE := Lib.hid hne
        clear hne
        rcases hz with z0 | ⟨z0, z1⟩ | ⟨z0, z1, z2⟩
        all_goals
          try subst z0
          try subst z1
          go_wp2_with fail
          go_quiet (fail)
          go_wp2
          go_roundw
          case rel => exact ⟨k + 1, by go_num, by omega, HB.out.trans ((Same.drewN wr _).below _), HBX.out.next ((Same.drewN wr _).below wr.heap.size) HBX.out.lt, fun j x hj hx => by
            by_cases hjk : j = k
            · rw [hjk, HG.out] at hx; cases hx; exact fun h => HNE.out h.symm
            · exact HALL.out j x (by omega) hx⟩
          case measure => simp [RowKit.intOf]; omega
    · have HF := Lib.hid (HNO.out (fun j x hx => HALL.out j x (by have := (List.getElem?_eq_some_iff.1 hx).1; rw [HN.out] at this; omega) hx))
      clear hb hbx
      go_wp2
      go_ret
      exact ⟨ret_int HF.out.symm, HB.out⟩
theorem Contains_any (a : Option Addr) (cap : Nat) (l : List El) (e : El) (w : World) (h : ElemsAt w a l) (hl : l.length ≤ 1000000) :
    Calls Tryz.prog 82 #[.slice a l.length cap, e.v] w (BoB (decide (e ∈ l)) w) := by
  have HI := Lib.hid (fun wx (hx : Below w.heap.size w wx) => Index_any a cap l e wx (h.below hx) hl)
  have HX := Lib.hid (BoxE.new w e)
  have HB0 : RowKit.Hid (Below w.heap.size w (w.alloc (.cells #[.int .i64 e.s, .int .i64 e.q, .int .i64 e.i] 37))) := Lib.hid ((Below.refl _ _).alloc (Nat.le_refl _) _)
  have hle := atI_le (l := l) (e := e)
  have HD : RowKit.Hid (decide (e ∈ l) = decide (0 ≤ atI l e)) := Lib.hid (by
    rw [decide_eq_decide]
    constructor
    · exact atI_pos
    · intro h2
      by_cases hm : e ∈ l
      · exact hm
      · rw [atI_neg hm] at h2; omega)
  obtain ⟨n, hn⟩ : ∃ n, l.length = n := ⟨_, rfl⟩
  rw [hn] at HI hle hl ⊢
  clear h hn
  obtain ⟨s, q, i⟩ := e
  unfold El.v at HI ⊢
  simp only at HI HX HB0 hle HD ⊢
  generalize atI l ⟨s, q, i⟩ = z at *
  go_enter Tryz.func82, Tryz.ntmps82
  go_wp2_with (first
    | (go_at_call 87; refine (HI.out _ HB0.out).mono ?_; rintro x1 w1 ⟨rfl, hb1⟩; have HB1 := Lib.hid (HB0.out.trans (hb1.mono HB0.out.size)); clear hb1)
    | fail)
  go_ret
  exact ⟨ret_bool HD.out.symm, HB1.out⟩

def PlacePost (n e : Int) (w : World) (x : Ending) (w' : World) : Prop := x = .returned (.tuple #[.int .i64 n, .int .i64 e]) ∧ Below w.heap.size w w'
end Go.Proofs.YthnedehihbploaaGreatDoor
/- tree.inOrder, tree.Under -/
namespace Go.Proofs.YthnedehihbploaaGreatDoor
open Go.RowKit Go.Lib

/-- the later ones first -/
def Desc (S : List Nd) : Prop := S.Pairwise (fun a b => b.op < a.op)
theorem kids_desc {D : List Tn} (h : TOrd D) (e : El) : Desc (kids D e) := by
  have h1 : D.Pairwise (fun a b => a.par = e → b.par = e → b.nd.op < a.nd.op) := by
    rw [List.pairwise_iff_getElem]
    intro i j hi hj hij hpi hpj
    have g1 : D[i]? = some D[i] := List.getElem?_eq_getElem hi
    have g2 : D[j]? = some D[j] := List.getElem?_eq_getElem hj
    have hs := h.par i _ g1
    rw [hpi, ← hpj] at hs
    exact h.ahead i _ g1 j _ hij g2 hs
  unfold Desc kids
  rw [List.pairwise_map]
  refine List.Pairwise.imp_of_mem ?_ (h1.filter (fun t => decide (t.par = e)))
  intro a b ha hb hab
  have h2 := of_decide_eq_true (List.mem_filter.1 ha).2
  have h3 := of_decide_eq_true (List.mem_filter.1 hb).2
  exact hab h2 h3
theorem desc_step {S : List Nd} (hS : Desc S) {m : Nat} {t : Nd} (ht : S[m]? = some t) {x : Nd} {L2 : List Nd} (hp : (x :: L2).Perm (S.drop m)) (hmax : ∀ y ∈ L2, y.op ≤ x.op) : x = t ∧ L2.Perm (S.drop (m + 1)) := by
  obtain ⟨hm, hte⟩ := List.getElem?_eq_some_iff.1 ht
  have hdrop : S.drop m = t :: S.drop (m + 1) := by rw [List.drop_eq_getElem_cons hm, hte]
  have hlt : ∀ y ∈ S.drop (m + 1), y.op < t.op := by
    have h2 : Desc (S.drop m) := List.Pairwise.sublist (List.drop_sublist _ _) hS
    rw [hdrop] at h2
    exact (List.pairwise_cons.1 h2).1
  rw [hdrop] at hp
  have hx : x = t := by
    rcases List.mem_cons.1 (hp.subset (List.mem_cons_self ..)) with e | hxR
    · exact e
    · have h4 := hlt x hxR
      rcases List.mem_cons.1 (hp.symm.subset (List.mem_cons_self ..)) with e | htL
      · exact e.symm
      · have := hmax _ htL
        omega
  subst hx
  exact ⟨rfl, List.Perm.cons_inv hp⟩
/-- behind m: the front, and what was told -/
def ISt (S : List Nd) (base : Nat) (w wr : World) (m : Nat) (lv : Value) : Prop :=
  ∃ v L, Fr wr base base v L ∧ HeapN L L.length ∧ L.Perm (S.drop m) ∧ wr.ownsRow base 37 3 lv m (ecs ((S.take m).map Nd.e)) ∧ Apart lv base v ∧ Below base w wr ∧ base ≤ wr.heap.size
theorem i_start {S : List Nd} {base : Nat} {w w1 w2 : World} {L2 : List Nd} (hb : Below base w w1) (hs : w.heap.size = base) (hto : FrTo base base w1 (.slice none 0 0) L2 w2) (hp : L2.Perm S) (hh : HeapN L2 L2.length) : ISt S base w w2 0 (.slice none 0 0) := by
  have hs1 : base ≤ w1.heap.size := by have := hb.size; omega
  obtain ⟨v2, h1, h2, h3, h4⟩ := front_keeps (World.ownsRow_nil w1 base 37 3) (Apart.nil base (.slice none 0 0)) hto (Nat.le_refl _) (fun g h => absurd h (by simp [Value.ownBlock])) hs1
  exact ⟨v2, L2, h1, hh, hp, h2, h3, hb.trans h4, by have := h4.size; omega⟩
theorem i_len {S : List Nd} {base : Nat} {w wr : World} {m : Nat} {lv : Value} (h : ISt S base w wr m lv) : lenOf lv = m := by
  obtain ⟨v, L, _, _, _, ho, _⟩ := h
  rcases ho.2 with ⟨hv, h0⟩ | ⟨g, cap, cur, hv, _⟩
  · rw [hv, h0]; rfl
  · rw [hv]; rfl
theorem i_first {S : List Nd} {base : Nat} {w wr w1 w2 : World} {m : Nat} {lv v : Value} {L L2 : List Nd} {x t : Nd} (hD : Desc S) (ht : S[m]? = some t) (hf : Fr wr base base v L) (ho : wr.ownsRow base 37 3 lv m (ecs ((S.take m).map Nd.e))) (hap : Apart lv base v) (hb : Below base w wr) (hbs : base ≤ wr.heap.size)
    (hs : Same wr w1) (hto : FrTo base base w1 v L2 w2) (hp : (x :: L2).Perm (S.drop m)) (hmax : ∀ y ∈ L2, y.op ≤ x.op) :
    x = t ∧ L2.Perm (S.drop (m + 1)) ∧ ∃ v2, Fr w2 base base v2 L2 ∧ w2.ownsRow base 37 3 lv m (ecs ((S.take m).map Nd.e)) ∧ Apart lv base v2 ∧ Below base w w2 ∧ base ≤ w2.heap.size := by
  obtain ⟨hx, hpp⟩ := desc_step hD ht hp hmax
  obtain ⟨v2, h1, h2, h3, h4⟩ := front_keeps (hs.owns ho) hap hto (Nat.le_refl _) (fun g hg => (hf.own.lt g hg).1) (by rw [hs.heap]; exact hbs)
  exact ⟨hx, hpp, v2, h1, h2, h3, (hb.trans (hs.below base)).trans h4, by have := h4.size; rw [hs.heap] at this; omega⟩
theorem i_take {S : List Nd} {m : Nat} {t : Nd} (ht : S[m]? = some t) : ecs ((S.take (m + 1)).map Nd.e) = ecs ((S.take m).map Nd.e) ++ El.cs t.e := by
  obtain ⟨h1, h2⟩ := List.getElem?_eq_some_iff.1 ht
  rw [List.take_succ_eq_append_getElem h1, List.map_append, ecs_append, h2]
  simp [ecs]
theorem i_next {S : List Nd} {base m : Nat} {w w2 w8 : World} {lv v8 v2 : Value} {L2 : List Nd} {o : Obj} {e : El} (hmt : ecs ((S.take (m + 1)).map Nd.e) = ecs ((S.take m).map Nd.e) ++ El.cs e) (hp : L2.Perm (S.drop (m + 1))) (hh : HeapN L2 L2.length)
    (hf : Fr w2 base base v2 L2) (ho : w2.ownsRow base 37 3 lv m (ecs ((S.take m).map Nd.e))) (hap : Apart lv base v2) (hb : Below base w w2) (hbs : base ≤ w2.heap.size)
    (ho8 : w8.ownsRow base 37 3 v8 (m + 1) (ecs ((S.take m).map Nd.e) ++ El.cs e)) (hg : (w2.alloc o).grownBy w8 lv.ownBlock) (hat : v8.ownBlock = lv.ownBlock ∨ v8.ownBlock = some (w2.alloc o).heap.size) : ISt S base w w8 (m + 1) v8 := by
  obtain ⟨h1, h2⟩ := append_keeps (hf.alloc o) hg hap hat
  have hsz := hg.size
  have hs : (w2.alloc o).heap.size = w2.heap.size + 1 := by simp
  rw [← hmt] at ho8
  exact ⟨v2, L2, h1, hh, hp, ho8, h2, hb.trans (((Below.refl base w2).alloc hbs _).grown hg (by omega) (fun j hj => (ho.lt j hj).1)), by omega⟩
end Go.Proofs.YthnedehihbploaaGreatDoor
/- tree.Under -/
namespace Go.Proofs.YthnedehihbploaaGreatDoor
open Go.RowKit Go.Lib Go.Sort

theorem NodesAt.up {w : World} {base base' : Nat} {a : Option Addr} {l : List Nd} (h : NodesAt w base a l) (hb : base ≤ base') : NodesAt w base' a l :=
  ⟨fun j hj => by
    obtain ⟨b, off, h1, h2, h3⟩ := h.cell j hj
    exact ⟨b, off, h1, by omega, h3⟩⟩
theorem grp_below {w wr : World} {bm : Nat} {A : List Tn} (h : Grp w bm A) (hb : Below w.heap.size w wr) : Grp wr bm A := by
  obtain ⟨n, V, hM, h1, h2⟩ := h
  refine ⟨n, V, hM.kept (hb.block bm hM.lt), h1, fun e v hv => ?_⟩
  obtain ⟨a, cap, rfl, hn⟩ := h2 e v hv
  exact ⟨a, cap, rfl, (hn.below hb).up hb.size⟩
theorem drew_below {w w' : World} (h : Below w.drew.heap.size w.drew w') : Below w.heap.size w w' := ⟨h.os, h.tape, h.output, h.size, fun k hk => h.block k hk⟩
/-- what hangs under e, in new memory; or none does, as e is not there -/
def UndPost (bb : Bool) (X : List El) (w : World) (x : Ending) (w' : World) : Prop :=
  (bb = false ∧ (∃ v, x = .returned (.tuple #[v, .int .i64 0]) ∧ w'.ownsRow w.heap.size 37 3 v X.length (ecs X)) ∧ Below w.heap.size w w') ∨ (bb = true ∧ x = .returned (.tuple #[.slice none 0 0, .int .i64 3]) ∧ Below w.heap.size w w')
theorem e_fit {l : List OpD} (hr : rowP l) {e : El} (he : e = B0 ∨ e ∈ ordE l) : e.fit := by
  rcases he with rfl | he
  · exact b0_fit
  · have hinv := row_inv hr.2 l.length (Nat.le_refl _)
    rw [List.take_length] at hinv
    unfold ordE at he
    obtain ⟨u, hu, rfl⟩ := List.mem_map.1 he
    exact ord_fit hinv (fun s => Nat.le_trans (cnt_le _ _) hr.1) u hu
end Go.Proofs.YthnedehihbploaaGreatDoor
/- lectionaryref4.Under -/
namespace Go.Proofs.YthnedehihbploaaGreatDoor
open Go.RowKit Go.Lib Go.Sort

theorem up_len (e : El) (L : List OpD) : (up e L).length ≤ L.length := by
  induction L with
  | nil => exact Nat.le_refl _
  | cons o r ih =>
    rw [up, List.length_append, List.length_cons]
    have : (if o.text = ⟨#[]⟩ then ([] : List El) else if o.after = e then [⟨o.site, o.seq, 0⟩] else []).length ≤ 1 := by
      split
      · simp
      · split <;> simp
    omega
theorem up_step {l : List OpR} {j : Nat} (hj : j < l.length) (e : El) : up e ((OpR.os l).drop j) = up e ((OpR.os l).drop (j + 1)) ++ (if l[j].o.text = ⟨#[]⟩ then [] else if l[j].o.after = e then [⟨l[j].o.site, l[j].o.seq, 0⟩] else []) := by
  rw [List.drop_eq_getElem_cons (by rw [os_len]; exact hj), up]
  simp [OpR.os]
theorem same_drew (w : World) : Same w w.drew := ⟨rfl, rfl, rfl, rfl⟩
def mOf : Value → Nat
  | .slice _ n _ => n
  | _ => 0
theorem own_form {w : World} {base : Nat} {v : Value} {n : Nat} {xs : List Value} {t : TypeId} {size : Nat} (h : w.ownsRow base t size v n xs) : ∃ a c, v = .slice a n c := by
  rcases h.2 with ⟨hv, h0⟩ | ⟨g, cap, cur, hv, _⟩
  · exact ⟨none, 0, by rw [hv, h0]⟩
  · exact ⟨_, cap, hv⟩
set_option maxRecDepth 100000 in
set_option maxHeartbeats 8000000 in
theorem rUnder_any (a : Option Addr) (cap : Nat) (l : List OpR) (e : El) (w : World) (hT : Tabs w) (hsz : Szs l) (h : OpsAt w a l) (hl : l.length ≤ 1000) (hi0 : 0 ≤ e.i) (hi1 : e.i ≤ 1000) : Calls Tryz.prog 90 #[.slice a l.length cap, e.v] w (OwnPost (undP (OpR.os l) e) w) := by
  obtain ⟨i0, hq0, hz0, hz1, hz2⟩ := info_parts Tryz.infoElem
  have HX := Lib.hid (BoxE.new w e)
  have HB0 : RowKit.Hid (Below w.heap.size w (w.alloc (.cells #[.int .i64 e.s, .int .i64 e.q, .int .i64 e.i] 37))) := Lib.hid ((Below.refl _ _).alloc (Nat.le_refl _) _)
  have HBG := Lib.hid (fun wx => Begin_any e wx)
  have HWR := Lib.hid (fun wx (hx : Below w.heap.size w wx) => rWritten_any a cap l ⟨e.s, e.q, e.i + 1⟩ wx (hT.next hx) hsz (h.below hx))
  have HUL := Lib.hid (fun k => Nat.le_trans (up_len e ((OpR.os l).drop k)) (by rw [List.length_drop, os_len]; omega : _ ≤ 1000))
  have HUS := Lib.hid (fun j (hj : j < l.length) => up_step hj e)
  have HH := Lib.hid h
  have HPB := Lib.hid (show e.begin = true → undP (OpR.os l) e = up e (OpR.os l) from fun hb => by unfold undP nextP; rw [hb]; simp)
  have HPN := Lib.hid (show e.begin = false → undP (OpR.os l) e = up e (OpR.os l) ++ (if wrt (OpR.os l) ⟨e.s, e.q, e.i + 1⟩ then [⟨e.s, e.q, e.i + 1⟩] else []) from fun hb => by unfold undP nextP; rw [hb]; simp)
  obtain ⟨n, hn⟩ : ∃ n, l.length = n := ⟨_, rfl⟩
  have HN := Lib.hid hn
  have HUE := Lib.hid (show (OpR.os l).drop n = [] from List.drop_eq_nil_of_le (by rw [os_len]; omega))
  rw [hn] at HWR hl ⊢
  clear h hT hsz hn
  have hni : (n : Int) ≤ 1000 := by omega
  generalize undP (OpR.os l) e = res at *
  generalize wrt (OpR.os l) ⟨e.s, e.q, e.i + 1⟩ = wn at *
  generalize hbg : e.begin = bg at *
  have HBB := Lib.hid hbg
  clear hbg
  obtain ⟨s, q, i⟩ := e
  unfold El.v at HBG HWR ⊢
  simp only at HX HB0 HBG HWR HPB HPN hi0 hi1 ⊢
  have hwi : IntKind.i64.wrap (i + 1) = i + 1 := IntWalk.i64_in _ (by omega)
  go_enter Tryz.func90, Tryz.ntmps90
  go_wp2_with fail
  go_loopw [5, 6] (fun s5 s6 wr => ∃ k : Nat, s6 = .int .i64 ((k : Int) - 1) ∧ k ≤ n ∧ wr.ownsRow (w.heap.size + 1) 37 3 s5 (up ⟨s, q, i⟩ ((OpR.os l).drop k)).length (ecs (up ⟨s, q, i⟩ ((OpR.os l).drop k))) ∧ Below w.heap.size w wr ∧ BoxE wr w.heap.size ⟨s, q, i⟩) (fun _ s6 _ => (RowKit.intOf s6 + 1).toNat)
  case atStart => exact ⟨n, rfl, Nat.le_refl _, by rw [HUE.out]; exact World.ownsRow_nil _ _ _ _, HB0.out, HX.out⟩
  case round =>
    clear HX HB0
    obtain ⟨k, rfl, hk, ho, hb, hbx⟩ := hrel
    have HO := Lib.hid ho
    have HB := Lib.hid hb
    have HBX := Lib.hid hbx
    by_cases hk0 : 0 < k
    · obtain ⟨j, rfl⟩ : ∃ j, k = j + 1 := ⟨k - 1, by omega⟩
      rw [show ((j + 1 : Nat) : Int) - 1 = (j : Int) from by omega]
      have hjl : j < l.length := by rw [HN.out]; omega
      have hjn : j < n := by omega
      obtain ⟨b, off, rfl, hbb, c0, c1, c2, c3, c4, c5, c6, -⟩ := (HH.out.below hb).cells j hjl
      have HUJ := Lib.hid (HUS.out j hjl)
      have hul := HUL.out (j + 1)
      have y0 := hbx.c0
      have y1 := hbx.c1
      have y2 := hbx.c2
      have hyl := hbx.lt
      generalize up ⟨s, q, i⟩ ((OpR.os l).drop (j + 1)) = U at *
      have hsp := el_split l[j].o.after ⟨s, q, i⟩
      have htc := text_cases l[j].o.text
      generalize l[j] = r at *
      obtain ⟨⟨site, seq, kind, ⟨es, eq, ei⟩, text, gone, of, num, gen⟩, ra, rc⟩ := r
      simp only at c0 c1 c2 c3 c4 c5 c6 y0 y1 y2 hsp htc HUJ
      obtain ⟨m, hm⟩ : ∃ m, U.length = m := ⟨_, rfl⟩
      have HM := Lib.hid hm
      rw [hm] at HO hul
      clear hk0 ho hb hbx hjl hm
      rcases htc with rfl | ⟨_, ht1, ht2⟩
      · have HU2 := Lib.hid (show up ⟨s, q, i⟩ ((OpR.os l).drop j) = U from by rw [HUJ.out, if_pos rfl, List.append_nil])
        clear hsp
        go_wp2_with fail
        go_quiet (fail)
        go_wp2
        go_roundw
        case rel => exact ⟨j, rfl, by omega, by rw [HU2.out, HM.out]; exact (Same.drewN wr _).owns HO.out, HB.out.trans ((Same.drewN wr _).below _), HBX.out.next ((Same.drewN wr _).below wr.heap.size) HBX.out.lt⟩
        case measure => simp [RowKit.intOf] <;> omega
      · have htn : ¬ text = ⟨#[]⟩ := fun h => ht1 ((toList_nil_iff_emptyBytes text).2 h)
        have HTN := Lib.hid htn
        clear htn
        rcases hsp with ⟨he, z0, z1, z2⟩ | ⟨hne, hz⟩
        · have HU2 := Lib.hid (show up ⟨s, q, i⟩ ((OpR.os l).drop j) = U ++ [⟨site, seq, 0⟩] from by rw [HUJ.out, if_neg HTN.out, if_pos he])
          clear he
          have HM1 := Lib.hid (show m + 1 ≤ maxLen from by simp only [maxLen]; omega)
          have HM2 := Lib.hid (show (m + 1) * 24 ≤ 140737488355328 from by omega)
          obtain ⟨av, cv, hv⟩ := own_form HO.out
          subst z0 z1 z2 hv
          go_wp2_with fail
          go_quiet (fail)
          have HOV := Lib.hid ((Same.drewN wr nq).owns HO.out)
          have HBV := Lib.hid (HB.out.trans ((Same.drewN wr nq).below wr.heap.size |>.mono HB.out.size))
          have HBXV := Lib.hid (HBX.out.next ((Same.drewN wr nq).below wr.heap.size) HBX.out.lt)
          have d0 := ((Same.drewN wr nq).cell ⟨b, off + j * 11, none⟩).trans c0
          have d1 := ((Same.drewN wr nq).cell ⟨b, off + j * 11 + 1, none⟩).trans c1
          have hbv : b < (wr.drewN nq).heap.size := hbb
          clear c0 c1 c2 c3 c4 c5 c6 y0 y1 y2 hyl hbb
          generalize wr.drewN nq = wv at *
          have HOD := Lib.hid ((same_drew wv).owns HOV.out)
          go_wp2_with fail
          go_region_law (first
            | (refine step_append_lies _ (by rfl) _ _ _ (by rfl) (w.heap.size + 1) 37 i0 (.agg #[.int .i64 0, .int .i64 0, .int .i64 0]) 3 24 Tryz.underlying23 hq0 hz0 hz1 hz2 (by rfl) (by decide) (.slice av m cv) m _ (by rfl) (HOD.out.alloc _) ⟨wv.heap.size, 0, none⟩ 1 1 (El.cs ⟨site, seq, 0⟩) (by rfl) (by rfl) (cell_three_new wv.drew ⟨site, seq, 0⟩ _) (cs_one ⟨site, seq, 0⟩) (by omega) HM1.out HM2.out (by have := HBXV.out.lt; simp; omega) _ rfl ?_; intro g8 cap8 w8 hown8 hgrow8 hat8 hlt8; have HO8 := Lib.hid hown8; have HB8 := Lib.hid (((HBV.out.trans ((same_drew wv).below w.heap.size)).alloc HBV.out.size _).grown hgrow8 (by have := HBV.out.size; simp; omega) (fun q hq => by have := own_ge HOD.out q hq; omega)); have HBX8 := Lib.hid (HBXV.out.next ((((same_drew wv).below (w.heap.size + 1)).alloc (by have := HBXV.out.lt; exact this) _).grown hgrow8 (by have := HBXV.out.lt; simp; omega) (fun q hq => own_ge HOD.out q hq)) (Nat.lt_succ_self _)); clear hown8 hgrow8 hat8 hlt8)
            | fail)
          all_goals
            go_wp2_with fail
            go_roundw
            case rel => exact ⟨j, rfl, by omega, by
              rw [HU2.out, List.length_append, HM.out, ecs_append, show ecs [(⟨site, seq, 0⟩ : El)] = El.cs ⟨site, seq, 0⟩ from by simp [ecs]]
              exact HO8.out, HB8.out, HBX8.out⟩
            case measure => simp [RowKit.intOf] <;> omega
        · have HU2 := Lib.hid (show up ⟨s, q, i⟩ ((OpR.os l).drop j) = U from by rw [HUJ.out, if_neg HTN.out, if_neg hne, List.append_nil])
          clear hne
          rcases hz with z0 | ⟨z0, z1⟩ | ⟨z0, z1, z2⟩
          all_goals
            try subst z0
            try subst z1
            go_wp2_with fail
            go_quiet (fail)
            go_wp2
            go_roundw
            case rel => exact ⟨j, rfl, by omega, by rw [HU2.out, HM.out]; exact (Same.drewN wr _).owns HO.out, HB.out.trans ((Same.drewN wr _).below _), HBX.out.next ((Same.drewN wr _).below wr.heap.size) HBX.out.lt⟩
            case measure => simp [RowKit.intOf] <;> omega
    · have h0 : k = 0 := by omega
      subst h0
      rw [List.drop_zero] at ho
      have hul := HUL.out 0
      rw [List.drop_zero] at hul
      have y0 := hbx.c0
      have y1 := hbx.c1
      have y2 := hbx.c2
      have hyl := hbx.lt
      simp only at y0 y1 y2
      have HOU := Lib.hid ho
      clear HO HUS HUL
      generalize up ⟨s, q, i⟩ (OpR.os l) = U at *
      obtain ⟨m, hm⟩ : ∃ m, U.length = m := ⟨_, rfl⟩
      have HM := Lib.hid hm
      rw [hm] at HOU hul
      rw [show ((0 : Nat) : Int) - 1 = -1 from rfl]
      clear ho hb hbx hm hk0
      cases bg
      · have HRES := Lib.hid (HPN.out rfl)
        clear HPB HPN HBB
        cases wn
        · have HR2 := Lib.hid (HRES.out.trans (show U ++ (if false = true then [(⟨s, q, i + 1⟩ : El)] else []) = U from by simp))
          clear HRES
          go_wp2_with (first
            | (go_at_call 57; refine (HBG.out _).mono ?_; rintro x1 w1 ⟨rfl, hb1⟩; have HB1 := Lib.hid (HB.out.trans (hb1.mono HB.out.size)); have HO1 := Lib.hid (owns_belE HOU.out hb1); have hx1 := HBX.out.step hb1; have z0 := hx1.c0; have z1 := hx1.c1; have z2 := hx1.c2; have hzl := hx1.lt; simp only at z0 z1 z2; clear hb1 hx1)
            | (go_at_call 58; refine (HWR.out _ (HB1.out.alloc HB1.out.size _)).mono ?_; rintro x2 w2 ⟨rfl, hb2⟩; have HB2 := Lib.hid ((HB1.out.alloc HB1.out.size _).trans (hb2.mono (by have := HB1.out.size; simp; omega))); have HO2 := Lib.hid (owns_belE (HO1.out.alloc _) hb2); clear hb2)
            | fail)
          go_ret
          exact ⟨_, rfl, by rw [HR2.out, HM.out]; exact owns_base HO2.out (by omega), HB2.out⟩
        · have HR2 := Lib.hid (HRES.out.trans (show U ++ (if true = true then [(⟨s, q, i + 1⟩ : El)] else []) = U ++ [⟨s, q, i + 1⟩] from by simp))
          have HM1 := Lib.hid (show m + 1 ≤ maxLen from by simp only [maxLen]; omega)
          have HM2 := Lib.hid (show (m + 1) * 24 ≤ 140737488355328 from by omega)
          clear HRES
          go_wp2_with (first
            | (go_at_call 57; refine (HBG.out _).mono ?_; rintro x1 w1 ⟨rfl, hb1⟩; have HB1 := Lib.hid (HB.out.trans (hb1.mono HB.out.size)); have HO1 := Lib.hid (owns_belE HOU.out hb1); have hx1 := HBX.out.step hb1; have z0 := hx1.c0; have z1 := hx1.c1; have z2 := hx1.c2; have hzl := hx1.lt; simp only at z0 z1 z2; clear hb1 hx1)
            | (go_at_call 58; refine (HWR.out _ (HB1.out.alloc HB1.out.size _)).mono ?_; rintro x2 w2 ⟨rfl, hb2⟩; have HB2 := Lib.hid ((HB1.out.alloc HB1.out.size _).trans (hb2.mono (by have := HB1.out.size; simp; omega))); have HO2 := Lib.hid (owns_belE (HO1.out.alloc _) hb2); have hbn := (BoxE.new w1 ⟨s, q, i + 1⟩).step hb2; have n0 := hbn.c0; have n1 := hbn.c1; have n2 := hbn.c2; have hnl := hbn.lt; simp only at n0 n1 n2; clear hb2 hbn)
            | (at_builtin; refine wpList_append_own _ rfl _ _ 23 rfl (w.heap.size + 1) 37 i0 (.agg #[.int .i64 0, .int .i64 0, .int .i64 0]) 3 24 Tryz.underlying23 hq0 hz0 hz1 hz2 rfl (by decide) _ m _ rfl (HO2.out.alloc _) ⟨w2.heap.size, 0, none⟩ 1 1 (El.cs ⟨s, q, i + 1⟩) rfl rfl (cell_three_new _ ⟨s, q, i + 1⟩ _) (cs_one ⟨s, q, i + 1⟩) HM1.out HM2.out (by have := HB1.out.size; simp; omega) ?_; intro v8 w8 hown8 hgrow8 hnil8; have HB8 := Lib.hid ((HB2.out.alloc HB2.out.size _).grown hgrow8 (by have := HB2.out.size; simp; omega) (fun q hq => by have := own_ge HO2.out q hq; omega)); have HO8 := Lib.hid hown8; clear hown8 hgrow8 hnil8)
            | fail)
          go_ret
          exact ⟨_, rfl, by
            rw [HR2.out, List.length_append, HM.out, ecs_append, show ecs [(⟨s, q, i + 1⟩ : El)] = El.cs ⟨s, q, i + 1⟩ from by simp [ecs]]
            exact owns_base HO8.out (by omega), HB8.out⟩
      · have HRES := Lib.hid (HPB.out rfl)
        clear HPB HPN HBB
        go_wp2_with (first
          | (go_at_call 57; refine (HBG.out _).mono ?_; rintro x1 w1 ⟨rfl, hb1⟩; have HB1 := Lib.hid (HB.out.trans (hb1.mono HB.out.size)); have HO1 := Lib.hid (owns_belE HOU.out hb1); clear hb1)
          | fail)
        go_ret
        exact ⟨_, rfl, by rw [HRES.out, HM.out]; exact owns_base HO1.out (by omega), HB1.out⟩
end Go.Proofs.YthnedehihbploaaGreatDoor
/- lectionaryref4.Order: a search in depth -/
namespace Go.Proofs.YthnedehihbploaaGreatDoor
open Go.RowKit Go.Lib Go.Sort

/-- what was told, X, and what is to come, T, the next one last; so many rounds at most are left -/
def Lg (D : List Tn) (g : Nat) (X T : List El) : Prop := (g = D.length + 1 ∧ X = [] ∧ T = [B0]) ∨ ∃ m, m ≤ D.length ∧ g = D.length - m ∧ X = (D.take m).map (fun u => u.nd.e) ∧ T = ((fr D m).map Nd.e).reverse
theorem lg_len {D : List Tn} {g : Nat} {X T : List El} (h : Lg D g X T) : X.length ≤ D.length ∧ T.length ≤ D.length + 1 := by
  rcases h with ⟨_, rfl, rfl⟩ | ⟨m, hm, _, rfl, rfl⟩
  · simp
  · rw [List.length_map, List.length_take, List.length_reverse, List.length_map]
    have := fr_length D m
    omega
theorem lg_end {D : List Tn} (hD : TOrd D) {g : Nat} {X : List El} (h : Lg D g X []) : X = D.map (fun u => u.nd.e) := by
  rcases h with ⟨_, _, h⟩ | ⟨m, hm, _, rfl, h⟩
  · cases h
  · have h2 : fr D m = [] := by
      have := List.reverse_eq_nil_iff.1 h.symm
      exact List.map_eq_nil_iff.1 this
    by_cases hlt : m < D.length
    · have := fr_pos hD hlt
      rw [h2] at this
      exact absurd this (by simp)
    · rw [List.take_of_length_le (by omega)]
theorem lg_step {l : List OpD} (hr : rowP l) {g : Nat} {X T : List El} (h : Lg (ordT l) g X T) (hT : T ≠ []) : ∃ T' e g', T = T' ++ [e] ∧ g' < g ∧ (e = B0 ∨ e ∈ ordE l) ∧ Lg (ordT l) g' (if e.begin then X else X ++ [e]) (T' ++ (unE l e).reverse) ∧ 0 ≤ e.i ∧ e.i ≤ 1000 := by
  have hinv := row_inv hr.2 l.length (Nat.le_refl _)
  rw [List.take_length] at hinv
  have hpar := row_parOp hr.2 l.length (Nat.le_refl _)
  rw [List.take_length] at hpar
  rcases h with ⟨rfl, rfl, rfl⟩ | ⟨m, hm, rfl, rfl, rfl⟩
  · refine ⟨[], B0, (ordT l).length, rfl, Nat.lt_succ_self _, .inl rfl, .inr ⟨0, Nat.zero_le _, rfl, ?_, ?_⟩, by simp [B0], by simp [B0]⟩
    · simp [B0, El.begin]
    · unfold unE
      rw [fr_start, List.nil_append]
  · have hne : fr (ordT l) m ≠ [] := fun h0 => hT (by rw [h0]; rfl)
    have hlt : m < (ordT l).length := by
      by_cases h2 : m < (ordT l).length
      · exact h2
      · exact absurd (fr_end (by omega)) hne
    have ht : (ordT l)[m]? = some (ordT l)[m] := List.getElem?_eq_getElem hlt
    obtain ⟨R, h1, h2⟩ := fr_next hinv.ord hpar ht
    have hnb := hinv.ord.nob m _ ht
    have hbf : ((ordT l)[m]).nd.e.begin = false := by
      cases hb : ((ordT l)[m]).nd.e.begin with
      | false => rfl
      | true => exact absurd ((begin_iff _).1 hb) hnb
    obtain ⟨hi0, c, hed, hic⟩ := (hinv.mem ((ordT l)[m]).nd.e).1 ⟨m, _, ht, rfl⟩
    have hc12 := (hinv.edk _ _ hed).2.2.2.2.2
    refine ⟨(R.map Nd.e).reverse, ((ordT l)[m]).nd.e, (ordT l).length - (m + 1), ?_, by omega, .inr (List.mem_map.2 ⟨_, List.mem_of_getElem? ht, rfl⟩), .inr ⟨m + 1, by omega, rfl, ?_, ?_⟩, hi0, by omega⟩
    · rw [h1]; simp
    · have h5 : ((ordT l).take (m + 1)).map (fun u => u.nd.e) = ((ordT l).take m).map (fun u => u.nd.e) ++ [((ordT l)[m]).nd.e] := by
        rw [List.take_succ_eq_append_getElem hlt, List.map_append]
        rfl
      rw [hbf, h5]
      rfl
    · unfold unE
      rw [h2, List.map_append, List.reverse_append]

/-- nothing has turned but row r's block -/
structure Kp (r : Option Nat) (w w' : World) : Prop where
  os : w'.os = w.os
  tape : w'.tape = w.tape
  output : w'.output = w.output
  size : w.heap.size ≤ w'.heap.size
  block : ∀ k, k < w.heap.size → some k ≠ r → w'.heap[k]? = w.heap[k]?
theorem Kp.refl (r : Option Nat) (w : World) : Kp r w w := ⟨rfl, rfl, rfl, Nat.le_refl _, fun _ _ _ => rfl⟩
theorem Kp.step {r : Option Nat} {w wr w8 : World} {b : Option Nat} {o : Obj} (h : Kp r w wr) (hn : NewRow w r b) (hg : (wr.alloc o).grownBy w8 b) : Kp r w w8 := by
  have hs : (wr.alloc o).heap.size = wr.heap.size + 1 := by simp
  have hsz := hg.size
  have h1 := h.size
  refine ⟨hg.os.trans h.os, hg.tape.trans h.tape, hg.output.trans h.output, by omega, fun k hk hr => ?_⟩
  have hkb : some k ≠ b := by
    rcases hn with e | ⟨g, e, hge⟩
    · rw [e]; exact hr
    · rw [e]; intro e2; cases e2; omega
  rw [hg.block k (by omega) hkb, heap_alloc_old _ _ (by omega)]
  exact h.block k hk hr
theorem Kp.owns {r : Option Nat} {w w' : World} (h : Kp r w w') {base : Nat} {t : TypeId} {size : Nat} {v : Value} {n : Nat} {xs : List Value} (ho : w.ownsRow base t size v n xs) (hne : v.ownBlock = none ∨ v.ownBlock ≠ r) : w'.ownsRow base t size v n xs := by
  refine ⟨ho.1, ?_⟩
  rcases ho.2 with h2 | ⟨g, cap, cur, hv, hg, hh, rest⟩
  · exact .inl h2
  · refine .inr ⟨g, cap, cur, hv, hg, ?_, rest⟩
    have hob : v.ownBlock = some g := by rw [hv]; rfl
    rw [h.block g (Array.getElem?_eq_some_iff.1 hh).1 (by
      rcases hne with e | e
      · rw [hob] at e; cases e
      · rw [hob] at e; exact e)]
    exact hh
theorem BoxE.kp {w w' : World} {b : Nat} {e : El} {r : Option Nat} (h : BoxE w b e) (hk : Kp r w w') (hne : some b ≠ r) : BoxE w' b e := by
  have hb := hk.block b h.lt hne
  have hc : ∀ o, w'.cell? ⟨b, o, none⟩ = w.cell? ⟨b, o, none⟩ := fun o => by unfold World.cell?; simp only [hb]
  exact ⟨Nat.lt_of_lt_of_le h.lt hk.size, (hc 0).trans h.c0, (hc 1).trans h.c1, (hc 2).trans h.c2⟩
theorem new_row {w wr : World} {r b b8 : Option Nat} {o : Obj} (hn : NewRow w r b) (hs : w.heap.size ≤ wr.heap.size) (hat : b8 = b ∨ b8 = some (wr.alloc o).heap.size) : NewRow w r b8 := by
  rcases hat with e | e
  · rw [e]; exact hn
  · exact .inr ⟨_, e, by simp; omega⟩
theorem owns_cut3 {w : World} {base g n cap k : Nat} {t : TypeId} {xs : List Value} (h : w.ownsRow base t 3 (.slice (some ⟨g, 0, none⟩) n cap) n xs) (hk : k ≤ n) : w.ownsRow base t 3 (.slice (some ⟨g, 0, none⟩) k cap) k (xs.take (k * 3)) := by
  obtain ⟨hl, h2⟩ := h
  rcases h2 with ⟨hv, _⟩ | ⟨g2, cap2, cur, hv, hb, hg, hc, hcm, hcs, ht⟩
  · cases hv
  · simp only [Value.slice.injEq, Option.some.injEq, Addr.mk.injEq] at hv
    obtain ⟨⟨rfl, _, _⟩, _, rfl⟩ := hv
    refine ⟨by rw [List.length_take]; omega, .inr ⟨g, cap, cur, rfl, hb, hg, by omega, hcm, hcs, ?_⟩⟩
    rw [← ht, List.take_take, Nat.min_eq_left (by omega)]
/-- the two rows, of what was told and of what is to come -/
structure OSt (w wr : World) (X T : List El) (xv tv : Value) : Prop where
  x : wr.ownsRow w.heap.size 37 3 xv X.length (ecs X)
  t : wr.ownsRow w.heap.size 37 3 tv T.length (ecs T)
  ne : xv.ownBlock = none ∨ xv.ownBlock ≠ tv.ownBlock
  below : Below w.heap.size w wr
theorem OSt.step {w wr w2 : World} {X T : List El} {xv tv : Value} (h : OSt w wr X T xv tv) (hb : Below wr.heap.size wr w2) : OSt w w2 X T xv tv :=
  ⟨owns_belE h.x hb, owns_belE h.t hb, h.ne, h.below.trans (hb.mono h.below.size)⟩
theorem OSt.told {w wr w8 : World} {X T : List El} {xv tv v8 : Value} {e : El} {o : Obj} (h : OSt w wr X T xv tv) (ho : w8.ownsRow w.heap.size 37 3 v8 (X.length + 1) (ecs X ++ El.cs e)) (hg : (wr.alloc o).grownBy w8 xv.ownBlock) (hat : v8.ownBlock = xv.ownBlock ∨ v8.ownBlock = some (wr.alloc o).heap.size) : OSt w w8 (X ++ [e]) T v8 tv := by
  have hkp := (Kp.refl xv.ownBlock wr).step (.inl rfl) hg
  have hne : tv.ownBlock = none ∨ tv.ownBlock ≠ xv.ownBlock := by
    rcases h.ne with e1 | e1
    · by_cases ht : tv.ownBlock = none
      · exact .inl ht
      · exact .inr (by rw [e1]; exact ht)
    · exact .inr (Ne.symm e1)
  refine ⟨?_, hkp.owns h.t hne, ?_, ?_⟩
  · rw [List.length_append, ecs_append, show ecs [e] = El.cs e from by simp [ecs]]
    exact ho
  · rcases hat with e1 | e1
    · rw [e1]; exact h.ne
    · right
      rw [e1]
      intro e2
      have := (h.t.lt _ e2.symm).2
      simp at this
      omega
  · exact (h.below.alloc h.below.size _).grown hg (by have := h.below.size; simp; omega) (fun q hq => own_ge h.x q hq)
theorem own_pos {w : World} {base : Nat} {v : Value} {n : Nat} {xs : List Value} {t : TypeId} {size : Nat} (h : w.ownsRow base t size v n xs) (hn : 0 < n) : ∃ g c, v = .slice (some ⟨g, 0, none⟩) n c ∧ base ≤ g ∧ g < w.heap.size ∧ n ≤ c := by
  rcases h.2 with ⟨hv, h0⟩ | ⟨g, cap, cur, hv, hb, hh, hc, _⟩
  · omega
  · exact ⟨g, cap, hv, hb, (Array.getElem?_eq_some_iff.1 hh).1, hc⟩
/-- the last one is read; the row without it -/
theorem OSt.pop {w wr : World} {X T' : List El} {e : El} {xv : Value} {g c nt : Nat} (h : OSt w wr X (T' ++ [e]) xv (.slice (some ⟨g, 0, none⟩) (nt + 1) c)) (hn : T'.length = nt) (o : Obj) :
    (wr.cell? ⟨g, nt * 3, none⟩ = some (.int .i64 e.s) ∧ wr.cell? ⟨g, nt * 3 + 1, none⟩ = some (.int .i64 e.q) ∧ wr.cell? ⟨g, nt * 3 + 2, none⟩ = some (.int .i64 e.i)) ∧ OSt w (wr.alloc o) X T' xv (.slice (some ⟨g, 0, none⟩) nt c) := by
  have hlen : (T' ++ [e]).length = nt + 1 := by simp [hn]
  have ht := h.t
  rw [hlen] at ht
  have hget : (T' ++ [e])[nt]'(by omega) = e := by
    rw [List.getElem_append_right (by omega)]
    simp
  refine ⟨⟨?_, ?_, ?_⟩, owns_belE h.x ((Below.refl _ _).alloc (Nat.le_refl _) _), ?_, h.ne, h.below.alloc h.below.size _⟩
  · rw [ht.cellAt (nt * 3) (by omega)]
    have := ecs_get (T' ++ [e]) nt 0 (by omega) (by decide)
    rw [hget] at this
    exact this
  · rw [ht.cellAt (nt * 3 + 1) (by omega)]
    have := ecs_get (T' ++ [e]) nt 1 (by omega) (by decide)
    rw [hget] at this
    exact this
  · rw [ht.cellAt (nt * 3 + 2) (by omega)]
    have := ecs_get (T' ++ [e]) nt 2 (by omega) (by decide)
    rw [hget] at this
    exact this
  · have h2 := owns_cut3 ht (Nat.le_succ nt)
    rw [ecs_take, List.take_append_of_le_length (by omega), List.take_of_length_le (by omega)] at h2
    rw [hn]
    exact owns_belE h2 ((Below.refl _ _).alloc (Nat.le_refl _) _)
/-- the inner loop: behind it k of u's are left to be laid -/
structure ISt2 (w w5 wy : World) (gb nt nk k : Nat) (T' K : List El) (tv : Value) : Prop where
  t : wy.ownsRow w.heap.size 37 3 tv (nt + (nk - k)) (ecs (T' ++ (K.drop k).reverse))
  kp : Kp (some gb) w5 wy
  nr : NewRow w5 (some gb) tv.ownBlock
  below : Below w.heap.size w wy
theorem ISt2.next {w w5 wy w8 : World} {gb nt nk j : Nat} {T' K : List El} {tv v8 : Value} {o : Obj} {x : El} (h : ISt2 w w5 wy gb nt nk (j + 1) T' K tv) (hj : K[j]? = some x) (hk : K.length = nk)
    (ho : w8.ownsRow w.heap.size 37 3 v8 (nt + (nk - (j + 1)) + 1) (ecs (T' ++ (K.drop (j + 1)).reverse) ++ El.cs x)) (hg : (wy.alloc o).grownBy w8 tv.ownBlock) (hat : v8.ownBlock = tv.ownBlock ∨ v8.ownBlock = some (wy.alloc o).heap.size) : ISt2 w w5 w8 gb nt nk j T' K v8 := by
  obtain ⟨h1, h2⟩ := List.getElem?_eq_some_iff.1 hj
  have hd : (K.drop j).reverse = (K.drop (j + 1)).reverse ++ [x] := by
    rw [List.drop_eq_getElem_cons h1, List.reverse_cons, h2]
  refine ⟨?_, h.kp.step h.nr hg, new_row h.nr h.kp.size hat, (h.below.alloc h.below.size _).grown hg (by have := h.below.size; simp; omega) (fun q hq => own_ge h.t q hq)⟩
  rw [hd, ← List.append_assoc, ecs_append, show ecs [x] = El.cs x from by simp [ecs], show nt + (nk - j) = nt + (nk - (j + 1)) + 1 from by omega]
  exact ho
theorem ISt2.fin {w w3 w5 wy : World} {gb nt nk ct : Nat} {T' K X : List El} {xv tv : Value} (h : ISt2 w w5 wy gb nt nk 0 T' K tv) (hs : OSt w w3 X T' xv (.slice (some ⟨gb, 0, none⟩) nt ct)) (hb : Below w3.heap.size w3 w5) (hk : K.length = nk) (hn : T'.length = nt) : OSt w wy X (T' ++ K.reverse) xv tv := by
  have hx5 := owns_belE hs.x hb
  have hne : xv.ownBlock = none ∨ xv.ownBlock ≠ some gb := hs.ne
  refine ⟨h.kp.owns hx5 hne, ?_, ?_, h.below⟩
  · have := h.t
    rw [List.drop_zero] at this
    rw [List.length_append, List.length_reverse, hk, hn]
    exact this
  · rcases hne with e | e
    · exact .inl e
    · right
      rcases h.nr with e2 | ⟨g, e2, hg⟩
      · rw [e2]; exact e
      · rw [e2]
        intro e3
        have := (hx5.lt _ e3).2
        omega
/-- u's elements, wherever the other row went -/
theorem own_at {w5 wy : World} {base gb n c : Nat} {K : List El} {au : Option Addr} (ho : w5.ownsRow base 37 3 (.slice au n c) n (ecs K)) (hn : K.length = n) (hk : Kp (some gb) w5 wy) (hgb : gb < base) : ElemsAt wy au K := by
  have h2 : wy.ownsRow base 37 3 (.slice au n c) n (ecs K) := hk.owns ho (by
    by_cases e : (Value.slice au n c).ownBlock = none
    · exact .inl e
    · right
      intro e2
      have := (ho.lt _ e2).1
      omega)
  rw [← hn] at h2
  obtain ⟨a', c', hv, he, _⟩ := elems_own h2
  simp only [Value.slice.injEq] at hv
  rw [hv.1]
  exact he
set_option maxRecDepth 100000 in
set_option maxHeartbeats 8000000 in
theorem rOrder_any (a : Option Addr) (cap : Nat) (l : List OpR) (w : World) (hT : Tabs w) (hsz : Szs l) (h : OpsAt w a l) (hr : rowP (OpR.os l)) : Calls Tryz.prog 59 #[.slice a l.length cap] w (OwnPost (ordE (OpR.os l)) w) := by
  obtain ⟨i0, hq0, hz0, hz1, hz2⟩ := info_parts Tryz.infoElem
  have hl40 : l.length ≤ 40 := by have := hr.1; rw [os_len] at this; exact this
  have hinv := row_inv hr.2 (OpR.os l).length (Nat.le_refl _)
  rw [List.take_length] at hinv
  have hdl : (ordT (OpR.os l)).length ≤ 200 := by rw [hinv.len]; exact row_tot hr.2
  have HUN := Lib.hid (fun (e : El) (he : e = B0 ∨ e ∈ ordE (OpR.os l)) (h0 : 0 ≤ e.i) (h1 : e.i ≤ 1000) wx (hx : Below w.heap.size w wx) => (by
    have h2 := rUnder_any a cap l e wx (hT.next hx) hsz (h.below hx) (by omega) h0 h1
    rw [undP_eq hr.2 he] at h2
    exact h2 : Calls Tryz.prog 90 #[.slice a l.length cap, e.v] wx (OwnPost (unE (OpR.os l) e) wx)))
  have HUL := Lib.hid (fun (e : El) => (by unfold unE; rw [List.length_map]; exact Nat.le_trans (kids_length _ _) hdl : (unE (OpR.os l) e).length ≤ 200))
  have HST := Lib.hid (fun g X T hL hne => lg_step hr (g := g) (X := X) (T := T) hL hne)
  have HEND := Lib.hid (fun g X hL => lg_end hinv.ord (g := g) (X := X) hL)
  have HBG := Lib.hid (fun e wx => Begin_any e wx)
  have HLL := Lib.hid (fun g X T hL => lg_len (D := ordT (OpR.os l)) (g := g) (X := X) (T := T) hL)
  have HS0 : RowKit.Hid (Lg (ordT (OpR.os l)) ((ordT (OpR.os l)).length + 1) [] [B0]) := Lib.hid (.inl ⟨rfl, rfl, rfl⟩)
  have HO0 : RowKit.Hid (OSt w (w.alloc (.cells #[.int .i64 0, .int .i64 0, .int .i64 0] 37)) [] [B0] (.slice none 0 0) (.slice (some ⟨w.heap.size, 0, none⟩) 1 1)) := Lib.hid ⟨World.ownsRow_nil _ _ _ _, one_own w w.heap.size (Nat.le_refl _) B0, .inl rfl, (Below.refl _ _).alloc (Nat.le_refl _) _⟩
  have HRES : RowKit.Hid (ordE (OpR.os l) = (ordT (OpR.os l)).map (fun u => u.nd.e)) := Lib.hid rfl
  obtain ⟨n, hn⟩ : ∃ n, l.length = n := ⟨_, rfl⟩
  rw [hn] at HUN ⊢
  clear h hT hsz hn hr hinv hl40
  generalize ordT (OpR.os l) = D at *
  go_enter Tryz.func59, Tryz.ntmps59
  go_wp2_with fail
  go_loopg [3, 4] (D.length + 1) (fun g s3 s4 wr => ∃ X T, Lg D g X T ∧ OSt w wr X T s3 s4)
  case atStart => exact ⟨[], [B0], HS0.out, HO0.out⟩
  case round =>
    clear HS0 HO0
    obtain ⟨X, T, hL, hst⟩ := hrel
    have hlen := HLL.out _ _ _ hL
    have HST0 := Lib.hid hst
    obtain ⟨ax, cx, hxv⟩ := own_form hst.x
    by_cases hne : T = []
    · subst hne
      have HX := Lib.hid (HEND.out _ _ hL)
      obtain ⟨at0, ct, htv⟩ := own_form hst.t
      simp only [List.length_nil] at htv
      subst hxv htv
      clear hst hL
      go_wp2_with fail
      go_ret
      exact ⟨_, rfl, by rw [HRES.out, ← HX.out]; exact HST0.out.x, HST0.out.below⟩
    · obtain ⟨T', e, g', hTe, hg', hin, hL', hi0, hi1⟩ := HST.out _ _ _ hL hne
      subst hTe
      obtain ⟨nt, hnt⟩ : ∃ k, T'.length = k := ⟨_, rfl⟩
      have HNT := Lib.hid hnt
      have hTl : (T' ++ [e]).length = nt + 1 := by simp [hnt]
      obtain ⟨gb, ct, htv, hgb, hgl, hcap⟩ := own_pos hst.t (by omega)
      rw [hTl] at htv hcap
      have hcap2 : nt ≤ ct := by omega
      subst htv hxv
      obtain ⟨⟨p0, p1, p2⟩, hs1⟩ := hst.pop hnt (.cells #[.int .i64 e.s, .int .i64 e.q, .int .i64 e.i] 37)
      have HS1 := Lib.hid hs1
      have HGL0 := Lib.hid hgl
      have HX1 := Lib.hid (BoxE.new wr e)
      have hxn : some wr.heap.size ≠ (Value.slice ax X.length cx).ownBlock := fun e2 => by have := (hst.x.lt _ e2.symm).2; omega
      have HL2 := Lib.hid hL'
      have HG2 := Lib.hid hg'
      have hxl : X.length ≤ 200 := by have := hlen.1; omega
      have hnt2 : nt ≤ 201 := by have := hlen.2; omega
      obtain ⟨nx, hnx⟩ : ∃ k, X.length = k := ⟨_, rfl⟩
      have HNX := Lib.hid hnx
      have HUE := Lib.hid (HUN.out e hin hi0 hi1)
      have hul := HUL.out e
      have HBE := Lib.hid (HBG.out e)
      clear hst hs1 hL hL' hg' hin hi0 hi1 hlen hne hTl hnt HST0
      generalize unE (OpR.os l) e = K at *
      unfold OwnPost at HUE
      obtain ⟨nk, hnk⟩ : ∃ k, K.length = k := ⟨_, rfl⟩
      have HNK := Lib.hid hnk
      rw [hnk] at HUE hul
      rw [hnx] at hxl HS1 hxn
      rw [hnx]
      have HM1 := Lib.hid (show nx + 1 ≤ maxLen from by simp only [maxLen]; omega)
      have HM2 := Lib.hid (show (nx + 1) * 24 ≤ 140737488355328 from by omega)
      clear hnk hnx
      have HBB : RowKit.Hid (e.begin = e.begin) := Lib.hid rfl
      generalize hbg : e.begin = bg at *
      clear hbg HBB
      obtain ⟨X3, hX3⟩ : ∃ X3, (if bg = true then X else X ++ [e]) = X3 := ⟨_, rfl⟩
      rw [hX3] at HL2
      have HXT := Lib.hid (show bg = true → X = X3 from fun h => by rw [← hX3, if_pos h])
      have HXF := Lib.hid (show bg = false → X ++ [e] = X3 from fun h => by rw [← hX3, h]; rfl)
      have HXN := Lib.hid hxn
      clear hX3 hxn
      obtain ⟨es, eq, ei⟩ := e
      unfold El.v at HUE HBE
      simp only at p0 p1 p2 HS1 HX1 HUE HBE
      go_upto_if 26 with (first
        | (go_at_call 57; refine (HBE.out _).mono ?_; rintro x2 w2 ⟨rfl, hb2⟩; have HS2 := Lib.hid (HS1.out.step hb2); have HX2 := Lib.hid (HX1.out.step hb2); have HOX := Lib.hid (show w2.ownsRow w.heap.size 37 3 (.slice ax nx cx) nx (ecs X) from by have h9 := HS2.out.x; rw [HNX.out] at h9; exact h9); have y0 := HX2.out.c0; have y1 := HX2.out.c1; have y2 := HX2.out.c2; have hyl := HX2.out.lt; simp only at y0 y1 y2; clear hb2)
        | fail)
      clear p0 p1 p2
      go_cut [3] (fun s3 wx => OSt w wx X3 T' s3 (.slice (some ⟨gb, 0, none⟩) nt ct) ∧ BoxE wx wr.heap.size ⟨es, eq, ei⟩)
      case first =>
        cases bg
        · go_wp2_with (first
            | (at_builtin; refine wpList_append_own_at _ rfl _ _ 23 rfl w.heap.size 37 i0 (.agg #[.int .i64 0, .int .i64 0, .int .i64 0]) 3 24 Tryz.underlying23 hq0 hz0 hz1 hz2 rfl (by decide) _ nx _ rfl (HOX.out.alloc _) ⟨w2.heap.size, 0, none⟩ 1 1 (El.cs ⟨es, eq, ei⟩) rfl rfl (cell_three_new w2 ⟨es, eq, ei⟩ _) (cs_one ⟨es, eq, ei⟩) HM1.out HM2.out (by have := HS2.out.below.size; simp; omega) ?_; intro v8 w8 hown8 hgrow8 hnil8 hat8; have HS8 := Lib.hid (HS2.out.told (e := ⟨es, eq, ei⟩) (by rw [HNX.out]; exact hown8) hgrow8 hat8); have HX8 := Lib.hid (HX2.out.kp ((Kp.refl _ w2).step (.inl rfl) hgrow8) HXN.out); clear hown8 hgrow8 hnil8 hat8)
            | fail)
          go_meet
          exact ⟨by rw [← HXF.out (by trivial)]; exact HS8.out, HX8.out⟩
        · go_wp2_with fail
          go_meet
          exact ⟨by rw [← HXT.out (by trivial)]; exact HS2.out, HX2.out⟩
      case rest =>
        obtain ⟨hs3, hx3⟩ := hcut
        have HS3 := Lib.hid hs3
        have y0 := hx3.c0
        have y1 := hx3.c1
        have y2 := hx3.c2
        have hyl := hx3.lt
        simp only at y0 y1 y2
        have HGL := Lib.hid (Nat.lt_trans HGL0.out hx3.lt)
        clear hs3 hx3
        go_wp2_with (first
          | (go_at_call 90; refine (HUE.out _ HS3.out.below).mono ?_; rintro x5 w5 ⟨uv, rfl, hown5, hb5⟩; obtain ⟨au, cu, hu⟩ := own_form hown5; subst hu; have HU5 := Lib.hid hown5; have HB5 := Lib.hid hb5; clear hown5 hb5)
          | fail)
        clear y0 y1 y2 hyl
        have HST5 : RowKit.Hid (ISt2 w w5 w5 gb nt nk nk T' K (.slice (some ⟨gb, 0, none⟩) nt ct)) := Lib.hid ⟨by
          have h9 := owns_belE HS3.out.t HB5.out
          rw [HNT.out] at h9
          rw [List.drop_eq_nil_of_le (by rw [HNK.out]; exact Nat.le_refl _), List.reverse_nil, List.append_nil, Nat.sub_self, Nat.add_zero]
          exact h9, Kp.refl _ _, .inl rfl, HS3.out.below.trans (HB5.out.mono HS3.out.below.size)⟩
        go_loopw [4, 7] (fun s4 s7 wy => ∃ k : Nat, k ≤ nk ∧ s7 = .int .i64 ((k : Int) - 1) ∧ ISt2 w w5 wy gb nt nk k T' K s4) (fun _ s7 _ => (RowKit.intOf s7 + 1).toNat)
        case atStart => exact ⟨nk, Nat.le_refl _, rfl, HST5.out⟩
        case round =>
          clear HST5
          obtain ⟨k, hk, rfl, hi⟩ := hrel
          by_cases hk0 : 0 < k
          · obtain ⟨j, rfl⟩ : ∃ j, k = j + 1 := ⟨k - 1, by omega⟩
            rw [show ((j + 1 : Nat) : Int) - 1 = (j : Int) from by omega]
            have hjn : j < nk := by omega
            have hjl : j < K.length := by rw [HNK.out]; exact hjn
            obtain ⟨b, off, rfl, hbb, x0, x1, x2⟩ := (own_at HU5.out HNK.out hi.kp (by have := HGL.out; exact this)).cell j hjl
            have HI := Lib.hid hi
            have HJ := Lib.hid (show K[j]? = some K[j] from List.getElem?_eq_getElem hjl)
            have HM3 := Lib.hid (show nt + (nk - (j + 1)) + 1 ≤ maxLen from by simp only [maxLen]; omega)
            have HM4 := Lib.hid (show (nt + (nk - (j + 1)) + 1) * 24 ≤ 140737488355328 from by omega)
            clear hi hk hk0
            generalize K[j] = x at *
            clear hjl
            obtain ⟨xs, xq, xi⟩ := x
            simp only at x0 x1 x2
            go_wp2_with (first
              | (at_builtin; refine wpList_append_own_at _ rfl _ _ 23 rfl w.heap.size 37 i0 (.agg #[.int .i64 0, .int .i64 0, .int .i64 0]) 3 24 Tryz.underlying23 hq0 hz0 hz1 hz2 rfl (by decide) _ (nt + (nk - (j + 1))) _ rfl (HI.out.t.alloc _) ⟨wr.heap.size, 0, none⟩ 1 1 (El.cs ⟨xs, xq, xi⟩) rfl rfl (cell_three_new wr ⟨xs, xq, xi⟩ _) (cs_one ⟨xs, xq, xi⟩) HM3.out HM4.out (by have := HI.out.below.size; simp; omega) ?_; intro v8 w8 hown8 hgrow8 hnil8 hat8; have HI8 := Lib.hid (HI.out.next HJ.out HNK.out hown8 hgrow8 hat8); clear hown8 hgrow8 hnil8 hat8)
              | fail)
            go_roundw
            case rel => exact ⟨j, by omega, rfl, HI8.out⟩
            case measure => simp [RowKit.intOf] <;> omega
          · have h0 : k = 0 := by omega
            subst h0
            have HF := Lib.hid (hi.fin HS3.out HB5.out HNK.out HNT.out)
            rw [show ((0 : Nat) : Int) - 1 = -1 from rfl]
            clear hi hk hk0
            go_wp2_with fail
            go_roundg g'
            case measure => exact HG2.out
            case rel => exact ⟨X3, _, HL2.out, HF.out⟩
end Go.Proofs.YthnedehihbploaaGreatDoor
