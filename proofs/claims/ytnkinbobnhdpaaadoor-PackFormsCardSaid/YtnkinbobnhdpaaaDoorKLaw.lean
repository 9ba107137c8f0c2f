/- what the laws of layer 12 share: Heavy, num, EqMsg, wakes -/
import Derived.Test.YtnkinbobnhdpaaaDoorKArg
import Derived.Test.YtnkinbobnhdpaaaDoorKBack
namespace Go.Proofs.YtnkinbobnhdpaaaDoor
open Go.RowKit Go.Lib Go.Shelf Go.Sort

theorem num12_any (n : Int) (w : World) : Calls Tryd.prog 20 #[.int .i64 n] w fun e w' => e = .returned (.int .i64 n) ∧ w = w' := by
  go_enter Tryd.func20, Tryd.ntmps20
  go_wp2
  go_ret
  exact ⟨rfl, rfl⟩
theorem num12_below (n : Int) (w : World) : Calls Tryd.prog 20 #[.int .i64 n] w (IntB n w) :=
  (num12_any n w).mono fun _ _ ⟨he, hw⟩ => ⟨he, hw ▸ Below.refl _ _⟩

/-- how long texts are, as far as it is counted -/
def txF : List ByteArray → Int → Int
  | [], M => M
  | s :: r, M => if M < 1048576 then txF r (wrap64 (M + s.size)) else M
theorem txF_stop (l : List ByteArray) {M : Int} (h : ¬ M < 1048576) : txF l M = M := by
  cases l with
  | nil => rfl
  | cons s r => rw [txF, if_neg h]
theorem txF_step {l : List ByteArray} {k : Nat} {M : Int} (h : k < l.length) (hM : M < 1048576) : txF (l.drop k) M = txF (l.drop (k + 1)) (wrap64 (M + l[k].size)) := by
  rw [List.drop_eq_getElem_cons h, txF, if_pos hM]
set_option maxRecDepth 100000 in
set_option maxHeartbeats 2000000 in
theorem Texts12_any (a : Option Addr) (cap : Nat) (l : List ByteArray) (w : World) (h : StrsAt w a l) : Calls Tryd.prog 44 #[.slice a l.length cap] w (IntB (txF l l.length) w) := by
  have hlen := h.len
  have hbi := big_is
  have H := Lib.hid h
  clear h
  go_enter Tryd.func44, Tryd.ntmps44
  go_wp2
  go_loopw [3, 4] (fun n i wr => ∃ (k : Nat) (M : Int), k ≤ l.length ∧ i = .int .i64 k ∧ n = .int .i64 M ∧ txF l l.length = txF (l.drop k) M ∧ Below w.heap.size w wr) (fun _ i _ => l.length - (RowKit.intOf i).toNat)
  case atStart => exact ⟨0, l.length, by omega, rfl, rfl, rfl, Below.refl _ _⟩
  case round =>
    obtain ⟨k, M, hk, rfl, rfl, hM, hbel⟩ := hrel
    have HM := Lib.hid hM
    clear hM
    by_cases h1 : k < l.length
    · by_cases h2 : M < 1048576
      · obtain ⟨b, off, ha, hb, hc⟩ := H.out.cell k h1
        have hc2 := (hbel.cell (p := ⟨b, off + k, none⟩) hb).trans hc
        have HST := Lib.hid (HM.out.trans (txF_step h1 h2))
        clear hc HM
        generalize l[k] = s at *
        subst ha
        have hd2 : decide (M < 1048576) = true := decide_eq_true h2
        go_wp2
        go_roundw
        case rel => exact ⟨k + 1, _, by omega, by go_num, rfl, HST.out, hbel⟩
        case measure => simp [RowKit.intOf]; omega
      · have hd2 : decide (M < 1048576) = false := decide_eq_false h2
        go_wp2
        go_ret
        exact ⟨by rw [HM.out, txF_stop _ (by omega)]; rfl, hbel⟩
    · have hd2 : decide (k < l.length) = false := decide_eq_false h1
      go_wp2
      go_ret
      exact ⟨by rw [HM.out, List.drop_eq_nil_of_le (by omega)]; rfl, hbel⟩

set_option maxRecDepth 100000 in
set_option maxHeartbeats 4000000 in
theorem EqMsg_yes (m : MsD) (a b : Option Addr) (ca cb : Nat) (la lb : List OpR) (w : World) (ha : MsIn w m a la) (hb : MsIn w m b lb) (hg : ∀ r ∈ la, r.o.gone.length ≤ 1000000) (hl : la.length ≤ 1000000) : Calls Tryd.prog 31 #[m.v a ca, m.v b cb] w (BoB true w) := by
  have hos : OpR.os la = OpR.os lb := ha.os.trans hb.os.symm
  have HC := Lib.hid (fun wx (hb1 : Below w.heap.size w wx) => EqOps_yes a b ca cb la lb wx (ha.ops.below hb1) (hb.ops.below hb1) hos hg hl)
  have hl1 := ha.len
  have hl2 := hb.len
  rw [← hl1, ← hl2] at HC
  clear ha hb hg hl hos hl1 hl2
  obtain ⟨kind, site, nonce, known, seq, err, ops⟩ := m
  unfold MsD.v
  simp only at HC ⊢
  obtain ⟨n, hn⟩ : ∃ n, ops.length = n := ⟨_, rfl⟩
  rw [hn] at HC ⊢
  clear hn
  have hb2 : ∀ o1 o2, Below w.heap.size w ((w.alloc o1).alloc o2) := fun o1 o2 => ((Below.refl _ _).alloc (Nat.le_refl _) _).alloc (by simp) _
  have HB2 := Lib.hid hb2
  clear hb2
  go_enter Tryd.func31, Tryd.ntmps31
  go_wp2_with (first
    | (go_at_call 67; refine (HC.out _ (HB2.out _ _)).mono ?_; rintro e w4 ⟨rfl, hb4⟩; have HW := Lib.hid ((HB2.out _ _).trans (hb4.mono (HB2.out _ _).size)); clear hb4)
    | fail)
  go_ret
  exact ⟨rfl, HW.out⟩

theorem Take_yes (l : List UInt8) (m : MsD) (w : World) (hs : l.length ≤ TOP) (h : tkMs l = some m) (hm : m.ops.length ≤ BIG) : Calls Tryd.prog 32 #[Nb.S l] w fun e w' => ∃ a c L, e = .returned (.tuple #[m.v a c, .int .i64 0]) ∧ MsIn w' m a L ∧ Below w.heap.size w w' :=
  (Take_any l w hs).mono fun e w' hp => by
    rcases hp with ⟨m2, v2, L2, hm2, rfl, ho2, hos2, hb2⟩ | ⟨hm2, _, _⟩
    · rw [h] at hm2
      have := Option.some.inj hm2
      subst this
      have hl : L2.length = m.ops.length := by rw [← hos2, os_len]
      obtain ⟨a2, c2, hv2, hop2, _⟩ := ho2.ops (by rw [hl]; exact hm)
      subst hv2
      exact ⟨a2, c2, L2, by rw [hl]; rfl, ⟨hop2, hos2⟩, hb2⟩
    · rw [h] at hm2; cases hm2
theorem Take_not (l : List UInt8) (w : World) (hs : l.length ≤ TOP) (h : tkMs l = none) : Calls Tryd.prog 32 #[Nb.S l] w fun e w' => e = .returned (.tuple #[zMsV, .int .i64 7]) ∧ Below w.heap.size w w' :=
  (Take_any l w hs).mono fun e w' hp => by
    rcases hp with ⟨m2, v2, L2, hm2, _⟩ | ⟨_, h1, h2⟩
    · rw [h] at hm2; cases hm2
    · exact ⟨h1, h2⟩
theorem TakeOp_yes (l : List UInt8) (o : OpD) (r : List UInt8) (w : World) (hs : l.length ≤ TOP) (h : tkOp (some l) = some (o, r)) : Calls Tryd.prog 22 #[Nb.S l] w fun e w' => ∃ a c, e = .returned (.tuple #[o.v a c, Nb.S r, .int .i64 0]) ∧ ElemsAt w' a o.gone ∧ Below w.heap.size w w' :=
  (TakeOp_any l w hs).mono fun e w' hp => by
    rcases hp with ⟨o2, r2, a2, c2, h2, rfl, ho, hb⟩ | ⟨h2, _, _⟩
    · rw [h] at h2
      simp only [Option.some.injEq, Prod.mk.injEq] at h2
      obtain ⟨rfl, rfl⟩ := h2
      obtain ⟨a9, c9, hv9, he9, _⟩ := elems_own ho
      simp only [Value.slice.injEq] at hv9
      exact ⟨a2, c2, rfl, by rw [hv9.1]; exact he9, hb⟩
    · rw [h] at h2; cases h2
def joinD : MsD := ⟨1, 0, 5, 0, 0, 0, []⟩
theorem join_ok : okMs joinD = true := by decide
theorem join_head : ∀ n ∈ joinD.head, Nb.okB n = true := by decide
theorem join_len : (msB joinD).length = 7 := by
  have h : ∀ n : Int, n.toNat < 128 → (encI n).length = 1 := fun n hn => by unfold encI; rw [uvarint_small hn]; rfl
  have h7 : (encI ((0 : Nat) : Int)).length = 1 := h _ (by decide)
  have h8 : (opsB []).length = 0 := rfl
  unfold msB joinD MsD.head
  simp only [encL, List.length_append, List.length_nil, List.append_nil, h 1 (by decide), h 0 (by decide), h 5 (by decide), h7, h8]
set_option maxRecDepth 100000 in
set_option maxHeartbeats 4000000 in
theorem wakes12_any (w : World) : Calls Tryd.prog 25 #[] w (BoB true w) := by
  have hI : ∀ wx : World, MsIn wx joinD none [] := fun wx => ⟨⟨fun j hj => absurd hj (by simp), fun j hj => absurd hj (by simp), Nat.zero_le _⟩, rfl⟩
  have HP := Lib.hid (fun wx => pkBytes_any joinD none 0 [] wx (hI wx))
  have HT := Lib.hid (fun wx => Take_yes (msB joinD) joinD wx (by rw [join_len]; unfold TOP; omega) (tkMs_enc join_head join_ok) (Nat.zero_le _))
  unfold msV at HP
  rw [if_pos join_ok] at HP
  have hl := join_len
  generalize msB joinD = B at *
  unfold MsD.v joinD PkPost at *
  simp only [List.length_nil] at HP HT
  have HN := Lib.hid (fun n wx => num12_below n wx)
  go_enter Tryd.func25, Tryd.ntmps25
  go_wp2_with (first
    | (go_at_call 27; refine (HP.out _).mono ?_; rintro e w1 ⟨rfl, hb⟩; have HB1 := Lib.hid hb; clear hb)
    | (go_at_call 32; refine (HT.out _).mono ?_; rintro e w2 ⟨a2, c2, L2, rfl, _, hb2⟩; have HB2 := Lib.hid (HB1.out.trans (hb2.mono HB1.out.size)); clear hb2)
    | (go_at_call 20; refine (num12_any _ _).mono ?_; rintro e w3 ⟨rfl, hw3⟩; first | (subst hw3) | skip)
    | fail)
  go_ret
  exact ⟨rfl, below_alx HB2.out _⟩

def PAsk.v (p : PAsk) : Value := .agg #[.slice p.o.ao p.o.o.length p.o.co, .slice p.o.ae p.o.e.length p.o.ce, .slice p.o.an p.o.n.length p.o.cn, .slice p.am p.ms.length p.cm, .slice p.as_ p.ss.length p.cs_]
def PAsk.A (p : PAsk) : Array Value := #[.slice p.o.ao p.o.o.length p.o.co, .slice p.o.ae p.o.e.length p.o.ce, .slice p.o.an p.o.n.length p.o.cn, .slice p.am p.ms.length p.cm, .slice p.as_ p.ss.length p.cs_]
def BoolB (w : World) (e : Ending) (w' : World) : Prop := ∃ b, e = .returned (.bool b) ∧ Below w.heap.size w w'
set_option maxRecDepth 100000 in
set_option maxHeartbeats 4000000 in
theorem Heavy12_any (p : PAsk) (w : World) (h : PAskAt w p) : Calls Tryd.prog 13 #[p.v] w (BoolB w) := by
  have HT := Lib.hid (fun (wx : World) (hx : Below w.heap.size w wx) => Texts12_any p.as_ p.cs_ p.ss wx (h.s.below hx))
  have HH := Lib.hid (fun (wx : World) (hx : Below w.heap.size w wx) => Heavy_any p.o wx (h.o.below hx))
  have HM := Lib.hid h.m
  have HB := Lib.hid (below_al w (.cells p.A 30))
  have HX := Lib.hid (Hp.new w p.A 30)
  have hml := h.m.len
  have hbi := big_is
  unfold AskD.v at HH
  generalize heavyB p.o = hv at *
  generalize txF p.ss p.ss.length = tx at *
  clear h
  obtain ⟨⟨lo, le, ln, ao, ae, an, co, ce, cn⟩, ms, am, cm, ss, as_, cs_⟩ := p
  unfold PAsk.v PAsk.A at *
  simp only at HT HH HM HB HX hml ⊢
  obtain ⟨n4, hn4⟩ : ∃ n, ms.length = n := ⟨_, rfl⟩
  have HNM := Lib.hid hn4
  rw [hn4] at HB HX hml ⊢
  clear hn4
  go_enter Tryd.func13, Tryd.ntmps13
  go_upto_region 1 with fail
  generalize w.alloc (.cells #[.slice ao lo.length co, .slice ae le.length ce, .slice an ln.length cn, .slice am n4 cm, .slice as_ ss.length cs_] 30) = W0 at *
  obtain ⟨bx, hbx⟩ : ∃ b, w.heap.size = b := ⟨_, rfl⟩
  rw [hbx] at HX ⊢
  have q3 : W0.cell? ⟨bx, 3, none⟩ = some (.slice am n4 cm) := HX.out.cell 3 rfl
  have q4 : W0.cell? ⟨bx, 4, none⟩ = some (.slice as_ ss.length cs_) := HX.out.cell 4 rfl
  have g3 := cell_regrown q3
  have g4 := cell_regrown q4
  clear q3 q4 hbx
  refine wp_region_quiet_below (by kernel_rfl) (by kernel_rfl) ?_
  repeat (first | go_big_quiet_step (exact Calls.regrown_of (HT.out _ (HB.out.trans ((below_regrown _ _ _).mono HB.out.size)))) | quiet_step (exact Calls.regrown_of (HT.out _ (HB.out.trans ((below_regrown _ _ _).mono HB.out.size)))))
  refine wpQuiet_nil ?_
  intro _ hw'
  obtain ⟨⟨dq, osq⟩, hw''⟩ := hw'
  subst hw''
  have HB1 := Lib.hid (below_regrown W0 dq osq)
  clear g3 g4
  generalize Sort.grow (redrawn W0 dq) osq = w1 at *
  have HX1 := Lib.hid (HX.out.step HB1.out)
  have HBW := Lib.hid (HB.out.trans (HB1.out.mono HB.out.size))
  have HMW := Lib.hid (HM.out.below HBW.out)
  generalize wrap64 ((n4 : Int) + wrap64 (tx.tdiv 8)) = N0 at *
  clear HX HB1
  go_wp2_with fail
  go_loopw [3, 4] (fun n i wr => ∃ (k : Nat) (M : Int), k ≤ n4 ∧ i = .int .i64 k ∧ n = .int .i64 M ∧ Below w1.heap.size w1 wr) (fun _ i _ => n4 - (RowKit.intOf i).toNat)
  case atStart => exact ⟨0, N0, Nat.zero_le _, rfl, rfl, Below.refl _ _⟩
  case round =>
    obtain ⟨k, M, hk, rfl, rfl, hbel⟩ := hrel
    have HBR := Lib.hid hbel
    have HXR := Lib.hid (HX1.out.step hbel)
    have q0 : wr.cell? ⟨bx, 0, none⟩ = some (.slice ao lo.length co) := HXR.out.cell 0 rfl
    have q1 : wr.cell? ⟨bx, 1, none⟩ = some (.slice ae le.length ce) := HXR.out.cell 1 rfl
    have q2 : wr.cell? ⟨bx, 2, none⟩ = some (.slice an ln.length cn) := HXR.out.cell 2 rfl
    have q3 : wr.cell? ⟨bx, 3, none⟩ = some (.slice am n4 cm) := HXR.out.cell 3 rfl
    have HBF := Lib.hid (HBW.out.trans (hbel.mono HBW.out.size))
    clear hbel
    by_cases hlt : k < n4 ∧ M < 1048576
    · obtain ⟨h1, h2⟩ := hlt
      have hkl : k < ms.length := by rw [HNM.out]; exact h1
      obtain ⟨b, off, ha, hb, _, _, _, _, _, _, c6⟩ := (HMW.out.below HBR.out).cells k hkl
      have HOW := Lib.hid (OpsWeight_fn ms[k].a ms[k].cap ms[k].L wr ((HMW.out.below HBR.out).msg k hkl).ops)
      generalize ms[k] = r at *
      obtain ⟨m, ra, rc, L⟩ := r
      simp only at c6 HOW
      have hd2 : decide (M < 1048576) = true := decide_eq_true h2
      subst ha
      go_wp2_with (first
        | (go_at_call 45; refine HOW.out.mono ?_; rintro e w2 ⟨rfl, hb2⟩; have HB2 := Lib.hid (HBR.out.trans (hb2.mono HBR.out.size)); clear hb2)
        | fail)
      go_roundw
      case rel => exact ⟨k + 1, _, by omega, by go_num, rfl, HB2.out⟩
      case measure => simp [RowKit.intOf]; omega
    · have hx : ∃ b : Bool, True := ⟨true, trivial⟩
      have HHR := Lib.hid (HH.out wr HBF.out)
      have fin : ∀ (c : Bool), (decide ((900 : Int) < M) = c) → True := fun _ _ => trivial
      clear hx fin
      by_cases h9 : (900 : Int) < M
      · have hd9 : decide ((900 : Int) < M) = true := decide_eq_true h9
        by_cases h1 : k < n4
        · have hd2 : decide (M < 1048576) = false := decide_eq_false (fun h => hlt ⟨h1, h⟩)
          clear hlt
          go_wp2
          go_ret
          exact ⟨_, rfl, HBF.out⟩
        · have hd1 : decide (k < n4) = false := decide_eq_false h1
          clear hlt
          go_wp2
          go_ret
          exact ⟨_, rfl, HBF.out⟩
      · have hd9 : decide ((900 : Int) < M) = false := decide_eq_false h9
        have h1 : ¬ k < n4 := fun h => hlt ⟨h, by omega⟩
        have hd1 : decide (k < n4) = false := decide_eq_false h1
        clear hlt
        go_wp2_with (first
          | (go_at_call 46; refine HHR.out.mono ?_; rintro e w2 ⟨rfl, hb2⟩; have HB2 := Lib.hid (HBF.out.trans (hb2.mono HBF.out.size)); clear hb2)
          | fail)
        go_ret
        exact ⟨_, rfl, HB2.out⟩
end Go.Proofs.YtnkinbobnhdpaaaDoor
