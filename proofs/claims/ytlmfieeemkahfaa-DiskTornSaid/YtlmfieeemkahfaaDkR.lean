/- slices.Backward at sectors: its contract; disk.Read -/
import Derived.RangeFuncNested
import Derived.RangeFuncBound
import Derived.RangeFuncCalls
import Derived.RangeFuncLeaves
import Derived.RangeFuncBox
import Derived.Shelf.Abstract
import Derived.Shelf.RegionOpen
import Derived.WalkKit
import Derived.OwnWalkIn
import Derived.TacticsInMore
import Derived.LoopNIn
import Derived.LoopIn
import Derived.Sort.CutIn
import Derived.Test.YtlmfieeemkahfaaDkI
namespace Go.Proofs.Ytlmfieeemkahfaa
open Go.RowKit Go.Shelf
attribute [local go_sem] Oper.semAt_some

/-- the j-th sector from the end on -/
def secJ (l : List SeD) (j : Nat) : SeD := l[l.length - 1 - j]?.getD ⟨0, ⟨#[]⟩⟩
def bEnc (l : List SeD) (j : Nat) : Array Value := #[.int .i64 ((l.length : Int) - 1 - (j : Int)), .agg #[.int .i64 (secJ l j).pl, .string (secJ l j).text]]
theorem secJ_cell {W : World} {b off : Nat} {l : List SeD} (hc : ∀ j (h : j < l.length), W.cell? ⟨b, off + j * 2, none⟩ = some (.int .i64 l[j].pl) ∧ W.cell? ⟨b, off + j * 2 + 1, none⟩ = some (.string l[j].text)) {k : Nat} (hk : k < l.length) :
    W.cell? ⟨b, off + (l.length - 1 - k) * 2, none⟩ = some (.int .i64 (secJ l k).pl) ∧ W.cell? ⟨b, off + (l.length - 1 - k) * 2 + 1, none⟩ = some (.string (secJ l k).text) := by
  have h : l.length - 1 - k < l.length := by omega
  have h1 := hc _ h
  unfold secJ
  rw [List.getElem?_eq_getElem h]
  exact h1
set_option maxRecDepth 100000 in
set_option maxHeartbeats 2000000 in
theorem back1_in (F : Fence) (n : Nat) (h7 : F.fn 62) (hro : F.round = none) (hn : 1 ≤ n) (l Bs n₀ b off cap : Nat) (L : List SeD) (hreach : L.length ≤ 1000) (hb : b < n₀) (J Jx : List Nat → World → Prop)
    (hY : ∀ pre x W, J pre W → pre.length < L.length → YieldAt F (n - 1) Try.prog l (bEnc L x) W fun e W' =>
      (e = .returned (.bool true) ∧ J (pre ++ [x]) W' ∧ Below n₀ W W') ∨ (e = .returned (.bool false) ∧ Jx (pre ++ [x]) W'))
    (W : World) (hBs : W.cell? ⟨Bs, 0, none⟩ = some (.slice (some ⟨b, off, none⟩) L.length cap)) (hBn : Bs < n₀)
    (hc : ∀ j (h : j < L.length), W.cell? ⟨b, off + j * 2, none⟩ = some (.int .i64 L[j].pl) ∧ W.cell? ⟨b, off + j * 2 + 1, none⟩ = some (.string L[j].text)) (h0 : J [] W) :
    CallsIn F n Try.prog 62 #[.func (.yield l) #[] #[], .pointer (some ⟨Bs, 0, none⟩)] W fun e W' => (∃ v, e = .returned v) ∧
      ((∃ ys, ys = List.range L.length ∧ J ys W') ∨ (∃ pre, (∃ k, k ≤ L.length ∧ pre = List.range k) ∧ Jx pre W')) := by
  refine callsIn_of_wp Try.func62 rfl h7 ?_ hro
  simp only [Try.ntmps62, List.size_toArray, List.length_cons, List.length_nil, Nat.reduceAdd, Nat.reduceSub, Array.replicate_succ, Array.replicate_zero, List.push_toArray, List.append_toArray, List.nil_append, List.cons_append]
  have HC := Lib.hid hc
  clear hc
  have hw0 : wrap64 ((L.length : Int) - 1) = (L.length : Int) - 1 := by unfold wrap64; omega
  gi_wp2
  gi_loopw [3] (fun i wr => ∃ (k : Nat) (z : Int), k ≤ L.length ∧ i = .int .i64 z ∧ z = (L.length : Int) - 1 - (k : Int) ∧ J (List.range k) wr ∧ Below n₀ W wr)
    (fun i _ => ((intOf i) + 1).toNat)
  case atStart => exact ⟨0, _, Nat.zero_le _, rfl, by omega, h0, Below.refl _ _⟩
  case round =>
    obtain ⟨k, z, hk, rfl, hz, hJs, hnx⟩ := hrel
    have hbs := (hnx.cell (p := ⟨Bs, 0, none⟩) hBn).trans hBs
    by_cases hlt : k < L.length
    · obtain ⟨hc0, hc1⟩ := secJ_cell HC.out hlt
      have hx0 := (hnx.cell (p := ⟨b, off + (L.length - 1 - k) * 2, none⟩) hb).trans hc0
      have hx1 := (hnx.cell (p := ⟨b, off + (L.length - 1 - k) * 2 + 1, none⟩) hb).trans hc1
      obtain ⟨fn, tmps, assign, body, hy, hR⟩ := hY (List.range k) k wr hJs (by rw [List.length_range]; exact hlt)
      unfold bEnc at hy
      rw [← hz] at hy
      have hJ9 : ∀ W', J (List.range k ++ [k]) W' → J (List.range (k + 1)) W' := fun W' h => by rw [List.range_succ]; exact h
      obtain ⟨i, hi⟩ : ∃ i : Nat, L.length - 1 - k = i := ⟨_, rfl⟩
      rw [hi] at hx0 hx1
      obtain rfl : z = (i : Int) := by omega
      have hil : i < L.length := by omega
      generalize (secJ L k).pl = xp at *
      generalize (secJ L k).text = xt at *
      have hi2 : (i : Int) < (L.length : Int) := by omega
      have hi0 : (0 : Int) ≤ (i : Int) := by omega
      have hw1 : wrap64 ((i : Int) - 1) = (i : Int) - 1 := by unfold wrap64; omega
      have HZ := Lib.hid hz
      clear hc0 hc1 hz hi
      gi_wp2
      refine hR.mono ?_
      rintro e W3 (⟨rfl, hJ3, hk3⟩ | ⟨rfl, hJx3⟩)
      · gi_wp2
        go_roundw
        case rel => exact ⟨k + 1, _, by omega, rfl, (by have := HZ.out; omega), hJ9 _ hJ3, hnx.trans hk3⟩
        case measure => simp [intOf] <;> omega
      · gi_wp2
        refine bodyPost_ret (results_none rfl _ _ _) rfl ?_
        exact ⟨⟨_, rfl⟩, .inr ⟨_, ⟨k + 1, by omega, (List.range_succ).symm⟩, hJx3⟩⟩
    · have hkl : k = L.length := by omega
      have hzn : z < 0 := by omega
      have hzn2 : decide ((0 : Int) ≤ z) = false := decide_eq_false (by omega)
      subst hkl
      clear hz
      gi_wp2
      go_end0
      exact ⟨⟨_, rfl⟩, .inl ⟨_, rfl, hJs⟩⟩
set_option maxHeartbeats 1000000 in
theorem back_in (F : Fence) (n : Nat) (h5 : F.fn 52) (hro : F.round = none) (a : Option Addr) (len cap : Nat) (w : World) :
    CallsIn F n Try.prog 52 #[.slice a len cap] w fun e w' => e = .returned (.func (.func 62) #[] #[.pointer (some ⟨w.heap.size, 0, none⟩)]) ∧ w' = w.alloc (.cells #[.slice a len cap] 23) := by
  refine callsIn_of_wp Try.func52 rfl h5 ?_ hro
  simp only [Try.ntmps52, List.size_toArray, List.length_cons, List.length_nil, Nat.reduceAdd, Nat.reduceSub, Array.replicate_succ, Array.replicate_zero, List.push_toArray, List.append_toArray, List.nil_append, List.cons_append]
  gi_wp2
  go_ret
  exact ⟨rfl, rfl⟩
set_option maxRecDepth 100000 in
set_option maxHeartbeats 1000000 in
theorem back1_nil_in (F : Fence) (n : Nat) (h7 : F.fn 62) (hro : F.round = none) (l Bs cap : Nat) (a : Option Addr) (J : List Nat → World → Prop) (W : World) (hBs : W.cell? ⟨Bs, 0, none⟩ = some (.slice a 0 cap)) (h0 : J [] W) :
    CallsIn F n Try.prog 62 #[.func (.yield l) #[] #[], .pointer (some ⟨Bs, 0, none⟩)] W fun e W' => (∃ v, e = .returned v) ∧ J [] W' := by
  refine callsIn_of_wp Try.func62 rfl h7 ?_ hro
  simp only [Try.ntmps62, List.size_toArray, List.length_cons, List.length_nil, Nat.reduceAdd, Nat.reduceSub, Array.replicate_succ, Array.replicate_zero, List.push_toArray, List.append_toArray, List.nil_append, List.cons_append]
  have hw0 : wrap64 (0 - 1) = -1 := by unfold wrap64; omega
  gi_wp2
  gi_loopw [3] (fun i wr => i = .int .i64 (-1) ∧ J [] wr) (fun _ _ => 0)
  case atStart => exact ⟨rfl, h0⟩
  case round =>
    obtain ⟨rfl, hJs⟩ := hrel
    gi_wp2
    go_end0
    exact ⟨⟨_, rfl⟩, hJs⟩
theorem back_stops (F : Fence) (n : Nat) (h7 : F.fn 62) (hro : F.round = none) (hn : 1 ≤ n) (Bs n₀ cap : Nat) (a : Option Addr) (L : List SeD) (hreach : L.length ≤ 1000) (w : World) (hBs : Bs < w.heap.size)
    (hc : w.cell? ⟨Bs, 0, none⟩ = some (.slice a L.length cap)) (hBn : Bs < n₀) (hI : SecsAt w a L) (hb : ∀ b off, a = some ⟨b, off, none⟩ → L.length = 0 ∨ b < n₀) :
    SeqStopsK F n Try.prog 62 #[.pointer (some ⟨Bs, 0, none⟩)] (bEnc L) (Below n₀) (fun ys => ys = List.range L.length) (fun pre => ∃ k, k ≤ L.length ∧ pre = List.range k) L.length w := fun l J Jx W hW _ _ hY h0 => by
  have hc' := (hW.cell (p := ⟨Bs, 0, none⟩) hBs).trans hc
  by_cases hL : 0 < L.length
  · obtain ⟨b, off, rfl, _, _, _⟩ := hI.cell 0 hL
    have hIW := hI.below hW
    refine back1_in F n h7 hro hn l Bs n₀ b off cap L hreach ((hb b off rfl).resolve_left (by omega)) J Jx hY W hc' hBn (fun j hj => ?_) h0
    obtain ⟨b2, off2, h1, _, h3, h4⟩ := hIW.cell j hj
    simp only [Option.some.injEq, Addr.mk.injEq, and_true] at h1
    obtain ⟨rfl, rfl⟩ := h1
    exact ⟨h3, h4⟩
  · have h0L : L.length = 0 := by omega
    rw [h0L] at hc' ⊢
    exact (back1_nil_in F n h7 hro l Bs cap a J W hc' h0).mono fun e W' ⟨he, hj⟩ => ⟨he, .inl ⟨_, rfl, hj⟩⟩
/-- the text that is told -/
def rdT (d : DkD) (n : Int) : ByteArray := (stl d.safe d.wait oneF d.wait.length)[n.toNat]?.getD ⟨#[]⟩
def rdE (d : DkD) (n : Int) : Int := if mayB d then (if btw n 0 ((d.safe.length : Int) - 1) then 0 else 3) else 1
def rdS (d : DkD) (n : Int) : ByteArray := if rdE d n = 0 then rdT d n else ⟨#[]⟩
def RdP (d : DkD) (n : Int) (w : World) (e : Ending) (w' : World) : Prop := e = .returned (.tuple #[.string (rdS d n), .int .i64 (rdE d n)]) ∧ Below w.heap.size w w'
theorem st1_one (S : List ByteArray) (x : SeD) : st1 S x 1 = S.set x.pl.toNat x.text := by unfold st1 wrS; rw [if_pos rfl]
theorem stl_end {safe : List ByteArray} {wait : List SeD} {f : Nat → Nat} {k : Nat} (h : wait.length ≤ k) : stl safe wait f (k + 1) = stl safe wait f k := by
  rw [stl, List.getElem?_eq_none h]
theorem stl_far {safe : List ByteArray} {wait : List SeD} {p : Nat} : ∀ n, (∀ j (_ : j < n) (h : j < wait.length), wait[j].pl.toNat ≠ p) → (stl safe wait oneF n)[p]? = safe[p]?
  | 0, _ => rfl
  | n + 1, h => by
    by_cases hn : n < wait.length
    · rw [stl_succ hn, show oneF n = 1 from rfl, st1_one, List.getElem?_set_ne (h n (by omega) hn)]
      exact stl_far n (fun j hj hl => h j (by omega) hl)
    · rw [stl_end (by omega)]
      exact stl_far n (fun j hj hl => h j (by omega) hl)
theorem stl_near {safe : List ByteArray} {wait : List SeD} {p i : Nat} (hp : p < safe.length) (hi : i < wait.length) (hx : wait[i].pl.toNat = p) : ∀ n, i < n → (∀ j (_ : i < j) (_ : j < n) (h : j < wait.length), wait[j].pl.toNat ≠ p) → (stl safe wait oneF n)[p]? = some wait[i].text
  | 0, h, _ => by omega
  | n + 1, hin, h => by
    by_cases hn : n < wait.length
    · rw [stl_succ hn, show oneF n = 1 from rfl, st1_one]
      by_cases hni : n = i
      · subst hni
        rw [hx, List.getElem?_set_self (by rw [stl_len]; exact hp)]
      · rw [List.getElem?_set_ne (h n (by omega) (by omega) hn)]
        exact stl_near hp hi hx n (by omega) (fun j h1 h2 hl => h j h1 (by omega) hl)
    · rw [stl_end (by omega)]
      exact stl_near hp hi hx n (by omega) (fun j h1 h2 hl => h j h1 (by omega) hl)
theorem secJ_at {l : List SeD} {k : Nat} (h : k < l.length) : secJ l k = l[l.length - 1 - k] := by
  unfold secJ
  rw [List.getElem?_eq_getElem (by omega)]
  rfl
theorem rd_none {d : DkD} {p : Nat} (hd : May d) (hp : p < d.safe.length) (h : ∀ j ∈ List.range d.wait.length, (secJ d.wait j).pl ≠ (p : Int)) : rdT d (p : Int) = d.safe[p] := by
  unfold rdT
  rw [show ((p : Nat) : Int).toNat = p from rfl, stl_far d.wait.length (fun j hj hl hq => ?_), List.getElem?_eq_getElem hp]
  · rfl
  · have h9 := h (d.wait.length - 1 - j) (List.mem_range.2 (by omega))
    rw [secJ_at (by omega)] at h9
    have he : d.wait.length - 1 - (d.wait.length - 1 - j) = j := by omega
    simp only [he] at h9
    have := (hd.at_ _ (List.getElem_mem hl)).1
    omega
theorem rd_some {d : DkD} {p k : Nat} (hd : May d) (hp : p < d.safe.length) (hk : k < d.wait.length) (hx : (secJ d.wait k).pl = (p : Int)) (h : ∀ j ∈ List.range k, (secJ d.wait j).pl ≠ (p : Int)) : rdT d (p : Int) = (secJ d.wait k).text := by
  unfold rdT
  rw [secJ_at hk] at hx ⊢
  rw [show ((p : Nat) : Int).toNat = p from rfl, stl_near (i := d.wait.length - 1 - k) hp (by omega) (by rw [hx]; rfl) d.wait.length (by omega) (fun j h1 h2 hl hq => ?_)]
  · rfl
  · have h9 := h (d.wait.length - 1 - j) (List.mem_range.2 (by omega))
    rw [secJ_at (by omega)] at h9
    have he : d.wait.length - 1 - (d.wait.length - 1 - j) = j := by omega
    simp only [he] at h9
    have := (hd.at_ _ (List.getElem_mem hl)).1
    omega
theorem hp_own {β : Type} (t : TypeId) (B : Nat) (cs : β → Array Value) : Own (fun (s : β) W => Hp t W B (cs s)) := fun s A C row hs hg hr => by
  refine ⟨(hg.block B hs.lt (fun e => ?_)).trans hs.heap⟩
  obtain ⟨o, ho, hc⟩ := hr B e.symm
  rw [hs.heap] at ho
  cases ho
  cases hc
set_option maxRecDepth 100000 in
set_option maxHeartbeats 4000000 in
theorem Read_any (d : DkD) (sa : Option Addr) (sc : Nat) (wa : Option Addr) (wc : Nat) (n : Int) (w : World) (h : DkAt w d sa wa) : Calls Try.prog 35 #[d.v sa sc wa wc, .int .i64 n] w (RdP d n w) := by
  refine (callsIn_wide (n := 6)).1 ?_
  have HMB := Lib.hid (fun wx (hb : Below w.heap.size w wx) => mayBe_any d sa sc wa wc wx (h.below hb))
  have HTH := Lib.hid (fun wx => isThere_any d sa sc wa wc n wx)
  have HH := Lib.hid h
  have HMAY := Lib.hid (fun hm : mayB d = true => may_of hm)
  unfold RdP rdS rdE
  generalize mayB d = bm at *
  generalize hbt : btw n 0 ((d.safe.length : Int) - 1) = bt at *
  have HBT := Lib.hid hbt
  clear hbt h
  refine callsIn_of_wp_marks Try.func35 rfl trivial ?_ rfl
  simp only [Try.ntmps35, List.size_toArray, List.length_cons, List.length_nil, Nat.reduceAdd, Nat.reduceSub, Array.replicate_succ, Array.replicate_zero, List.push_toArray, List.append_toArray, List.nil_append, List.cons_append]
-- @READ
  generalize hE : (if bm = true then (if bt = true then (0 : Int) else 3) else 1) = EE at *
  generalize hX : (if EE = 0 then rdT d n else ⟨#[]⟩) = XX at *
  have HEE := Lib.hid hE
  have HXX := Lib.hid hX
  clear hE hX
  unfold DkD.v at *
  obtain ⟨m, hm⟩ : ∃ m, d.safe.length = m := ⟨_, rfl⟩
  obtain ⟨m2, hm2⟩ : ∃ m, d.wait.length = m := ⟨_, rfl⟩
  rw [hm] at HMB HTH HBT ⊢
  rw [hm2] at HMB HTH ⊢
  have HM := Lib.hid hm
  have HM2 := Lib.hid hm2
  clear hm hm2
  have h1 := Hp.new w #[.slice sa m sc, .slice wa m2 wc] 25
  have z1 : (w.alloc (.cells #[.slice sa m sc, .slice wa m2 wc] 25)).heap.size = w.heap.size + 1 := World.size_alloc _ _
  have b1 := below_al w (.cells #[.slice sa m sc, .slice wa m2 wc] 25)
  gi_upto_region 1 with fail
  obtain ⟨bx, hbx⟩ : ∃ b, w.heap.size = b := ⟨_, rfl⟩
  rw [hbx] at h1 z1 ⊢
  generalize w.alloc (.cells #[.slice sa m sc, .slice wa m2 wc] 25) = w1 at *
  have h2 := Hp.new w1 #[.int .i64 n] 3
  rw [z1] at h2
  have z2 : (w1.alloc (.cells #[.int .i64 n] 3)).heap.size = bx + 1 + 1 := by rw [World.size_alloc, z1]
  have b2 := below_alx b1 (.cells #[.int .i64 n] 3)
  have h1' := h1.step (below_al w1 (.cells #[.int .i64 n] 3))
  generalize w1.alloc (.cells #[.int .i64 n] 3) = w2 at *
  have h3 := Hp.new w2 #[.string ⟨#[]⟩] 9
  rw [z2] at h3
  have z3 : (w2.alloc (.cells #[.string ⟨#[]⟩] 9)).heap.size = bx + 1 + 1 + 1 := by rw [World.size_alloc, z2]
  have b3 := below_alx b2 (.cells #[.string ⟨#[]⟩] 9)
  have h1'' := h1'.step (below_al w2 (.cells #[.string ⟨#[]⟩] 9))
  have h2' := h2.step (below_al w2 (.cells #[.string ⟨#[]⟩] 9))
  generalize w2.alloc (.cells #[.string ⟨#[]⟩] 9) = w3 at *
  have h4 := Hp.new w3 #[.int .i64 0] 30
  rw [z3] at h4
  have b4 := below_alx b3 (.cells #[.int .i64 0] 30)
  have HA1 := Lib.hid (h1''.step (below_al w3 (.cells #[.int .i64 0] 30)))
  have HT1 := Lib.hid (h2'.step (below_al w3 (.cells #[.int .i64 0] 30)))
  have HR1 := Lib.hid (h3.step (below_al w3 (.cells #[.int .i64 0] 30)))
  generalize w3.alloc (.cells #[.int .i64 0] 30) = w4 at *
  have HE1 := Lib.hid h4
  have HB1 := Lib.hid b4
  have HSZ := Lib.hid (show bx + 1 + 1 + 1 < w4.heap.size from h4.lt)
  clear h1 z1 b1 h2 z2 b2 h1' h3 z3 b3 h1'' h2' h4 b4
  have q0 := HA1.out.cell 0 rfl
  have q1 := HA1.out.cell 1 rfl
  cases bm
  · have hE : EE = 1 := HEE.out.symm
    have hX : XX = ⟨#[]⟩ := by rw [← HXX.out, hE]; exact if_neg (by decide)
    subst hX hE
    gi_wp2_with (first
      | (refine ⟨trivial, ?_⟩; gi_at_call 40; refine (callsIn_wide.2 (HMB.out _ HB1.out)).mono ?_; rintro e w5 ⟨rfl, hb5⟩; have HA5 := Lib.hid (HA1.out.step hb5); have HT5 := Lib.hid (HT1.out.step hb5); have HR5 := Lib.hid (HR1.out.step hb5); have HE5 := Lib.hid (HE1.out.step hb5); have HB5 := Lib.hid (HB1.out.trans (hb5.mono HB1.out.size)); clear q0 q1; have q0 := HA5.out.cell 0 rfl; have q1 := HA5.out.cell 1 rfl; have q2 := HT5.out.cell 0 rfl; have r0 := HR5.out.cell 0 rfl; have r1 := HR5.out.fr 0; have e0 := HE5.out.cell 0 rfl; have e1 := HE5.out.fr 0; clear hb5)
      | (refine ⟨trivial, ?_⟩; gi_at_call 42; refine (callsIn_wide.2 (HTH.out _)).mono ?_; rintro e w6 ⟨rfl, hb6⟩; have HA6 := Lib.hid (HA5.out.step hb6); have HT6 := Lib.hid (HT5.out.step hb6); have HR6 := Lib.hid (HR5.out.step hb6); have HE6 := Lib.hid (HE5.out.step hb6); have HB6 := Lib.hid (HB5.out.trans (hb6.mono HB5.out.size)); clear q0 q1 q2 r0 r1 e0 e1; have q0 := HA6.out.cell 0 rfl; have q1 := HA6.out.cell 1 rfl; have q2 := HT6.out.cell 0 rfl; have r0 := HR6.out.cell 0 rfl; have r1 := HR6.out.fr 0; have e0 := HE6.out.cell 0 rfl; have e1 := HE6.out.fr 0; clear hb6)
      | fail)
    have u0 := (HR5.out.set 0 (.string ⟨#[]⟩)).far (k := bx + 1 + 1 + 1) (c := 0) (by omega) (.int .i64 1)
    have u1 := (HE5.out.far (k := bx + 1 + 1) (c := 0) (by omega) (.string ⟨#[]⟩)).set 0 (.int .i64 1)
    have c0 := u0.cell 0 rfl
    have c1 := u1.cell 0 rfl
    exact ⟨.tuple #[.string ⟨#[]⟩, .int .i64 1], by simp [results, Try.results35, go_sem, c0, c1], rfl, (HB5.out.setCell (p := ⟨bx + 1 + 1, 0, none⟩) (by show w.heap.size ≤ bx + 1 + 1; omega) _).setCell (p := ⟨bx + 1 + 1 + 1, 0, none⟩) (by show w.heap.size ≤ bx + 1 + 1 + 1; omega) _⟩
  · cases bt
    · have hE : EE = 3 := HEE.out.symm
      have hX : XX = ⟨#[]⟩ := by rw [← HXX.out, hE]; exact if_neg (by decide)
      subst hX hE
      gi_wp2_with (first
      | (refine ⟨trivial, ?_⟩; gi_at_call 40; refine (callsIn_wide.2 (HMB.out _ HB1.out)).mono ?_; rintro e w5 ⟨rfl, hb5⟩; have HA5 := Lib.hid (HA1.out.step hb5); have HT5 := Lib.hid (HT1.out.step hb5); have HR5 := Lib.hid (HR1.out.step hb5); have HE5 := Lib.hid (HE1.out.step hb5); have HB5 := Lib.hid (HB1.out.trans (hb5.mono HB1.out.size)); clear q0 q1; have q0 := HA5.out.cell 0 rfl; have q1 := HA5.out.cell 1 rfl; have q2 := HT5.out.cell 0 rfl; have r0 := HR5.out.cell 0 rfl; have r1 := HR5.out.fr 0; have e0 := HE5.out.cell 0 rfl; have e1 := HE5.out.fr 0; clear hb5)
      | (refine ⟨trivial, ?_⟩; gi_at_call 42; refine (callsIn_wide.2 (HTH.out _)).mono ?_; rintro e w6 ⟨rfl, hb6⟩; have HA6 := Lib.hid (HA5.out.step hb6); have HT6 := Lib.hid (HT5.out.step hb6); have HR6 := Lib.hid (HR5.out.step hb6); have HE6 := Lib.hid (HE5.out.step hb6); have HB6 := Lib.hid (HB5.out.trans (hb6.mono HB5.out.size)); clear q0 q1 q2 r0 r1 e0 e1; have q0 := HA6.out.cell 0 rfl; have q1 := HA6.out.cell 1 rfl; have q2 := HT6.out.cell 0 rfl; have r0 := HR6.out.cell 0 rfl; have r1 := HR6.out.fr 0; have e0 := HE6.out.cell 0 rfl; have e1 := HE6.out.fr 0; clear hb6)
      | fail)
      have u0 := (HR6.out.set 0 (.string ⟨#[]⟩)).far (k := bx + 1 + 1 + 1) (c := 0) (by omega) (.int .i64 3)
      have u1 := (HE6.out.far (k := bx + 1 + 1) (c := 0) (by omega) (.string ⟨#[]⟩)).set 0 (.int .i64 3)
      have c0 := u0.cell 0 rfl
      have c1 := u1.cell 0 rfl
      exact ⟨.tuple #[.string ⟨#[]⟩, .int .i64 3], by simp [results, Try.results35, go_sem, c0, c1], rfl, (HB6.out.setCell (p := ⟨bx + 1 + 1, 0, none⟩) (by show w.heap.size ≤ bx + 1 + 1; omega) _).setCell (p := ⟨bx + 1 + 1 + 1, 0, none⟩) (by show w.heap.size ≤ bx + 1 + 1 + 1; omega) _⟩
    · have hE : EE = 0 := HEE.out.symm
      subst hE
      have hX : XX = rdT d n := by rw [← HXX.out]; exact if_pos rfl
      have HXR := Lib.hid hX
      clear hX HEE HXX
      have hmay := HMAY.out rfl
      gi_wp2_with (first
      | (refine ⟨trivial, ?_⟩; gi_at_call 40; refine (callsIn_wide.2 (HMB.out _ HB1.out)).mono ?_; rintro e w5 ⟨rfl, hb5⟩; have HA5 := Lib.hid (HA1.out.step hb5); have HT5 := Lib.hid (HT1.out.step hb5); have HR5 := Lib.hid (HR1.out.step hb5); have HE5 := Lib.hid (HE1.out.step hb5); have HB5 := Lib.hid (HB1.out.trans (hb5.mono HB1.out.size)); clear q0 q1; have q0 := HA5.out.cell 0 rfl; have q1 := HA5.out.cell 1 rfl; have q2 := HT5.out.cell 0 rfl; have r0 := HR5.out.cell 0 rfl; have r1 := HR5.out.fr 0; have e0 := HE5.out.cell 0 rfl; have e1 := HE5.out.fr 0; clear hb5)
      | (refine ⟨trivial, ?_⟩; gi_at_call 42; refine (callsIn_wide.2 (HTH.out _)).mono ?_; rintro e w6 ⟨rfl, hb6⟩; have HA6 := Lib.hid (HA5.out.step hb6); have HT6 := Lib.hid (HT5.out.step hb6); have HR6 := Lib.hid (HR5.out.step hb6); have HE6 := Lib.hid (HE5.out.step hb6); have HB6 := Lib.hid (HB5.out.trans (hb6.mono HB5.out.size)); clear q0 q1 q2 r0 r1 e0 e1; have q0 := HA6.out.cell 0 rfl; have q1 := HA6.out.cell 1 rfl; have q2 := HT6.out.cell 0 rfl; have r0 := HR6.out.cell 0 rfl; have r1 := HR6.out.fr 0; have e0 := HE6.out.cell 0 rfl; have e1 := HE6.out.fr 0; clear hb6)
      | (refine ⟨trivial, ?_⟩; gi_at_call 52; refine (back_in Fence.wide (6 - 1) trivial rfl _ _ _ _).mono ?_; rintro e w7 ⟨rfl, rfl⟩)
      | fail)
      have hS6 := Hp.new w6 #[.slice wa m2 wc] 23
      have hb6 := below_al w6 (.cells #[.slice wa m2 wc] 23)
      have hz6 : (w6.alloc (.cells #[.slice wa m2 wc] 23)).heap.size = w6.heap.size + 1 := World.size_alloc _ _
      have HW0 := Lib.hid (HH.out.wait.below (HB6.out.trans (hb6.mono HB6.out.size)))
      have HS0 := Lib.hid (HH.out.safe.below (HB6.out.trans (hb6.mono HB6.out.size)))
      have HA0 := Lib.hid (HA6.out.step hb6)
      have HT0 := Lib.hid (HT6.out.step hb6)
      have HR0 := Lib.hid (HR6.out.step hb6)
      have HE0 := Lib.hid (HE6.out.step hb6)
      have HB0 := Lib.hid (HB6.out.trans (hb6.mono HB6.out.size))
      clear q0 q1 q2 r0 r1 e0 e1
      obtain ⟨bs, hbs⟩ : ∃ b, w6.heap.size = b := ⟨_, rfl⟩
      rw [hbs] at hS6 hz6 ⊢
      generalize w6.alloc (.cells #[.slice wa m2 wc] 23) = W0 at *
      have hL : d.wait.length ≤ 1000 := by have := hmay.few; omega
      have hn0 := of_decide_eq_true HBT.out
      obtain ⟨p, rfl⟩ : ∃ p : Nat, n = p := ⟨n.toNat, by omega⟩
      have hpm : p < m := by omega
      have hsc : W0.cell? ⟨bs, 0, none⟩ = some (.slice wa d.wait.length wc) := by rw [HM2.out]; exact hS6.cell 0 rfl
      have hN : ∀ b off, wa = some ⟨b, off, none⟩ → d.wait.length = 0 ∨ b < W0.heap.size := fun b off hw => by
        by_cases h0 : 0 < d.wait.length
        · obtain ⟨b2, off2, h1, h2, _⟩ := HW0.out.cell 0 h0
          rw [hw] at h1
          simp only [Option.some.injEq, Addr.mk.injEq, and_true] at h1
          exact .inr (h1.1 ▸ h2)
        · exact .inl (by omega)
      refine wpIn_rangeFunc_ownH (F := Fence.wide) (n := 6) rfl (by decide) (gf := 62) (lb := #[.pointer (some ⟨bs, 0, none⟩)]) rfl trivial (enters_of Try.func62 (by kernel_rfl) rfl)
        (back_stops Fence.wide (6 - 1) trivial rfl (by decide) bs W0.heap.size wc wa d.wait hL W0 hS6.lt hsc hS6.lt HW0.out hN) belowK_t (belowK_b (Nat.le_refl _)) (Below.refl _ _) (fun _ => rfl)
        (fun pre W => (∀ j ∈ pre, (secJ d.wait j).pl ≠ (p : Int)) ∧ Below W0.heap.size W0 W)
        (fun c pre W => ((c = .ret ∧ ∃ pre0 x, pre = pre0 ++ [x] ∧ (∀ j ∈ pre0, (secJ d.wait j).pl ≠ (p : Int)) ∧ (secJ d.wait x).pl = (p : Int)) ∧ (Hp 9 W (bx + 1 + 1) #[.string (secJ d.wait (pre.getLast?.getD 0)).text] ∧ Hp 30 W (bx + 1 + 1 + 1) #[.int .i64 0])) ∧ Below w.heap.size w W)
        (OwnFrom.and (ownFrom_pure _ _) (ownFrom_below (Nat.le_refl _) (Nat.le_refl _)))
        (fun c => OwnFrom.and (OwnFrom.and (ownFrom_pure _ _) (OwnFrom.and (Own.from (hp_own (β := List Nat) _ _ (fun pre => #[.string (secJ d.wait (pre.getLast?.getD 0)).text])) _) (Own.from (hp_own (β := List Nat) _ _ (fun _ => #[.int .i64 0])) _))) (ownFrom_below (Nat.le_refl _) HB0.out.size))
        ⟨(fun j hj => by cases hj), Below.refl _ _⟩
        (fun x a' W => ∃ Bx, W0.heap.size ≤ Bx ∧ Hp 73 W Bx #[.int .i64 (secJ d.wait x).pl, .string (secJ d.wait x).text] ∧ a' = { tmps := #[.agg #[.slice sa m sc, .slice wa m2 wc], .int .i64 p, .pointer (some ⟨bx, 0, none⟩), .pointer (some ⟨bx + 1, 0, none⟩), .pointer (some ⟨bx + 1 + 1, 0, none⟩), .pointer (some ⟨bx + 1 + 1 + 1, 0, none⟩), undef, .pointer (some ⟨Bx, 0, none⟩), .agg #[.slice sa m sc, .slice wa m2 wc], .bool true, .bool false, .agg #[.slice sa m sc, .slice wa m2 wc], .int .i64 p, .bool true, .bool false, .pointer (some ⟨bx, 1, none⟩), .slice wa m2 wc, .func (.func 62) #[] #[.pointer (some ⟨bs, 0, none⟩)], .int .i64 ((d.wait.length : Int) - 1 - (x : Int)), .agg #[.int .i64 (secJ d.wait x).pl, .string (secJ d.wait x).text], undef, undef, undef, undef, undef, undef, undef, undef, undef, undef, undef], defers := [] })
        (fun x a' _ X Y row hs hg hr => by obtain ⟨Bx, h1, h2, h3⟩ := hs; exact ⟨Bx, h1, hp_own _ Bx (fun (_ : Unit) => _) () X Y row h2 hg (fun r e => (hr r e).2), h3⟩)
        ?assign ?body ?done ?stop
      case assign =>
        rintro l pre x W K ⟨hp, hB⟩ hK
        unfold bEnc
        gi_wp2
        exact hK _ _ ((KeepsOthers.alloc _ _).from _) ((Below.refl _ W).alloc hB.size _) ⟨hp, hB.alloc hB.size _⟩ ⟨W.heap.size, hB.size, Hp.new W _ _, rfl⟩
      case body =>
        rintro l pre x a' W hl ⟨r, hr⟩ ⟨hp, hB⟩ ⟨Bx, hBx, hX, rfl⟩ hlt
        have ct := (HT0.out.step hB).cell 0 rfl
        have cx0 := hX.cell 0 rfl
        have cx1 := hX.cell 1 rfl
        have hR := HR0.out.step hB
        have hE := HE0.out.step hB
        have cr := hR.cell 0 rfl
        have fr := hR.fr 0
        have ce := hE.cell 0 rfl
        have fe := hE.fr 0
        have hlast : (pre ++ [x]).getLast?.getD 0 = x := by simp
        by_cases hq : (secJ d.wait x).pl = (p : Int)
        · have hq2 : ((secJ d.wait x).pl == (p : Int)) = true := beq_iff_eq.2 hq
          gi_wp2
          refine ⟨((KeepsOthers.setCell _ _ _).trans (KeepsOthers.setCell _ _ _)).from _, ⟨⟨rfl, pre, x, rfl, hp, hq⟩, ?_, ?_⟩, ?_⟩
          · rw [hlast]
            exact (hR.set 0 (.string (secJ d.wait x).text)).far (k := bx + 1 + 1 + 1) (c := 0) (by omega) (.int .i64 0)
          · exact (hE.far (k := bx + 1 + 1) (c := 0) (by omega) (.string (secJ d.wait x).text)).set 0 (.int .i64 0)
          · exact ((HB0.out.trans (hB.mono HB0.out.size)).setCell (p := ⟨bx + 1 + 1, 0, none⟩) (by show w.heap.size ≤ bx + 1 + 1; omega) _).setCell (p := ⟨bx + 1 + 1 + 1, 0, none⟩) (by show w.heap.size ≤ bx + 1 + 1 + 1; omega) _
        · have hq2 : ((secJ d.wait x).pl == (p : Int)) = false := beq_eq_false_iff_ne.2 hq
          gi_wp2
          exact ⟨KeepsFrom.refl _ _, Below.refl _ _, ⟨fun j hj => (List.mem_append.1 hj).elim (hp j) (fun e => by simp at e; rw [e]; exact hq), hB⟩⟩
      case done =>
        rintro D ys W hD rfl ⟨hne, hB⟩ hK
        have hA := HA0.out.step hB
        have ca := hA.cell 0 rfl
        have ct := (HT0.out.step hB).cell 0 rfl
        have hR := HR0.out.step hB
        have hE := HE0.out.step hB
        have cr := hR.cell 0 rfl
        have fr := hR.fr 0
        have ce := hE.cell 0 rfl
        have fe := hE.fr 0
        obtain ⟨b, off, rfl, hbb, x0⟩ := (HS0.out.below hB).cell p (by rw [HM.out]; exact hpm)
        have hrd := rd_none hmay (by rw [HM.out]; exact hpm) hne
        rw [← hrd, ← HXR.out] at x0
        have hpm2 : (p : Int) < (m : Int) := by omega
        have h9 := (hR.set 0 (.string XX)).far (k := bx + 1 + 1 + 1) (c := 0) (by omega) (.int .i64 0)
        have h8 := (hE.far (k := bx + 1 + 1) (c := 0) (by omega) (.string XX)).set 0 (.int .i64 0)
        have hK' := ((KeepsOthers.setCell W ⟨bx + 1 + 1, 0, none⟩ (.string XX)).trans (KeepsOthers.setCell _ ⟨bx + 1 + 1 + 1, 0, none⟩ (.int .i64 0))).same D _ hK rfl
        have hB9 := ((HB0.out.trans (hB.mono HB0.out.size)).setCell (p := ⟨bx + 1 + 1, 0, none⟩) (by show w.heap.size ≤ bx + 1 + 1; omega) (.string XX)).setCell (p := ⟨bx + 1 + 1 + 1, 0, none⟩) (by show w.heap.size ≤ bx + 1 + 1 + 1; omega) (.int .i64 0)
        have hDw : w.heap.size ≤ D := Nat.le_trans HB0.out.size hD
        gi_wp2
        refine ⟨by simp, .inl ⟨_, _, rfl, run_takeDeferred hK', ?_⟩⟩
        have c0 := cell_kept (h9.cell 0 rfl) (grownBy_putObj' _ D (.deferred none)) (fun r e => by cases e; exact ⟨_, hK', rfl⟩)
        have c1 := cell_kept (h8.cell 0 rfl) (grownBy_putObj' _ D (.deferred none)) (fun r e => by cases e; exact ⟨_, hK', rfl⟩)
        exact ⟨.tuple #[.string XX, .int .i64 0], by simp [results, Try.f35, go_sem, c0, c1], rfl, hB9.trans (belowK_b (w := w) (Nat.le_refl _) _ D _ _ hDw hK' rfl rfl)⟩
      case stop =>
        rintro D c pre W hD ⟨k, hk, rfl⟩ ⟨⟨⟨rfl, pre0, x, hpx, hne, hq⟩, hR, hE⟩, hB⟩ hK
        have hkx : k = pre0.length + 1 := by have := congrArg List.length hpx; simpa using this
        have hpr : List.range (pre0.length + 1) = pre0 ++ [x] := by rw [← hkx]; exact hpx
        rw [List.range_succ] at hpr
        obtain ⟨hp1, hp2⟩ := List.append_inj hpr (by simp)
        have hx9 : x = pre0.length := by simpa using hp2.symm
        have hrd := rd_some hmay (k := pre0.length) (by rw [HM.out]; exact hpm) (by omega) (by rw [← hx9]; exact hq) (by rw [hp1]; exact hne)
        have hlast : (List.range k).getLast?.getD 0 = x := by rw [hpx]; simp
        rw [hlast, hx9, ← hrd, ← HXR.out] at hR
        have hDw : w.heap.size ≤ D := Nat.le_trans HB0.out.size hD
        gi_wp2
        refine ⟨by simp, .inl ⟨_, _, rfl, run_takeDeferred hK, ?_⟩⟩
        have c0 := cell_kept (hR.cell 0 rfl) (grownBy_putObj' _ D (.deferred none)) (fun r e => by cases e; exact ⟨_, hK, rfl⟩)
        have c1 := cell_kept (hE.cell 0 rfl) (grownBy_putObj' _ D (.deferred none)) (fun r e => by cases e; exact ⟨_, hK, rfl⟩)
        exact ⟨.tuple #[.string XX, .int .i64 0], by simp [results, Try.f35, go_sem, c0, c1], rfl, hB.trans (belowK_b (w := w) (Nat.le_refl _) _ D _ _ hDw hK rfl rfl)⟩
end Go.Proofs.Ytlmfieeemkahfaa
