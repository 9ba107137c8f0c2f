/- package undo: name, writer -/
import Derived.Test.YtefgoelkdjendaaGreatDoorTMap
import Derived.Test.YtefgoelkdjendaaGreatDoorONeedsP
import Derived.Test.YtefgoelkdjendaaGreatDoorDText
import Derived.Test.YtefgoelkdjendaaGreatDoorDIdle
import Derived.Test.YtefgoelkdjendaaGreatDoorShelfN
import Derived.Lib.AppendIntMem
import Derived.Test.YtefgoelkdjendaaGreatDoorOCopy
import Derived.Test.YtefgoelkdjendaaGreatDoorYCut
import Derived.Laws.AppendOwnNone
import Derived.Deep.RegionLaw
import Derived.IntWalk
import Derived.Test.YtefgoelkdjendaaGreatDoorDTog
import Derived.Test.YtefgoelkdjendaaGreatDoorEPure
import Derived.Lib.QuietBelow
import Derived.Deep.QuietTactic
import Derived.BigQuiet
namespace Go.Proofs.YtefgoelkdjendaaGreatDoor
open Go.RowKit Go.Lib Go.Sort

theorem uName_any (s q : Int) (w : World) : Calls Tryz.prog 19 #[.int .i64 s, .int .i64 q] w fun x w' => x = .returned (.agg #[.int .i64 s, .int .i64 q, .int .i64 0]) ∧ Below w.heap.size w w' := by
  go_enter Tryz.func19, Tryz.ntmps19
  go_wp2
  refine bodyPost_ret (v := .agg #[.int .i64 s, .int .i64 q, .int .i64 0]) (by simp [results, Tryz.results19, go_sem]) rfl ⟨rfl, ?_⟩
  exact (Below.refl _ _).alloc (Nat.le_refl _) _
theorem two_new (w : World) (o1 o2 : Obj) : ((w.alloc o1).alloc o2).heap[w.heap.size + 1]? = some o2 := by
  have h := heap_alloc_new (w.alloc o1) o2
  rwa [show (w.alloc o1).heap.size = w.heap.size + 1 from by simp] at h
theorem cells3 {w : World} {b : Nat} {t : TypeId} {c0 c1 c2 : Value} (h : w.heap[b]? = some (.cells #[c0, c1, c2] t)) :
    w.cell? ⟨b, 0, none⟩ = some c0 ∧ w.cell? ⟨b, 1, none⟩ = some c1 ∧ w.cell? ⟨b, 2, none⟩ = some c2 ∧ (∀ c, w.frozen? ⟨b, c, none⟩ = false) ∧ b < w.heap.size := by
  refine ⟨?_, ?_, ?_, fun c => ?_, (Array.getElem?_eq_some_iff.1 h).1⟩
  all_goals first | (simp [World.cell?, h]; done) | (simp [World.frozen?, h])
theorem fill3 {w : World} {b : Nat} {t : TypeId} {z0 z1 z2 v0 v1 v2 : Value} (h : w.heap[b]? = some (.cells #[z0, z1, z2] t)) :
    (((w.setCell ⟨b, 0, none⟩ v0).setCell ⟨b, 1, none⟩ v1).setCell ⟨b, 2, none⟩ v2).heap[b]? = some (.cells #[v0, v1, v2] t) := by
  unfold World.setCell
  simp [Array.getElem?_modify, h]
theorem uWriter_any (s q i : Int) (w : World) : Calls Tryz.prog 94 #[.agg #[.int .i64 s, .int .i64 q, .int .i64 i]] w fun x w' => x = .returned (.agg #[.int .i64 s, .int .i64 q, .int .i64 0]) ∧ Below w.heap.size w w' := by
  have HB := Lib.hid (show Below w.heap.size w ((w.alloc (.cells #[.int .i64 s, .int .i64 q, .int .i64 i] 31)).alloc (.cells #[.int .i64 0, .int .i64 0, .int .i64 0] 31)) from ((Below.refl _ _).alloc (Nat.le_refl _) _).alloc (by simp) _)
  go_enter Tryz.func94, Tryz.ntmps94
  have HK := Lib.hid (fun (w1 : World) (hb1 : Below ((w.alloc (.cells #[.int .i64 s, .int .i64 q, .int .i64 i] 31)).alloc (.cells #[.int .i64 0, .int .i64 0, .int .i64 0] 31)).heap.size ((w.alloc (.cells #[.int .i64 s, .int .i64 q, .int .i64 i] 31)).alloc (.cells #[.int .i64 0, .int .i64 0, .int .i64 0] 31)) w1) => (show w1.heap[w.heap.size + 1]? = some (.cells #[.int .i64 0, .int .i64 0, .int .i64 0] 31) from ((hb1.block (w.heap.size + 1) (by simp)).trans (two_new _ _ _))))
  go_wp2_with (first
    | (go_at_call 19; go_loud (refine (uName_any _ _ _).mono ?_; rintro x1 w1 ⟨rfl, hb1⟩; have hk1 := HK.out w1 hb1; obtain ⟨k0, k1, k2, kf, kl⟩ := cells3 hk1; have HB1 := Lib.hid (HB.out.trans (hb1.mono HB.out.size)); have hz1 := hb1.size; clear hb1))
    | fail)
  have hf := fill3 (v0 := .int .i64 s) (v1 := .int .i64 q) (v2 := .int .i64 0) hk1
  have hbw : Below w.heap.size w (((w1.setCell ⟨w.heap.size + 1, 0, none⟩ (.int .i64 s)).setCell ⟨w.heap.size + 1, 1, none⟩ (.int .i64 q)).setCell ⟨w.heap.size + 1, 2, none⟩ (.int .i64 0)) := by
    iterate 3 refine Below.setCell ?_ (by show _ ≤ _; simp only; omega) _
    exact HB1.out
  generalize (((w1.setCell ⟨w.heap.size + 1, 0, none⟩ (.int .i64 s)).setCell ⟨w.heap.size + 1, 1, none⟩ (.int .i64 q)).setCell ⟨w.heap.size + 1, 2, none⟩ (.int .i64 0)) = W at *
  obtain ⟨j0, j1, j2, _, _⟩ := cells3 hf
  refine bodyPost_ret (v := .agg #[.int .i64 s, .int .i64 q, .int .i64 0]) ?_ rfl ⟨rfl, hbw⟩
  simp [results, Tryz.results94, go_sem, j0, j1, j2]
end Go.Proofs.YtefgoelkdjendaaGreatDoor
/- package undo: is an element held? slices.ContainsFunc with that closure; leaning where none leans -/
namespace Go.Proofs.YtefgoelkdjendaaGreatDoor
open Go.RowKit Go.Lib Go.Sort

/-- what the closure reads -/
structure HeldIn (w : World) (hp hb hn : Nat) (V : El → Option Value) : Prop where
  pc : w.cell? ⟨hp, 0, none⟩ = some (.map (some hb))
  lt : hp < w.heap.size
  map : MapE w hb hn V
theorem HeldIn.below {w w' : World} {hp hb hn : Nat} {V : El → Option Value} (h : HeldIn w hp hb hn V) (hx : Below w.heap.size w w') : HeldIn w' hp hb hn V :=
  ⟨(hx.cell (p := ⟨hp, 0, none⟩) h.lt).trans h.pc, Nat.lt_of_lt_of_le h.lt hx.size, h.map.kept (hx.block hb h.map.lt)⟩
set_option maxRecDepth 100000 in
set_option maxHeartbeats 2000000 in
theorem uHeld_any (hp hb hn : Nat) (V : El → Option Value) (e : El) (w : World) (h : HeldIn w hp hb hn V) (hV : ∀ x v, V x = some v → v = unitV) (hf : e.fit) :
    Calls Tryz.prog 37 #[e.v, .pointer (some ⟨hp, 0, none⟩)] w (BoB (V e).isSome w) := by
  have HB0 : RowKit.Hid (Below w.heap.size w ((w.alloc (.cells #[.int .i64 e.s, .int .i64 e.q, .int .i64 e.i] 31)).alloc (.cells #[] 76))) := Lib.hid (((Below.refl _ _).alloc (Nat.le_refl _) _).alloc (by simp) _)
  have HBX := Lib.hid (BoxE.new w e)
  have h1 := h.below ((Below.refl w.heap.size w).alloc (Nat.le_refl _) (.cells #[.int .i64 e.s, .int .i64 e.q, .int .i64 e.i] 31))
  have hlk := (by
    have h2 := h1.map.look (t := 77) (z := .agg #[]) Tryz.underlying77 (by kernel_rfl) e hf true
    simp only [if_true] at h2
    rw [show (V e).getD (Value.agg #[]) = .agg #[] from by
      cases hve : V e with
      | none => rfl
      | some v => rw [hV e v hve]; rfl] at h2
    exact h2 : (Instr.lookup 77 (.map (some hb)) (.agg #[.int .i64 e.s, .int .i64 e.q, .int .i64 e.i]) true).run Tryz.prog (w.alloc (.cells #[.int .i64 e.s, .int .i64 e.q, .int .i64 e.i] 31)) = .ok (.tuple #[.agg #[], .bool (V e).isSome]) (w.alloc (.cells #[.int .i64 e.s, .int .i64 e.q, .int .i64 e.i] 31)))
  generalize (V e).isSome = b at *
  obtain ⟨s, q, i⟩ := e
  unfold El.v
  simp only at HB0 HBX hlk h1 ⊢
  have p0 := HBX.out.c0
  have p1 := HBX.out.c1
  have p2 := HBX.out.c2
  have pl := HBX.out.lt
  have g0 := h1.pc
  have gl := h1.lt
  simp only at p0 p1 p2
  clear h h1 hf hV
  go_enter Tryz.func37, Tryz.ntmps37
  go_wp2_with fail
  go_ret
  exact ⟨rfl, HB0.out⟩
set_option maxRecDepth 100000 in
set_option maxHeartbeats 2000000 in
theorem uIdx_any (hp hb hn : Nat) (V : El → Option Value) (a : Option Addr) (cap : Nat) (l : List El) (w : World) (hh : HeldIn w hp hb hn V) (hV : ∀ x v, V x = some v → v = unitV) (h : ElemsAt w a l) (hfit : ∀ e ∈ l, e.fit) (hl : l.length ≤ 1000000) :
    Calls Tryz.prog 72 #[.slice a l.length cap, .func (.func 37) #[] #[.pointer (some ⟨hp, 0, none⟩)]] w (IntB (ixP (fun e => (V e).isSome) l) w) := by
  have HP := Lib.hid (fun (e : El) (wx : World) (hx : Below w.heap.size w wx) (hf : e.fit) => uHeld_any hp hb hn V e wx (hh.below hx) hV hf)
  have HH := Lib.hid h
  have HF := Lib.hid hfit
  obtain ⟨n, hn2⟩ : ∃ n, l.length = n := ⟨_, rfl⟩
  have HN := Lib.hid hn2
  obtain ⟨p, hpp⟩ : ∃ p : El → Bool, (fun e => (V e).isSome) = p := ⟨_, rfl⟩
  have HPP := Lib.hid (fun e => congrFun hpp e)
  rw [hpp]
  have HA := Lib.hid (fun k (hk : k < l.length) hp hall => ixP_at (l := l) (p := p) (k := k) hk hp hall)
  have HNO := Lib.hid (fun hall => ixP_no (l := l) (p := p) hall)
  rw [hn2] at hl ⊢
  clear h hn2 hfit hh hV hpp
  generalize ixP p l = z at *
  go_enter Tryz.func72, Tryz.ntmps72
  go_wp2_with fail
  go_loopw [8] (fun s8 wr => ∃ k : Nat, s8 = .int .i64 k ∧ k ≤ n ∧ Below w.heap.size w wr ∧ ∀ j (hj : j < l.length), j < k → p l[j] = false) (fun s8 _ => n - (RowKit.intOf s8).toNat)
  case atStart => exact ⟨0, rfl, Nat.zero_le _, Below.refl _ _, fun j _ hj => absurd hj (by omega)⟩
  case round =>
    obtain ⟨k, rfl, hk, hb, hall⟩ := hrel
    have HALL := Lib.hid hall
    have HB := Lib.hid hb
    clear hall
    by_cases hlt : k < n
    · have hkl : k < l.length := by rw [HN.out]; exact hlt
      obtain ⟨b, off, rfl, hbb, x0, x1, x2⟩ := (HH.out.below hb).cell k hkl
      have hfk := HF.out l[k] (List.getElem_mem hkl)
      have HC := Lib.hid (fun (wx : World) (hx : Below w.heap.size w wx) => HP.out l[k] wx hx hfk)
      have HK0 := Lib.hid (fun hp => HA.out k hkl hp HALL.out)
      have HK1 := Lib.hid (show p l[k] = false → ∀ j (hj : j < l.length), j < k + 1 → p l[j] = false from fun h j hj hjk => by
        by_cases hjk2 : j = k
        · subst hjk2; exact h
        · exact HALL.out j hj (by omega))
      clear hb hfk
      generalize l[k] = x at *
      have hpx0 := HPP.out x
      obtain ⟨xs, xq, xi⟩ := x
      simp only at x0 x1 x2
      unfold El.v at HC
      simp only at HC hpx0
      rw [hpx0] at HC
      clear hpx0
      cases hpx : p ⟨xs, xq, xi⟩
      · rw [hpx] at HC
        go_wp2_with (first | (go_at_call 37; refine (HC.out wr HB.out).mono ?_; rintro x1 w1 ⟨rfl, hb1⟩; have HB1 := Lib.hid (HB.out.trans (hb1.mono HB.out.size)); clear hb1) | fail)
        go_roundw
        case rel => exact ⟨k + 1, by go_num, by omega, HB1.out, HK1.out hpx⟩
        case measure => simp [RowKit.intOf]; omega
      · rw [hpx] at HC
        have HZ := Lib.hid (HK0.out hpx)
        go_wp2_with (first | (go_at_call 37; refine (HC.out wr HB.out).mono ?_; rintro x1 w1 ⟨rfl, hb1⟩; have HB1 := Lib.hid (HB.out.trans (hb1.mono HB.out.size)); clear hb1) | fail)
        go_ret
        exact ⟨ret_int HZ.out.symm, HB1.out⟩
    · have HZ := Lib.hid (HNO.out (fun j hj => HALL.out j hj (by rw [HN.out] at hj; omega)))
      clear hb
      go_wp2
      go_ret
      exact ⟨ret_int HZ.out.symm, HB.out⟩
set_option maxRecDepth 100000 in
set_option maxHeartbeats 2000000 in
theorem uCon_any (hp hb hn : Nat) (V : El → Option Value) (a : Option Addr) (cap : Nat) (l : List El) (w : World) (hh : HeldIn w hp hb hn V) (hV : ∀ x v, V x = some v → v = unitV) (h : ElemsAt w a l) (hfit : ∀ e ∈ l, e.fit) (hl : l.length ≤ 1000000) :
    Calls Tryz.prog 39 #[.slice a l.length cap, .func (.func 37) #[] #[.pointer (some ⟨hp, 0, none⟩)]] w (BoB (l.any (fun e => (V e).isSome)) w) := by
  have HI := Lib.hid (uIdx_any hp hb hn V a cap l w hh hV h hfit hl)
  have hz : decide (0 ≤ ixP (fun e => (V e).isSome) l) = l.any (fun e => (V e).isSome) := by
    unfold ixP
    cases l.any (fun e => (V e).isSome)
    · rfl
    · simp
  rw [← hz]
  clear hh hV h hfit hl hz
  generalize ixP (fun e => (V e).isSome) l = z at *
  generalize l.length = n at *
  by_cases h0 : 0 ≤ z
  · have d0 : decide (0 ≤ z) = true := decide_eq_true h0
    rw [d0]
    go_enter Tryz.func39, Tryz.ntmps39
    go_wp2_with (first | (go_at_call 72; refine HI.out.mono ?_; rintro x1 w1 ⟨rfl, hb1⟩) | fail)
    go_ret
    exact ⟨rfl, hb1⟩
  · have d0 : decide (0 ≤ z) = false := decide_eq_false h0
    rw [d0]
    go_enter Tryz.func39, Tryz.ntmps39
    go_wp2_with (first | (go_at_call 72; refine HI.out.mono ?_; rintro x1 w1 ⟨rfl, hb1⟩) | fail)
    go_ret
    exact ⟨rfl, hb1⟩
end Go.Proofs.YtefgoelkdjendaaGreatDoor
/- package undo: leaning, where none leans -/
namespace Go.Proofs.YtefgoelkdjendaaGreatDoor
open Go.RowKit Go.Lib Go.Sort

def heldV (it : El) : El → Option Value := fun x => if x = it then some (.agg #[]) else none
theorem heldV_unit (it : El) : ∀ x v, heldV it x = some v → v = unitV := fun x v h => by
  unfold heldV at h
  split at h
  · exact (Option.some.inj h).symm
  · cases h
theorem held_no {it : El} {l : List El} (h : it ∉ l) : l.any (fun e => (heldV it e).isSome) = false := by
  rw [List.any_eq_false]
  intro e he
  unfold heldV
  rw [if_neg (fun hh => h (by rw [← hh]; exact he))]
  simp
def NoneP (w : World) (e : Ending) (w' : World) : Prop := e = .returned (.slice none 0 0) ∧ Below w.heap.size w w'
set_option maxRecDepth 100000 in
set_option maxHeartbeats 4000000 in
theorem uLeaning_none (a : Option Addr) (cap : Nat) (l : List OpR) (it : El) (w : World) (h : OpsAt w a l) (hr : rowP (OpR.os l)) (hfit : it.fit) (hno : ∀ o ∈ OpR.os l, o.kind = 1 → it ∉ needs o) :
    Calls Tryz.prog 18 #[.slice a l.length cap, it.v] w (NoneP w) := by
  obtain ⟨w2, hr2, hm2, hg2⟩ := (MapE.made (w.alloc (.cells #[.int .i64 it.s, .int .i64 it.q, .int .i64 it.i] 31))).store (t := 77) Tryz.underlying77 (by simp only [maxLen]; omega) it hfit (.agg #[])
  rw [show (w.alloc (.cells #[.int .i64 it.s, .int .i64 it.q, .int .i64 it.i] 31)).heap.size = w.heap.size + 1 from by simp] at hr2 hm2 hg2
  have hb2 : Below w.heap.size w w2 := (((Below.refl _ _).alloc (Nat.le_refl _) _).alloc (by simp) _).grown hg2 (by simp; omega) (fun k hk => by cases hk; omega)
  have HM2 := Lib.hid hm2
  have HB2 := Lib.hid hb2
  have HH := Lib.hid h
  have HR := Lib.hid hr
  have hl40 : l.length ≤ 40 := by have := hr.1; rw [olen] at this; exact this
  have HNO := Lib.hid hno
  have HBX := Lib.hid (BoxE.new w it)
  have hmk : ∀ wx : World, (Instr.makeMap 77 none).run Tryz.prog wx = .ok (.map (some wx.heap.size)) (wx.alloc (.map #[] 0)) := fun wx => run_makeMap _ wx
  have hmk1 := hmk (w.alloc (.cells #[.int .i64 it.s, .int .i64 it.q, .int .i64 it.i] 31))
  rw [show (w.alloc (.cells #[.int .i64 it.s, .int .i64 it.q, .int .i64 it.i] 31)).heap.size = w.heap.size + 1 from by simp] at hmk1
  obtain ⟨n, hn⟩ : ∃ n, l.length = n := ⟨_, rfl⟩
  have HN := Lib.hid hn
  rw [hn] at hl40 ⊢
  clear h hr hno hb2 hm2 hg2 hn hmk
  have HIT := Lib.hid (show it = it from rfl)
  have HCF := Lib.hid (fun (hp hb hn : Nat) (aa : Option Addr) (cc : Nat) (o : OpD) (wx : World) (hh : HeldIn wx hp hb hn (heldV it)) (he : ElemsAt wx aa (needs o)) (hok : okOp o = true) (hni : it ∉ needs o) => (by
    have h1 := uCon_any hp hb hn (heldV it) aa cc (needs o) wx hh (heldV_unit it) he (needs_fit hok) (by have := needs_len o; have := (gone_ok hok).1; omega)
    rw [held_no hni] at h1
    exact h1 : Calls Tryz.prog 39 #[.slice aa (needs o).length cc, .func (.func 37) #[] #[.pointer (some ⟨hp, 0, none⟩)]] wx (BoB false wx)))
  have HMH := Lib.hid (show MapE w2 (w.heap.size + 1) (0 + 1) (heldV it) from HM2.out)
  clear HM2
  generalize hV : heldV it = V at *
  obtain ⟨is, iq, ii⟩ := it
  unfold El.v at hr2 ⊢
  simp only at hr2 HBX hmk1 HB2 ⊢
  have p0 := HBX.out.c0
  have p1 := HBX.out.c1
  have p2 := HBX.out.c2
  have pl := HBX.out.lt
  simp only at p0 p1 p2
  go_enter Tryz.func18, Tryz.ntmps18
  go_wp2_with fail
  have HZ := Lib.hid (show Below w.heap.size w (w2.alloc (.cells #[.map (some (w.heap.size + 1))] 77)) from HB2.out.alloc HB2.out.size _)
  have HHI := Lib.hid (show HeldIn (w2.alloc (.cells #[.map (some (w.heap.size + 1))] 77)) w2.heap.size (w.heap.size + 1) (0 + 1) V from ⟨by rw [World.cell?_alloc_new]; rfl, by simp, HMH.out.kept (((Below.refl w2.heap.size w2).alloc (Nat.le_refl _) _).block _ HMH.out.lt)⟩)
  obtain ⟨hp, hhp⟩ : ∃ x, w2.heap.size = x := ⟨_, rfl⟩
  rw [hhp] at HHI ⊢
  clear hr2 hmk1 p0 p1 p2 pl HBX hhp HMH HB2
  generalize w2.alloc (.cells #[.map (some (w.heap.size + 1))] 77) = W0 at *
  go_loopw [5, 19] (fun s5 s19 wr => ∃ k : Nat, s19 = .int .i64 k ∧ k ≤ n ∧ s5 = .slice none 0 0 ∧ Below W0.heap.size W0 wr) (fun _ s19 _ => n - (RowKit.intOf s19).toNat)
  case atStart => exact ⟨0, rfl, Nat.zero_le _, rfl, Below.refl _ _⟩
  case round =>
    obtain ⟨k, rfl, hk, rfl, hb⟩ := hrel
    have HB := Lib.hid hb
    have hbw := HZ.out.trans (hb.mono HZ.out.size)
    have HBW := Lib.hid hbw
    clear hb
    by_cases hlt : k < n
    · have hkl : k < l.length := by rw [HN.out]; exact hlt
      obtain ⟨b, off, rfl, hbb, c0, c1, c2, c3, c4, c5, c6, c7, c8, c9, ca⟩ := (HH.out.below hbw).cells k hkl
      have hoa := HH.out.op k hkl
      have hmem : l[k].o ∈ OpR.os l := List.mem_map_of_mem (List.getElem_mem hkl)
      have hokk := (tk_goes (tk_at HR.out.2 hkl)).1
      have hkind := okOp_kind hokk
      have HNI := Lib.hid (fun (hk1 : l[k].o.kind = 1) => HNO.out _ hmem hk1)
      have HNE := Lib.hid (fun (wx : World) (hx : Below w.heap.size w wx) (hk1 : ¬ l[k].o.kind = 2) => xNeeds_edit l[k].o l[k].a l[k].cap wx ⟨hoa.gone.below hx, Nat.le_trans hoa.len (by unfold BIG; omega), Nat.le_trans hoa.size (by unfold BIG; omega)⟩ hokk hk1)
      have HOK := Lib.hid hokk
      have HBX := Lib.hid (BoxO.new wr l[k].o l[k].a l[k].cap)
      clear hoa hmem hokk
      generalize l[k] = r at *
      clear hkl
      obtain ⟨⟨site, seq, kind, ⟨es, eq, ei⟩, text, gone, of, num, gen⟩, ra, rc⟩ := r
      unfold OpD.obj at HBX
      unfold OpD.v ListPost at HNE
      simp only at c0 c1 c2 c3 c4 c5 c6 c7 c8 c9 ca hkind HNI HNE HOK HBX
      have p0 := HBX.out.c0
      have p1 := HBX.out.c1
      have p2 := HBX.out.c2
      have pl := HBX.out.lt
      simp only at p0 p1 p2
      have HB1 := Lib.hid (HB.out.alloc HB.out.size (.cells #[.int .i64 site, .int .i64 seq, .int .i64 kind, .int .i64 es, .int .i64 eq, .int .i64 ei, .string text, .slice ra gone.length rc, .int .i64 of, .int .i64 num, .int .i64 gen] 33))
      have HBW1 := Lib.hid (HBW.out.alloc HBW.out.size (.cells #[.int .i64 site, .int .i64 seq, .int .i64 kind, .int .i64 es, .int .i64 eq, .int .i64 ei, .string text, .slice ra gone.length rc, .int .i64 of, .int .i64 num, .int .i64 gen] 33))
      rcases hkind with rfl | rfl
      · have HN1 := Lib.hid (HNE.out _ HBW1.out (by simp))
        have HNI1 := Lib.hid (HNI.out rfl)
        go_wp2_with (first
          | (go_at_call 38; refine HN1.out.mono ?_; rintro x3 w3 ⟨na, nc, rfl, hown, hb3⟩; obtain ⟨na2, nc2, hv, hel, _⟩ := elems_own hown; simp only [Value.slice.injEq] at hv; obtain ⟨rfl, _, rfl⟩ := hv; have HB3 := Lib.hid (HB1.out.trans (hb3.mono HB1.out.size)); have HCC := Lib.hid (HCF.out hp (w.heap.size + 1) (0 + 1) na nc _ w3 (HHI.out.below HB3.out) hel HOK.out HNI1.out); clear hown hel hb3)
          | (go_at_call 39; refine HCC.out.mono ?_; rintro x4 w4 ⟨rfl, hb4⟩; have HB4 := Lib.hid (HB3.out.trans (hb4.mono HB3.out.size)); clear hb4)
          | fail)
        go_roundw
        case rel => exact ⟨k + 1, by go_num, by omega, rfl, HB4.out⟩
        case measure => simp [RowKit.intOf]; omega
      · go_wp2_with fail
        go_roundw
        case rel => exact ⟨k + 1, by go_num, by omega, rfl, HB1.out⟩
        case measure => simp [RowKit.intOf]; omega
    · go_wp2_with fail
      go_ret
      exact ⟨rfl, HBW.out⟩
end Go.Proofs.YtefgoelkdjendaaGreatDoor
/- package undo: named, Leans, where none leans -/
namespace Go.Proofs.YtefgoelkdjendaaGreatDoor
open Go.RowKit Go.Lib Go.Sort

noncomputable def Tryz.svT : TypeInfo := (Tryz.prog.info? 23).get (by kernel_rfl)
noncomputable def Tryz.svE : TypeInfo := (Tryz.prog.info? 31).get (by kernel_rfl)
theorem uSort_nil (lb : Array Value) (w : World) : Calls Tryz.prog 20 #[.iface 23 (.slice none 0 0), .func (.func 21) #[] lb] w fun e w' => e = .returned (.tuple #[]) ∧ Below w.heap.size w w' := by
  refine (Go.Proofs.Any.sort_Slice_tiny Tryz.sl6 23 31 Tryz.svT Tryz.svE (by kernel_rfl) (by kernel_rfl) (by kernel_rfl) (by kernel_rfl) 25 (fun w => by kernel_rfl) none 0 0 (by omega) 73 (by kernel_rfl) _ _ lb w).mono ?_
  rintro e w' ⟨rfl, os, rfl⟩
  exact ⟨rfl, Go.Lib.below_grow w.heap.size w (Nat.le_refl _) 0 os⟩
theorem uNamed_any (a : Option Addr) (cap : Nat) (l : List OpR) (s q : Int) (w : World) (h : OpsAt w a l) (hr : rowP (OpR.os l)) (hf : (⟨s, q, 0⟩ : El).fit) :
    Calls Tryz.prog 17 #[.slice a l.length cap, .int .i64 s, .int .i64 q] w (IntB (errN (hasN (OpR.os l) ⟨s, q, 0⟩)) w) := by
  have hc := dCount_ok a cap l s q w h hr hf
  unfold CouPost at hc
  generalize l.length = n at *
  generalize errN (hasN (OpR.os l) ⟨s, q, 0⟩) = e at *
  clear h hr hf
  go_enter Tryz.func17, Tryz.ntmps17
  go_wp2_with (first | (go_at_call 36; refine hc.mono ?_; rintro x1 w1 ⟨rfl, hb1⟩) | fail)
  go_ret
  exact ⟨rfl, hb1⟩
def NonePair (e : Int) (w : World) (x : Ending) (w' : World) : Prop := x = .returned (.tuple #[.slice none 0 0, .int .i64 e]) ∧ Below w.heap.size w w'
set_option maxRecDepth 100000 in
set_option maxHeartbeats 2000000 in
theorem uLeans_none (a : Option Addr) (cap : Nat) (l : List OpR) (s q : Int) (w : World) (h : OpsAt w a l) (hr : rowP (OpR.os l)) (hf : (⟨s, q, 0⟩ : El).fit) (hn : hasN (OpR.os l) ⟨s, q, 0⟩ = true)
    (hno : ∀ o ∈ OpR.os l, o.kind = 1 → (⟨s, q, 0⟩ : El) ∉ needs o) : Calls Tryz.prog 6 #[.slice a l.length cap, .int .i64 s, .int .i64 q] w (NonePair 0 w) := by
  have hc := uNamed_any a cap l s q w h hr hf
  rw [hn] at hc
  have HC := Lib.hid (show Calls Tryz.prog 17 #[.slice a l.length cap, .int .i64 s, .int .i64 q] w (IntB 0 w) from hc)
  have HLE := Lib.hid (fun (wx : World) (hx : Below w.heap.size w wx) => (by
    have h1 := uLeaning_none a cap l ⟨s, q, 0⟩ wx (h.below hx) hr hf hno
    exact h1 : Calls Tryz.prog 18 #[.slice a l.length cap, .agg #[.int .i64 s, .int .i64 q, .int .i64 0]] wx (NoneP wx)))
  generalize l.length = n at *
  clear h hr hf hn hno hc
  go_enter Tryz.func6, Tryz.ntmps6
  go_wp2_with (first
    | (go_at_call 17; refine HC.out.mono ?_; rintro x1 w1 ⟨rfl, hb1⟩; have HB1 := Lib.hid hb1; clear hb1)
    | (go_at_call 19; refine (uName_any _ _ _).mono ?_; rintro x2 w2 ⟨rfl, hb2⟩; have HB2 := Lib.hid (HB1.out.trans (hb2.mono HB1.out.size)); clear hb2)
    | (go_at_call 18; refine (HLE.out _ HB2.out).mono ?_; rintro x3 w3 ⟨rfl, hb3⟩; have HB3 := Lib.hid (HB2.out.trans (hb3.mono HB2.out.size)); clear hb3)
    | (go_at_call 20; refine (uSort_nil _ _).mono ?_; rintro x4 w4 ⟨rfl, hb4⟩; have c4 : w4.cell? ⟨w3.heap.size, 0, none⟩ = some (.slice none 0 0) := (hb4.cell (p := ⟨w3.heap.size, 0, none⟩) (by simp)).trans (by rw [World.cell?_alloc_new]; rfl); have l4 : w3.heap.size < w4.heap.size := (by have := hb4.size; simp at this; omega); have HB4 := Lib.hid ((HB3.out.alloc HB3.out.size (.cells #[.slice none 0 0] 23)).trans (hb4.mono (by have := HB3.out.size; simp; omega))); clear hb4)
    | fail)
  go_ret2
  exact ⟨rfl, HB4.out⟩
set_option maxRecDepth 100000 in
set_option maxHeartbeats 2000000 in
theorem uLeans_not (a : Option Addr) (cap : Nat) (l : List OpR) (s q : Int) (w : World) (h : OpsAt w a l) (hr : rowP (OpR.os l)) (hf : (⟨s, q, 0⟩ : El).fit) (hn : hasN (OpR.os l) ⟨s, q, 0⟩ = false) :
    Calls Tryz.prog 6 #[.slice a l.length cap, .int .i64 s, .int .i64 q] w (NonePair 3 w) := by
  have hc := uNamed_any a cap l s q w h hr hf
  rw [hn] at hc
  have HC := Lib.hid (show Calls Tryz.prog 17 #[.slice a l.length cap, .int .i64 s, .int .i64 q] w (IntB 3 w) from hc)
  generalize l.length = n at *
  clear h hr hf hn hc
  go_enter Tryz.func6, Tryz.ntmps6
  go_wp2_with (first
    | (go_at_call 17; refine HC.out.mono ?_; rintro x1 w1 ⟨rfl, hb1⟩; have HB1 := Lib.hid hb1; clear hb1)
    | fail)
  go_ret2
  exact ⟨rfl, HB1.out⟩
end Go.Proofs.YtefgoelkdjendaaGreatDoor
/- package undo: renamed -/
namespace Go.Proofs.YtefgoelkdjendaaGreatDoor
open Go.RowKit Go.Lib Go.Sort

theorem wpList_append_fromU {P : Program} {w : World} {ops : Array Oper} {rest : List Oper} {o : Oper} {a : Act} {Q : Exit → Act → World → Prop} (hgd : o.guard = none) (s x : Operand) (t : TypeId)
    (ho : o.op = .call { callee := .builtin .append, args := #[s, x], argTypes := #[t, t] })
    (base : Nat) (e : TypeId) (i : TypeInfo) (z : Value) (size bytes : Nat) (ht : P.underlying t = some (.slice e)) (hi : P.info? e = some i) (hz : i.zero = some z)
    (hsize : i.size = size) (hby : i.bytes = bytes) (hzs : z.cells.size = size) (hsz : 0 < size)
    (v : Value) (n : Nat) (xs : List Value) (hs : a.eval s = v) (hown : w.ownsRow base e size v n xs)
    (ao : Option Addr) (m c : Nat) (news : List Value) (hx : a.eval x = .slice ao m c) (hl : news.length = m * size) (hnone : ao = none → m = 0 ∧ c = 0) (hnews : ∀ ad, ao = some ad → ∀ j u, news[j]? = some u → w.cell? (ad.add j) = some u) (h1 : ∀ u ∈ news, u.oneCell' = true)
    (h63 : n + m ≤ maxLen) (hbytes : (n + m) * bytes ≤ 140737488355328) (hbase : base ≤ w.heap.size)
    (h : ∀ v' w', w'.ownsRow base e size v' (n + m) (xs ++ news) → w.grownBy w' v.ownBlock → wpList P ops Q rest (a.put o.dst v') w') : wpList P ops Q (o :: rest) a w := by
  cases ao with
  | none =>
    obtain ⟨rfl, rfl⟩ := hnone rfl
    obtain rfl : news = [] := List.eq_nil_of_length_eq_zero (by rw [hl]; simp)
    refine wpList_append_own_none hgd s x t ho base e i size ht hi v n xs hs hown hx ?_
    exact h v w (by simpa using hown) (World.grownBy.refl _ _)
  | some ad =>
    refine wpList_append_own _ hgd s x t ho base e i z size bytes ht hi hz hsize hby hzs hsz v n xs hs hown ad m c news hx hl (hnews ad rfl) h1 h63 hbytes hbase ?_
    intro v' w' h2 h3 _
    exact h v' w' h2 h3
theorem uEcs_one (l : List El) : ∀ u ∈ ecs l, u.oneCell' = true := by
  intro u hu
  obtain ⟨e, _, he⟩ := List.mem_flatMap.1 hu
  exact cs_one e u he
theorem uElems_news {w : World} {a : Option Addr} {l : List El} (h : ElemsAt w a l) : ∀ ad, a = some ad → ∀ j u, (ecs l)[j]? = some u → w.cell? (ad.add j) = some u := by
  intro ad had j u hu
  have hj : j < (ecs l).length := (List.getElem?_eq_some_iff.1 hu).1
  rw [ecs_length] at hj
  have hk : j / 3 < l.length := by omega
  obtain ⟨b, off, ha, hb, c0, c1, c2⟩ := h.cell (j / 3) hk
  rw [had] at ha
  obtain rfl := Option.some.inj ha
  have hget : (ecs l)[j]? = (El.cs l[j / 3])[j % 3]? := by
    have h9 := ecs_get l (j / 3) (j % 3) hk (by omega)
    rw [show j / 3 * 3 + j % 3 = j from by omega] at h9
    exact h9
  rw [hget] at hu
  rw [Addr.add_lit]
  have h3 : j % 3 = 0 ∨ j % 3 = 1 ∨ j % 3 = 2 := by omega
  unfold El.cs at hu
  rcases h3 with h3 | h3 | h3
  · rw [h3] at hu
    rw [show off + j = off + j / 3 * 3 from by omega, c0]
    exact hu
  · rw [h3] at hu
    rw [show off + j = off + j / 3 * 3 + 1 from by omega, c1]
    exact hu
  · rw [h3] at hu
    rw [show off + j = off + j / 3 * 3 + 2 from by omega, c2]
    exact hu
theorem ucells11 {w : World} {b : Nat} {t : TypeId} {c0 c1 c2 c3 c4 c5 c6 c7 c8 c9 ca : Value} (h : w.heap[b]? = some (.cells #[c0, c1, c2, c3, c4, c5, c6, c7, c8, c9, ca] t)) :
    w.cell? ⟨b, 0, none⟩ = some c0 ∧ w.cell? ⟨b, 1, none⟩ = some c1 ∧ w.cell? ⟨b, 2, none⟩ = some c2 ∧ w.cell? ⟨b, 3, none⟩ = some c3 ∧ w.cell? ⟨b, 4, none⟩ = some c4 ∧ w.cell? ⟨b, 5, none⟩ = some c5 ∧ w.cell? ⟨b, 6, none⟩ = some c6 ∧ w.cell? ⟨b, 7, none⟩ = some c7 ∧ w.cell? ⟨b, 8, none⟩ = some c8 ∧ w.cell? ⟨b, 9, none⟩ = some c9 ∧ w.cell? ⟨b, 10, none⟩ = some ca ∧ (∀ c, w.frozen? ⟨b, c, none⟩ = false) ∧ b < w.heap.size := by
  refine ⟨?_, ?_, ?_, ?_, ?_, ?_, ?_, ?_, ?_, ?_, ?_, fun c => ?_, (Array.getElem?_eq_some_iff.1 h).1⟩
  all_goals first | (simp [World.cell?, h]; done) | (simp [World.frozen?, h])
theorem ufill11 {w : World} {b : Nat} {t : TypeId} {z0 z1 z2 z3 z4 z5 z6 z7 z8 z9 z10 v0 v1 v2 v3 v4 v5 v6 v7 v8 v9 v10 : Value} (h : w.heap[b]? = some (.cells #[z0, z1, z2, z3, z4, z5, z6, z7, z8, z9, z10] t)) :
    (((((((((((w.setCell ⟨b, 0, none⟩ v0).setCell ⟨b, 1, none⟩ v1).setCell ⟨b, 2, none⟩ v2).setCell ⟨b, 3, none⟩ v3).setCell ⟨b, 4, none⟩ v4).setCell ⟨b, 5, none⟩ v5).setCell ⟨b, 6, none⟩ v6).setCell ⟨b, 7, none⟩ v7).setCell ⟨b, 8, none⟩ v8).setCell ⟨b, 9, none⟩ v9).setCell ⟨b, 10, none⟩ v10).heap[b]? = some (.cells #[v0, v1, v2, v3, v4, v5, v6, v7, v8, v9, v10] t) := by
  unfold World.setCell
  simp [Array.getElem?_modify, h]
def renE (f : El → Int) (e : El) : El := ⟨e.s, f e.w, e.i⟩
def renO (f : El → Int) (o : OpD) : OpD := ⟨o.site, f ⟨o.site, o.seq, 0⟩, o.kind, ⟨o.after.s, f o.after.w, o.after.i⟩, o.text, o.gone.map (renE f), o.of, f ⟨o.of, o.num, 0⟩, o.gen⟩
/-- an op in a box of the call's own, and the map -/
structure RSt (w : World) (b0 mb mn : Nat) (V : El → Option Value) (cs : Array Value) (W : World) : Prop where
  op : W.heap[b0]? = some (.cells cs 33)
  res : W.heap[b0 + 1]? = some (.cells #[.int .i64 0, .int .i64 0, .int .i64 0, .int .i64 0, .int .i64 0, .int .i64 0, .string ⟨#[]⟩, .slice none 0 0, .int .i64 0, .int .i64 0, .int .i64 0] 33)
  map : MapE W mb mn V
  below : Below w.heap.size w W
  ge : w.heap.size ≤ b0
  lt : mb < w.heap.size
theorem RSt.step {w W W' : World} {b0 mb mn : Nat} {V : El → Option Value} {cs : Array Value} (h : RSt w b0 mb mn V cs W) (hb : Below W.heap.size W W') : RSt w b0 mb mn V cs W' :=
  ⟨(hb.block b0 (Array.getElem?_eq_some_iff.1 h.op).1).trans h.op, (hb.block (b0 + 1) (Array.getElem?_eq_some_iff.1 h.res).1).trans h.res, h.map.kept (hb.block mb h.map.lt), h.below.trans (hb.mono h.below.size), h.ge, h.lt⟩
theorem RSt.put {w W : World} {b0 mb mn : Nat} {V : El → Option Value} {cs : Array Value} (h : RSt w b0 mb mn V cs W) (i : Nat) (v : Value) : RSt w b0 mb mn V (cs.setIfInBounds i v) (W.setCell ⟨b0, i, none⟩ v) :=
  ⟨heap_setCell_same W b0 i cs 33 v h.op, (Below.heap_setCell W ⟨b0, i, none⟩ v (b0 + 1) (by show b0 + 1 ≠ b0; omega)).trans h.res, h.map.kept (Below.heap_setCell W ⟨b0, i, none⟩ v mb (by have h1 := h.ge; have h2 := h.lt; show mb ≠ b0; omega)), h.below.setCell h.ge v, h.ge, h.lt⟩
/-- an element's store elsewhere -/
theorem RSt.away {w W : World} {b0 mb mn g : Nat} {V : El → Option Value} {cs : Array Value} (h : RSt w b0 mb mn V cs W) (hg : b0 + 1 < g) (i : Nat) (v : Value) : RSt w b0 mb mn V cs (W.setCell ⟨g, i, none⟩ v) :=
  ⟨(Below.heap_setCell W ⟨g, i, none⟩ v b0 (by show b0 ≠ g; omega)).trans h.op, (Below.heap_setCell W ⟨g, i, none⟩ v (b0 + 1) (by show b0 + 1 ≠ g; omega)).trans h.res, h.map.kept (Below.heap_setCell W ⟨g, i, none⟩ v mb (by have h1 := h.ge; have h2 := h.lt; show mb ≠ g; omega)), h.below.setCell (by have h1 := h.ge; show _ ≤ g; omega) v, h.ge, h.lt⟩
theorem own_away {w w' : World} {base : Nat} {e : TypeId} {size : Nat} {v : Value} {n : Nat} {xs : List Value} (h : w.ownsRow base e size v n xs) (hb : ∀ k, base ≤ k → w'.heap[k]? = w.heap[k]?) : w'.ownsRow base e size v n xs := by
  obtain ⟨h1, h2⟩ := h
  refine ⟨h1, ?_⟩
  rcases h2 with h2 | ⟨g, cap, cur, e1, hg, hh, hr⟩
  · exact .inl h2
  · exact .inr ⟨g, cap, cur, e1, hg, (hb g hg).trans hh, hr⟩
theorem uecs_set (l : List El) (k : Nat) (q : Int) (hk : k < l.length) : (ecs l).set (k * 3 + 1) (.int .i64 q) = ecs (l.set k ⟨l[k].s, q, l[k].i⟩) := by
  induction l generalizing k with
  | nil => exact absurd hk (by simp)
  | cons x l ih =>
    cases k with
    | zero => rfl
    | succ k =>
      show (El.cs x ++ ecs l).set _ _ = El.cs x ++ ecs (l.set k _)
      have h3 : (El.cs x).length = 3 := rfl
      rw [List.set_append_right _ _ (by rw [h3]; omega), h3, show (k + 1) * 3 + 1 - 3 = k * 3 + 1 from by omega, ih k (by simpa using hk)]
      simp
/-- the first j with their new numbers -/
def renG (f : El → Int) (g : List El) (j : Nat) : List El := (g.take j).map (renE f) ++ g.drop j
theorem renG_zero (f : El → Int) (g : List El) : renG f g 0 = g := by simp [renG]
theorem renG_all (f : El → Int) (g : List El) : renG f g g.length = g.map (renE f) := by simp [renG]
theorem renG_len (f : El → Int) (g : List El) (j : Nat) (hj : j ≤ g.length) : (renG f g j).length = g.length := by simp [renG]; omega
theorem renG_at (f : El → Int) (g : List El) (j : Nat) (hj : j < g.length) : (renG f g j)[j]? = some g[j] := by
  unfold renG
  rw [List.getElem?_append_right (by simp; omega), List.getElem?_drop]
  simp only [List.length_map, List.length_take, Nat.min_eq_left (Nat.le_of_lt hj), Nat.sub_self, Nat.add_zero]
  exact List.getElem?_eq_getElem hj
theorem renG_next (f : El → Int) (g : List El) (j : Nat) (hj : j < g.length) : (renG f g j).set j (renE f g[j]) = renG f g (j + 1) := by
  unfold renG
  have hl : ((g.take j).map (renE f)).length = j := by rw [List.length_map, List.length_take]; omega
  rw [List.set_append_right _ _ (by omega), hl, Nat.sub_self, List.drop_eq_getElem_cons hj, List.set_cons_zero, List.take_succ_eq_append_getElem hj, List.map_append, List.append_assoc]
  rfl
theorem own_block {w : World} {base : Nat} {a : Option Addr} {n c : Nat} {l : List El} (h : w.ownsRow base 31 3 (.slice a n c) n (ecs l)) (hn : 0 < n) : ∃ g, a = some ⟨g, 0, none⟩ ∧ base ≤ g ∧ g < w.heap.size ∧ ∀ i, w.frozen? ⟨g, i, none⟩ = false := by
  rcases h.2 with ⟨hv, h0⟩ | ⟨g, cap, cur, e1, hg, hh, hr⟩
  · omega
  · simp only [Value.slice.injEq] at e1
    exact ⟨g, e1.1, hg, (Array.getElem?_eq_some_iff.1 hh).1, fun i => by simp [World.frozen?, hh]⟩
/-- all names of an op may be looked up -/
def namesFit (o : OpD) : Prop := (⟨o.site, o.seq, 0⟩ : El).fit ∧ (⟨o.of, o.num, 0⟩ : El).fit ∧ o.after.w.fit ∧ ∀ e ∈ o.gone, e.w.fit
set_option maxRecDepth 100000 in
set_option maxHeartbeats 4000000 in
theorem uRenamed_any (o : OpD) (a : Option Addr) (cap mb mn : Nat) (V : El → Option Value) (f : El → Int) (w : World) (hi : OpAt w o a cap) (hg : o.gone.length ≤ 1000000) (hm : MapE w mb mn V) (hV : ∀ e, (V e).getD (.int .i64 0) = .int .i64 (f e)) (hf : namesFit o) :
    Calls Tryz.prog 46 #[o.v a cap, .map (some mb)] w (CopyPost (renO f o) w) := by
  obtain ⟨hf1, hf2, hf3, hf4⟩ := hf
  have HLK := Lib.hid (fun (e : El) (he : e.fit) (wx : World) (hx : MapE wx mb mn V) => (by
    have h := hx.look (t := 97) (z := .int .i64 0) Tryz.underlying97 (by kernel_rfl) e he false
    simp only [Bool.false_eq_true, if_false] at h
    rw [hV] at h
    exact h : (Instr.lookup 97 (.map (some mb)) (.agg #[.int .i64 e.s, .int .i64 e.q, .int .i64 e.i]) false).run Tryz.prog wx = .ok (.int .i64 (f e)) wx))
  have HS1 := Lib.hid (show RSt w w.heap.size mb mn V #[.int .i64 o.site, .int .i64 o.seq, .int .i64 o.kind, .int .i64 o.after.s, .int .i64 o.after.q, .int .i64 o.after.i, .string o.text, .slice a o.gone.length cap, .int .i64 o.of, .int .i64 o.num, .int .i64 o.gen] ((w.alloc (o.obj a cap)).alloc (.cells #[.int .i64 0, .int .i64 0, .int .i64 0, .int .i64 0, .int .i64 0, .int .i64 0, .string ⟨#[]⟩, .slice none 0 0, .int .i64 0, .int .i64 0, .int .i64 0] 33)) from
    ⟨(((Below.refl (w.alloc (o.obj a cap)).heap.size (w.alloc (o.obj a cap))).alloc (Nat.le_refl _) _).block w.heap.size (by simp)).trans (heap_alloc_new _ _), two_new _ _ _, hm.kept ((((Below.refl w.heap.size w).alloc (Nat.le_refl _) _).alloc (by simp) _).block mb hm.lt), ((Below.refl _ _).alloc (Nat.le_refl _) _).alloc (by simp) _, Nat.le_refl _, hm.lt⟩)
  have HI := Lib.hid hi
  have HG4 := Lib.hid hf4
  clear hi hm hV hf4
  obtain ⟨PP, hPP⟩ : ∃ P, CopyPost (renO f o) w = P := ⟨_, rfl⟩
  have HFIN := Lib.hid (show ∀ (ga : Option Addr) (gc : Nat) (w' : World), w'.ownsRow w.heap.size 31 3 (.slice ga o.gone.length gc) o.gone.length (ecs (o.gone.map (renE f))) → Below w.heap.size w w' → PP (.returned (.agg #[.int .i64 o.site, .int .i64 (f ⟨o.site, o.seq, 0⟩), .int .i64 o.kind, .int .i64 o.after.s, .int .i64 (f o.after.w), .int .i64 o.after.i, .string o.text, .slice ga o.gone.length gc, .int .i64 o.of, .int .i64 (f ⟨o.of, o.num, 0⟩), .int .i64 o.gen])) w' from fun ga gc w' h1 h2 => by
    rw [← hPP]
    refine ⟨ga, gc, ?_, ?_, h2⟩
    · unfold OpD.v renO
      simp only [List.length_map]
    · unfold renO
      simp only [List.length_map]
      exact h1)
  rw [hPP]
  clear hPP
  unfold OpD.v
  obtain ⟨site, seq, kind, ⟨es, eq, ei⟩, text, gone, of, num, gen⟩ := o
  unfold OpD.obj at HS1
  unfold El.w at hf3 HFIN
  simp only at HFIN HS1 HI hf1 hf2 hf3 hg HG4 ⊢
  obtain ⟨k0, k1, k2, k3, k4, k5, k6, k7, k8, k9, ka, kf, kl⟩ := ucells11 HS1.out.op
  go_enter Tryz.func46, Tryz.ntmps46
  go_upto_region 1 with fail
  generalize (w.alloc (.cells #[.int .i64 site, .int .i64 seq, .int .i64 kind, .int .i64 es, .int .i64 eq, .int .i64 ei, .string text, .slice a gone.length cap, .int .i64 of, .int .i64 num, .int .i64 gen] 33)).alloc (.cells #[.int .i64 0, .int .i64 0, .int .i64 0, .int .i64 0, .int .i64 0, .int .i64 0, .string ⟨#[]⟩, .slice none 0 0, .int .i64 0, .int .i64 0, .int .i64 0] 33) = W1 at *
  go_upto_region 2 with (first
    | (go_at_call 19; refine (uName_any _ _ _).mono ?_; rintro x2 w2 ⟨rfl, hb2⟩; have HS2 := Lib.hid (HS1.out.step hb2); have hl2 := HLK.out ⟨site, seq, 0⟩ hf1 w2 HS2.out.map; obtain ⟨m0, m1, m2, m3, m4, m5, m6, m7, m8, m9, ma, mf, ml⟩ := ucells11 HS2.out.op; clear hb2)
    | fail)
  have HS3 := Lib.hid (HS2.out.put 1 (.int .i64 (f ⟨site, seq, 0⟩)))
  clear HS1 k0 k1 k2 k3 k4 k5 k6 k7 k8 k9 ka kf kl m0 m1 m2 m3 m4 m5 m6 m7 m8 m9 ma mf ml hl2 HS2
  generalize w2.setCell ⟨w.heap.size, 1, none⟩ (.int .i64 (f ⟨site, seq, 0⟩)) = W3 at *
  simp only [List.setIfInBounds_toArray, List.set_cons_succ, List.set_cons_zero] at HS3
  obtain ⟨k0, k1, k2, k3, k4, k5, k6, k7, k8, k9, ka, kf, kl⟩ := ucells11 HS3.out.op
  go_upto_region 3 with (first
    | (go_at_call 19; refine (uName_any _ _ _).mono ?_; rintro x2 w4 ⟨rfl, hb2⟩; have HS4 := Lib.hid (HS3.out.step hb2); have hl4 := HLK.out ⟨of, num, 0⟩ hf2 w4 HS4.out.map; obtain ⟨m0, m1, m2, m3, m4, m5, m6, m7, m8, m9, ma, mf, ml⟩ := ucells11 HS4.out.op; clear hb2)
    | fail)
  have HS5 := Lib.hid (HS4.out.put 9 (.int .i64 (f ⟨of, num, 0⟩)))
  clear HS3 k0 k1 k2 k3 k4 k5 k6 k7 k8 k9 ka kf kl m0 m1 m2 m3 m4 m5 m6 m7 m8 m9 ma mf ml hl4 HS4
  generalize w4.setCell ⟨w.heap.size, 9, none⟩ (.int .i64 (f ⟨of, num, 0⟩)) = W5 at *
  simp only [List.setIfInBounds_toArray, List.set_cons_succ, List.set_cons_zero] at HS5
  obtain ⟨k0, k1, k2, k3, k4, k5, k6, k7, k8, k9, ka, kf, kl⟩ := ucells11 HS5.out.op
  go_upto_region 4 with (first
    | (go_at_call 94; refine (uWriter_any es eq ei _).mono ?_; rintro x2 w6 ⟨rfl, hb2⟩; have HS6 := Lib.hid (HS5.out.step hb2); have hl6 := HLK.out ⟨es, eq, 0⟩ hf3 w6 HS6.out.map; obtain ⟨m0, m1, m2, m3, m4, m5, m6, m7, m8, m9, ma, mf, ml⟩ := ucells11 HS6.out.op; clear hb2)
    | fail)
  have HS7 := Lib.hid (HS6.out.put 4 (.int .i64 (f ⟨es, eq, 0⟩)))
  clear HS5 k0 k1 k2 k3 k4 k5 k6 k7 k8 k9 ka kf kl m0 m1 m2 m3 m4 m5 m6 m7 m8 m9 ma mf ml hl6 HS6
  generalize w6.setCell ⟨w.heap.size, 4, none⟩ (.int .i64 (f ⟨es, eq, 0⟩)) = W7 at *
  simp only [List.setIfInBounds_toArray, List.set_cons_succ, List.set_cons_zero] at HS7
  obtain ⟨k0, k1, k2, k3, k4, k5, k6, k7, k8, k9, ka, kf, kl⟩ := ucells11 HS7.out.op
  obtain ⟨i0, hi, hz0, hz1, hz2⟩ := info_parts Tryz.infoElem
  have HE7 := Lib.hid (HI.out.gone.below HS7.out.below)
  have HNO := Lib.hid HI.out.none
  obtain ⟨n, hn⟩ : ∃ n, gone.length = n := ⟨_, rfl⟩
  have HN := Lib.hid hn
  rw [hn] at hg k7
  simp only at HNO HE7
  have HNN := Lib.hid (show a = none → n = 0 ∧ cap = 0 from by rw [← hn]; exact HNO.out)
  clear hn
  have HL := Lib.hid (show (ecs gone).length = n * 3 from by rw [ecs_length, HN.out]; omega)
  have HM1 := Lib.hid (show 0 + n ≤ maxLen from by unfold maxLen; omega)
  have HM2 := Lib.hid (show (0 + n) * 24 ≤ 140737488355328 from by omega)
  have HON := Lib.hid (World.ownsRow_nil W7 W7.heap.size 31 3)
  go_upto_region 5 with (first
    | (at_builtin; go_loud (refine wpList_append_fromU rfl _ _ 23 rfl W7.heap.size 31 i0 (.agg #[.int .i64 0, .int .i64 0, .int .i64 0]) 3 24 Tryz.underlying23 hi hz0 hz1 hz2 rfl (by decide) _ 0 [] rfl HON.out a n cap (ecs gone) rfl HL.out HNN.out (uElems_news HE7.out) (uEcs_one gone) HM1.out HM2.out (Nat.le_refl _) ?_; intro v8 w8 hown8 hg8; simp only [Nat.zero_add, List.nil_append] at hown8; have hb8 : Below W7.heap.size W7 w8 := (Below.refl _ _).grown hg8 (Nat.le_refl _) (fun k hk => by cases hk); have HS8 := Lib.hid (HS7.out.step hb8); obtain ⟨ga, gc, hv8, _⟩ := elems_own (l := gone) (by rw [HN.out]; exact hown8); rw [HN.out] at hv8; subst hv8; have HOW8 := Lib.hid hown8; obtain ⟨m0, m1, m2, m3, m4, m5, m6, m7, m8, m9, ma, mf, ml⟩ := ucells11 HS8.out.op; clear hb8 hown8 hg8))
    | fail)
  have HS9 := Lib.hid (HS8.out.put 7 (.slice ga n gc))
  have hr7 : w.heap.size + 1 < W7.heap.size := (Array.getElem?_eq_some_iff.1 HS7.out.res).1
  have HOW9 := Lib.hid (own_away (w' := w8.setCell ⟨w.heap.size, 7, none⟩ (.slice ga n gc)) HOW8.out (fun k hk => Below.heap_setCell w8 ⟨w.heap.size, 7, none⟩ _ k (by show k ≠ w.heap.size; omega)))
  clear HS7 k0 k1 k2 k3 k4 k5 k6 k7 k8 k9 ka kf kl m0 m1 m2 m3 m4 m5 m6 m7 m8 m9 ma mf ml HS8 HOW8 HE7 HI HNO HNN hi hz0 hz1 hz2
  generalize w8.setCell ⟨w.heap.size, 7, none⟩ (.slice ga n gc) = W9 at *
  generalize W7.heap.size = B7 at *
  simp only [List.setIfInBounds_toArray, List.set_cons_succ, List.set_cons_zero] at HS9
  obtain ⟨k0, k1, k2, k3, k4, k5, k6, k7, k8, k9, ka, kf, kl⟩ := ucells11 HS9.out.op
  go_wp2_with fail
  clear k0 k1 k2 k3 k4 k5 k6 k7 k8 k9 ka kf kl
  go_loopw [37] (fun s37 wr => ∃ j : Nat, s37 = .int .i64 j ∧ j ≤ n ∧ RSt w w.heap.size mb mn V #[.int .i64 site, .int .i64 (f ⟨site, seq, 0⟩), .int .i64 kind, .int .i64 es, .int .i64 (f ⟨es, eq, 0⟩), .int .i64 ei, .string text, .slice ga n gc, .int .i64 of, .int .i64 (f ⟨of, num, 0⟩), .int .i64 gen] wr ∧ wr.ownsRow B7 31 3 (.slice ga n gc) n (ecs (renG f gone j))) (fun s37 _ => n - (RowKit.intOf s37).toNat)
  case atStart => exact ⟨0, rfl, Nat.zero_le _, HS9.out, by rw [renG_zero]; exact HOW9.out⟩
  case round =>
    clear HS9 HOW9
    obtain ⟨j, rfl, hj, hst, hown⟩ := hrel
    have HST := Lib.hid hst
    have HOW := Lib.hid hown
    clear hst hown
    by_cases hlt : j < n
    · obtain ⟨gg, rfl, hgB, hgl, hgf⟩ := own_block HOW.out (by omega)
      have hjl : j < gone.length := by rw [HN.out]; exact hlt
      have hlenr := renG_len f gone j (Nat.le_of_lt hjl)
      obtain ⟨_, _, hv, hel, _⟩ := elems_own (l := renG f gone j) (by rw [hlenr, HN.out]; exact HOW.out)
      simp only [Value.slice.injEq] at hv
      obtain ⟨hv1, hv2, hv3⟩ := hv
      clear hv2 hv3
      subst hv1
      obtain ⟨b9, off9, hb9, _, x0, x1, x2⟩ := hel.cell j (by rw [hlenr]; exact hjl)
      simp only [Option.some.injEq, Addr.mk.injEq, and_true] at hb9
      obtain ⟨rfl, rfl⟩ := hb9
      have hxe : (renG f gone j)[j]'(by rw [hlenr]; exact hjl) = gone[j] := by
        have h9 := renG_at f gone j hjl
        rw [List.getElem?_eq_getElem (by rw [hlenr]; exact hjl)] at h9
        exact Option.some.inj h9
      rw [hxe] at x0 x1 x2
      have hfx := HG4.out gone[j] (List.getElem_mem hjl)
      have HNX := Lib.hid (renG_next f gone j hjl)
      have HSET := Lib.hid (show (ecs (renG f gone j)).set (j * 3 + 1) (.int .i64 (f gone[j].w)) = ecs (renG f gone (j + 1)) from by
        rw [uecs_set _ _ _ (by rw [hlenr]; exact hjl), hxe]
        exact congrArg ecs (renG_next f gone j hjl))
      clear hel hxe HNX
      generalize gone[j] = x at *
      clear hlenr hjl
      obtain ⟨xs, xq, xi⟩ := x
      unfold El.w at hfx HSET
      simp only [Nat.zero_add] at x0 x1 x2 hfx HSET
      have HBE := Lib.hid (BoxE.new wr ⟨xs, xq, xi⟩)
      have HSA := Lib.hid (HST.out.step ((Below.refl wr.heap.size wr).alloc (Nat.le_refl _) (.cells #[.int .i64 xs, .int .i64 xq, .int .i64 xi] 31)))
      have HOA := Lib.hid (owns_belE HOW.out ((Below.refl wr.heap.size wr).alloc (Nat.le_refl _) (.cells #[.int .i64 xs, .int .i64 xq, .int .i64 xi] 31)))
      simp only at HBE
      go_upto_region 8 with fail
      generalize hwa : wr.alloc (.cells #[.int .i64 xs, .int .i64 xq, .int .i64 xi] 31) = wa at *
      obtain ⟨k0, k1, k2, k3, k4, k5, k6, k7, k8, k9, ka, kf, kl⟩ := ucells11 HSA.out.op
      have y0 := HBE.out.c0
      have y1 := HBE.out.c1
      have y2 := HBE.out.c2
      have yl := HBE.out.lt
      simp only at y0 y1 y2
      have HXE := Lib.hid (And.intro x0 (And.intro x1 x2))
      have HGL := Lib.hid (show gg < wa.heap.size from by rw [← hwa]; simp; omega)
      have hbA : Below wr.heap.size wr wa := by rw [← hwa]; exact (Below.refl wr.heap.size wr).alloc (Nat.le_refl _) _
      have HXC := Lib.hid (show wa.cell? ⟨gg, j * 3 + 1, none⟩ = some (.int .i64 xq) from (hbA.cell (p := ⟨gg, j * 3 + 1, none⟩) hgl).trans x1)
      have HXF := Lib.hid (show ∀ i, wa.frozen? ⟨gg, i, none⟩ = false from fun i => (hbA.frozen (p := ⟨gg, i, none⟩) hgl).trans (hgf i))
      clear x0 x1 x2 HXE hgf hbA
      go_region_law (first
        | (go_simp; go_at_call 94; go_loud (refine (uWriter_any xs xq xi _).mono ?_; rintro x5 w5 ⟨rfl, hb5⟩; have hbb := (Below.refl wa.heap.size wa).drew.trans (hb5.mono (Nat.le_refl _)); have hs5 := HSA.out.step hbb; have hl5 := HLK.out ⟨xs, xq, 0⟩ hfx w5 hs5.map; obtain ⟨m0, m1, m2, m3, m4, m5, m6, m7, m8, m9, ma, mf, ml⟩ := ucells11 hs5.op; have hc5 := (hbb.cell (p := ⟨gg, j * 3 + 1, none⟩) HGL.out).trans HXC.out; have hf5 := (fun i => (hbb.frozen (p := ⟨gg, i, none⟩) HGL.out).trans (HXF.out i)); have HO5 := Lib.hid (owns_belE HOA.out hbb); have HS5 := Lib.hid hs5; clear hb5 hbb hs5))
        | fail)
      all_goals
        have HS6 := Lib.hid (HS5.out.away (g := gg) (by omega) (j * 3 + 1) (.int .i64 (f ⟨xs, xq, 0⟩)))
        have HO6 := Lib.hid (by
          have h9 := (HO5.out.stored (j * 3 + 1) (.int .i64 (f ⟨xs, xq, 0⟩))).1
          rw [HSET.out] at h9
          exact h9)
        clear m0 m1 m2 m3 m4 m5 m6 m7 m8 m9 ma mf ml hl5 hc5 hf5 k0 k1 k2 k3 k4 k5 k6 k7 k8 k9 ka kf kl y0 y1 y2 yl
        generalize w5.setCell ⟨gg, j * 3 + 1, none⟩ (.int .i64 (f ⟨xs, xq, 0⟩)) = w6 at *
        go_wp2_with fail
        go_roundw
        case rel => exact ⟨j + 1, by go_num, by omega, HS6.out, HO6.out⟩
        case measure => simp [RowKit.intOf]; omega
    · have h0 : j = n := by omega
      subst h0
      obtain ⟨k0, k1, k2, k3, k4, k5, k6, k7, k8, k9, ka, kf, kl⟩ := ucells11 HST.out.op
      obtain ⟨z0, z1, z2, z3, z4, z5, z6, z7, z8, z9, za, zf, zl⟩ := ucells11 HST.out.res
      go_wp2_with fail
      have HF := Lib.hid (ufill11 (v0 := (.int .i64 site)) (v1 := (.int .i64 (f ⟨site, seq, 0⟩))) (v2 := (.int .i64 kind)) (v3 := (.int .i64 es)) (v4 := (.int .i64 (f ⟨es, eq, 0⟩))) (v5 := (.int .i64 ei)) (v6 := (.string text)) (v7 := (.slice ga j gc)) (v8 := (.int .i64 of)) (v9 := (.int .i64 (f ⟨of, num, 0⟩))) (v10 := (.int .i64 gen)) HST.out.res)
      have HBZ := Lib.hid (show Below w.heap.size w (((((((((((wr.setCell ⟨w.heap.size + 1, 0, none⟩ (.int .i64 site)).setCell ⟨w.heap.size + 1, 1, none⟩ (.int .i64 (f ⟨site, seq, 0⟩))).setCell ⟨w.heap.size + 1, 2, none⟩ (.int .i64 kind)).setCell ⟨w.heap.size + 1, 3, none⟩ (.int .i64 es)).setCell ⟨w.heap.size + 1, 4, none⟩ (.int .i64 (f ⟨es, eq, 0⟩))).setCell ⟨w.heap.size + 1, 5, none⟩ (.int .i64 ei)).setCell ⟨w.heap.size + 1, 6, none⟩ (.string text)).setCell ⟨w.heap.size + 1, 7, none⟩ (.slice ga j gc)).setCell ⟨w.heap.size + 1, 8, none⟩ (.int .i64 of)).setCell ⟨w.heap.size + 1, 9, none⟩ (.int .i64 (f ⟨of, num, 0⟩))).setCell ⟨w.heap.size + 1, 10, none⟩ (.int .i64 gen)) from by
        iterate 11 refine Below.setCell ?_ (by show _ ≤ _; simp only; omega) _
        exact HST.out.below)
      have HOZ := Lib.hid (own_away (w' := (((((((((((wr.setCell ⟨w.heap.size + 1, 0, none⟩ (.int .i64 site)).setCell ⟨w.heap.size + 1, 1, none⟩ (.int .i64 (f ⟨site, seq, 0⟩))).setCell ⟨w.heap.size + 1, 2, none⟩ (.int .i64 kind)).setCell ⟨w.heap.size + 1, 3, none⟩ (.int .i64 es)).setCell ⟨w.heap.size + 1, 4, none⟩ (.int .i64 (f ⟨es, eq, 0⟩))).setCell ⟨w.heap.size + 1, 5, none⟩ (.int .i64 ei)).setCell ⟨w.heap.size + 1, 6, none⟩ (.string text)).setCell ⟨w.heap.size + 1, 7, none⟩ (.slice ga j gc)).setCell ⟨w.heap.size + 1, 8, none⟩ (.int .i64 of)).setCell ⟨w.heap.size + 1, 9, none⟩ (.int .i64 (f ⟨of, num, 0⟩))).setCell ⟨w.heap.size + 1, 10, none⟩ (.int .i64 gen))) (base := B7) (by
        have h9 := HOW.out
        rw [← HN.out, renG_all, HN.out] at h9
        exact h9) (fun k hk => by
        iterate 11 refine (Below.heap_setCell _ ⟨w.heap.size + 1, _, none⟩ _ k (by show k ≠ w.heap.size + 1; omega)).trans ?_
        rfl))
      clear k0 k1 k2 k3 k4 k5 k6 k7 k8 k9 ka kf kl z0 z1 z2 z3 z4 z5 z6 z7 z8 z9 za zf zl
      generalize (((((((((((wr.setCell ⟨w.heap.size + 1, 0, none⟩ (.int .i64 site)).setCell ⟨w.heap.size + 1, 1, none⟩ (.int .i64 (f ⟨site, seq, 0⟩))).setCell ⟨w.heap.size + 1, 2, none⟩ (.int .i64 kind)).setCell ⟨w.heap.size + 1, 3, none⟩ (.int .i64 es)).setCell ⟨w.heap.size + 1, 4, none⟩ (.int .i64 (f ⟨es, eq, 0⟩))).setCell ⟨w.heap.size + 1, 5, none⟩ (.int .i64 ei)).setCell ⟨w.heap.size + 1, 6, none⟩ (.string text)).setCell ⟨w.heap.size + 1, 7, none⟩ (.slice ga j gc)).setCell ⟨w.heap.size + 1, 8, none⟩ (.int .i64 of)).setCell ⟨w.heap.size + 1, 9, none⟩ (.int .i64 (f ⟨of, num, 0⟩))).setCell ⟨w.heap.size + 1, 10, none⟩ (.int .i64 gen)) = wz at *
      obtain ⟨z0, z1, z2, z3, z4, z5, z6, z7, z8, z9, za, _, _⟩ := ucells11 HF.out
      refine bodyPost_ret (v := .agg #[.int .i64 site, .int .i64 (f ⟨site, seq, 0⟩), .int .i64 kind, .int .i64 es, .int .i64 (f ⟨es, eq, 0⟩), .int .i64 ei, .string text, .slice ga j gc, .int .i64 of, .int .i64 (f ⟨of, num, 0⟩), .int .i64 gen]) ?_ rfl ?_
      · simp [results, Tryz.results46, go_sem, z0, z1, z2, z3, z4, z5, z6, z7, z8, z9, za]
      · have h9 := HFIN.out ga gc wz (by rw [HN.out]; exact owns_base HOZ.out (by omega)) HBZ.out
        rw [HN.out] at h9
        exact h9
end Go.Proofs.YtefgoelkdjendaaGreatDoor
/- pure facts of package undo: the last edit of a row: none leans on it; toggled, its text is that ahead of it -/
namespace Go.Proofs.YtefgoelkdjendaaGreatDoor
open Go.RowKit Go.Lib Go.Sort

theorem ucnt_take (l : List OpD) (k : Nat) (s : Int) : cnt (l.take k) s ≤ cnt l s := by
  unfold cnt
  exact ((List.take_sublist k l).filter _).length_le
theorem has_cnt {l : List OpD} (h : okRow l) {e : El} (hn : hasN l e = true) : e.i = 0 ∧ 1 ≤ e.s ∧ e.s ≤ 8 ∧ 1 ≤ e.q ∧ e.q ≤ cnt l e.s := (row_cv h).2 e hn
theorem last_not {m : List OpD} {o : OpD} (h : okRow (m ++ [o])) : hasN m ⟨o.site, o.seq, 0⟩ = false := by
  obtain ⟨hm, ht⟩ := eRow_snoc h
  cases hn : hasN m ⟨o.site, o.seq, 0⟩ with
  | false => rfl
  | true =>
    have h1 := (has_cnt hm hn).2.2.2.2
    have h2 := (tk_goes ht).2
    simp only at h1
    omega
theorem last_has {m : List OpD} {o : OpD} (hk : o.kind = 1) : hasN (m ++ [o]) ⟨o.site, o.seq, 0⟩ = true := by
  rw [hasN_snoc]
  simp [hk]
theorem last_ct {m : List OpD} {o : OpD} (h : okRow (m ++ [o])) (hk : o.kind = 1) : ct (m ++ [o]) o.site o.seq = 0 := by
  rw [ct_edit hk]
  exact (row_cv (eRow_snoc h).1).1 _ _ (last_not h)
/-- none needs the last -/
theorem last_needs {m : List OpD} {o : OpD} (h : okRow (m ++ [o])) : ∀ x ∈ m ++ [o], (⟨o.site, o.seq, 0⟩ : El) ∉ needs x := by
  obtain ⟨hm, ht⟩ := eRow_snoc h
  have h2 := (tk_goes ht).2
  intro x hx hin
  rcases List.mem_append.1 hx with hx | hx
  · obtain ⟨k, hk, rfl⟩ := List.mem_iff_getElem.1 hx
    have h3 := hm k hk
    unfold tk at h3
    simp only [Bool.and_eq_true, List.all_eq_true] at h3
    have h4 := h3.2.2.1 _ hin
    have h5 := (has_cnt (okRow_take hm k) h4).2.2.2.2
    have h6 := ucnt_take m k o.site
    simp only at h5
    omega
  · rw [List.mem_singleton.1 hx] at hin
    have h3 := needs_own (tk_goes ht).1 _ hin
    unfold El.own at h3
    simp at h3
/-- an op's own name, among those ahead of the last -/
theorem name_lt {m : List OpD} (hm : okRow m) {p : OpD} (hp : p ∈ m) : p.seq ≤ cnt m p.site := by
  obtain ⟨k, hk, rfl⟩ := List.mem_iff_getElem.1 hp
  have h3 := (tk_goes (hm k hk)).2
  have h4 : cnt (m.take (k + 1)) m[k].site ≤ cnt m m[k].site := ucnt_take m (k + 1) _
  rw [List.take_succ_eq_append_getElem hk, cnt_snoc, if_pos rfl] at h4
  omega
/-- the last edit, toggled -/
theorem last_evn {m : List OpD} {o : OpD} (h : okRow (m ++ [o])) (hk : o.kind = 1) (s q x y : Int) :
    evn (m ++ [o] ++ [togD s q o.site o.seq 0]) x y = if o.site = x ∧ o.seq = y then false else evn m x y := by
  unfold evn
  rw [tog_ct]
  by_cases hxy : o.site = x ∧ o.seq = y
  · obtain ⟨rfl, rfl⟩ := hxy
    rw [last_ct h hk]
    simp
  · rw [if_neg (fun hh => hxy ⟨hh.1, hh.2.1⟩), if_neg hxy, ct_edit hk]
theorem last_gone {m : List OpD} {o : OpD} (h : okRow (m ++ [o])) (hk : o.kind = 1) (s q : Int) (e : El) :
    goneE (m ++ [o] ++ [togD s q o.site o.seq 0]) (m ++ [o] ++ [togD s q o.site o.seq 0]) e = goneE m m e := by
  obtain ⟨hm, ht⟩ := eRow_snoc h
  rw [tog_gone, goneE_snoc, last_evn h hk, if_pos ⟨rfl, rfl⟩, Bool.false_and, Bool.or_false]
  unfold goneE
  rw [Bool.eq_iff_iff, List.any_eq_true, List.any_eq_true]
  have hne : ∀ p ∈ m, ¬ (o.site = p.site ∧ o.seq = p.seq) := fun p hp hh => by
    have h1 := name_lt hm hp
    have h2 := (tk_goes ht).2
    rw [hh.1, hh.2] at h2
    omega
  constructor
  · rintro ⟨p, hp, h1⟩
    rw [last_evn h hk, if_neg (hne p hp)] at h1
    exact ⟨p, hp, h1⟩
  · rintro ⟨p, hp, h1⟩
    refine ⟨p, hp, ?_⟩
    rw [last_evn h hk, if_neg (hne p hp)]
    exact h1
theorem ord_ne {m : List OpD} {o : OpD} (h : okRow (m ++ [o])) {e : El} (he : e ∈ ordE m) : ¬ (e.s = o.site ∧ e.q = o.seq) := by
  obtain ⟨hm, ht⟩ := eRow_snoc h
  obtain ⟨t, h1, rfl⟩ := List.mem_map.1 he
  exact old_e (erow_inv hm) ht h1
theorem last_vis {m : List OpD} {o : OpD} (h : okRow (m ++ [o])) (hk : o.kind = 1) (s q : Int) : visE (m ++ [o] ++ [togD s q o.site o.seq 0]) = visE m := by
  unfold visE
  rw [tog_ord, ordE_snoc, List.filter_append, List.filter_append]
  have h1 : (mine o.site o.seq (nR o.text)).filter (vis (m ++ [o] ++ [togD s q o.site o.seq 0])) = [] := by
    rw [List.filter_eq_nil_iff]
    intro e he
    unfold mine at he
    obtain ⟨j, _, rfl⟩ := List.mem_map.1 he
    unfold vis
    rw [last_evn h hk, if_pos ⟨rfl, rfl⟩]
    simp
  rw [h1, List.append_nil, ← List.filter_append, List.take_append_drop]
  apply List.filter_congr
  intro e he
  have hne := ord_ne h he
  unfold vis
  rw [last_gone h hk, last_evn h hk, if_neg (fun hh => hne ⟨hh.1.symm, hh.2.symm⟩)]
theorem last_text {m : List OpD} {o : OpD} (h : okRow (m ++ [o])) (hk : o.kind = 1) (s : Int) : docT (m ++ [o] ++ [togD s ((cnt (m ++ [o]) s : Int) + 1) o.site o.seq 0]) = docT m := by
  obtain ⟨hm, ht⟩ := eRow_snoc h
  unfold docT visR
  rw [last_vis h hk]
  congr 1
  apply List.map_congr_left
  intro e he
  have ho := visE_ord he
  rw [tog_rn h (ord_more o ho)]
  unfold rnE
  rw [rnP_snoc (row_nm hm) (tk_goes ht).2, if_neg (ord_ne h ho)]
end Go.Proofs.YtefgoelkdjendaaGreatDoor
/- package undo: leftOut, pure: a row without an op and its toggles, with new numbers -/
namespace Go.Proofs.YtefgoelkdjendaaGreatDoor
open Go.RowKit Go.Lib Go.Sort

def dropE (it : El) (o : OpD) : Bool := decide ((⟨o.site, o.seq, 0⟩ : El) = it) || decide ((⟨o.of, o.num, 0⟩ : El) = it)
def putF (F : El → Int) (k : El) (v : Int) : El → Int := fun e => if e = k then v else F e
def loStep (it : El) (st : List OpD × (El → Int)) (o : OpD) : List OpD × (El → Int) :=
  if dropE it o then st else (st.1 ++ [renO (putF st.2 ⟨o.site, o.seq, 0⟩ ((cnt st.1 o.site : Int) + 1)) o], putF st.2 ⟨o.site, o.seq, 0⟩ ((cnt st.1 o.site : Int) + 1))
def loF (it : El) (l : List OpD) : List OpD × (El → Int) := l.foldl (loStep it) ([], fun _ => 0)
def leftP (it : El) (l : List OpD) : List OpD := (loF it l).1
theorem loF_nil (it : El) : loF it [] = ([], fun _ => 0) := rfl
theorem loF_snoc (it : El) (l : List OpD) (o : OpD) : loF it (l ++ [o]) = loStep it (loF it l) o := by simp [loF]
theorem loF_len (it : El) (l : List OpD) : ∀ k, (loF it (l.take k)).1.length ≤ k := by
  intro k
  induction k with
  | zero => simp [loF]
  | succ k ih =>
    by_cases hk : k < l.length
    · rw [List.take_succ_eq_append_getElem hk, loF_snoc]
      unfold loStep
      split
      · omega
      · simp; omega
    · rw [List.take_of_length_le (by omega), ← List.take_of_length_le (show l.length ≤ k by omega)]
      omega
theorem names_fit {o : OpD} (h : okOp o = true) : namesFit o := by
  have hn := okOp_name h
  have hg := gone_ok h
  refine ⟨by unfold El.fit in64; simp only; omega, ?_, ?_, fun e he => ?_⟩
  · unfold okOp at h
    rw [Bool.and_eq_true] at h
    have h2 := h.2
    split at h2
    · unfold okEdit at h2
      simp only [Bool.and_eq_true] at h2
      have h3 := h2.1
      unfold OpD.head at h3
      simp only [Bool.and_eq_true, decide_eq_true_eq] at h3
      unfold El.fit in64
      simp only
      omega
    · split at h2
      · rename_i hk
        exact needs_fit (by unfold okOp; rw [Bool.and_eq_true]; exact h) _ (by unfold needs; rw [if_pos hk]; simp)
      · cases h2
  · have h3 : o.after.ok = true ∨ o.after.begin = true := by
      unfold okOp at h
      rw [Bool.and_eq_true] at h
      have h2 := h.2
      split at h2
      · unfold okEdit at h2
        simp only [Bool.and_eq_true] at h2
        have h3 := h2.2.2.2.1
        unfold okAfter at h3
        split at h3
        · exact .inr h3
        · rw [Bool.and_eq_true] at h3
          exact .inl h3.1
      · split at h2
        · unfold okToggle at h2
          rw [Bool.and_eq_true] at h2
          exact .inr h2.1
        · cases h2
    have h4 : o.after.fit := by
      rcases h3 with h3 | h3
      · exact ok_fit h3
      · rw [(begin_iff _).1 h3]; exact b0_fit
    unfold El.fit in64 at h4 ⊢
    unfold El.w
    simp only
    omega
  · have h4 := ok_fit (hg.2 e he)
    unfold El.fit in64 at h4 ⊢
    unfold El.w
    simp only
    omega
/-- where all stay, all keep their numbers -/
def nmF (l : List OpD) : El → Int := fun e => if e.i = 0 ∧ 1 ≤ e.q ∧ e.q ≤ (cnt l e.s : Int) then e.q else 0
theorem nmF_has {l : List OpD} (h : okRow l) {e : El} (hn : hasN l e = true) : nmF l e = e.q := by
  have := has_cnt h hn
  unfold nmF
  rw [if_pos ⟨this.1, this.2.2.2.1, this.2.2.2.2⟩]
theorem putF_nm {l : List OpD} {o : OpD} (hs : o.seq = cnt l o.site + 1) : putF (nmF l) ⟨o.site, o.seq, 0⟩ ((cnt l o.site : Int) + 1) = nmF (l ++ [o]) := by
  funext e
  unfold putF nmF
  rw [cnt_snoc]
  obtain ⟨s, q, i⟩ := e
  simp only [El.mk.injEq]
  by_cases h1 : o.site = s
  · subst h1
    rw [if_pos rfl]
    by_cases h2 : q = o.seq ∧ i = 0
    · rw [if_pos ⟨rfl, h2.1, h2.2⟩, if_pos (by omega)]
      omega
    · rw [if_neg (by rintro ⟨_, h3, h4⟩; exact h2 ⟨h3, h4⟩)]
      by_cases h3 : i = 0 ∧ 1 ≤ q ∧ q ≤ (cnt l o.site : Int)
      · rw [if_pos h3, if_pos (by omega)]
      · rw [if_neg h3, if_neg (by omega)]
  · rw [if_neg (by rintro ⟨h2, _⟩; exact h1 h2.symm), if_neg h1, Nat.add_zero]
theorem ren_same {l : List OpD} (h : okRow l) {o : OpD} (ht : tk l o = true) : renO (nmF (l ++ [o])) o = o := by
  have hok := (tk_goes ht).1
  have hsq := (tk_goes ht).2
  have hm := okRow_more h ht
  have hnm := okOp_name hok
  have hz : nmF (l ++ [o]) ⟨0, 0, 0⟩ = 0 := by unfold nmF; rw [if_neg (by simp)]
  have h1 : nmF (l ++ [o]) ⟨o.site, o.seq, 0⟩ = o.seq := by
    have hc : cnt (l ++ [o]) o.site = cnt l o.site + 1 := by rw [cnt_snoc, if_pos rfl]
    have hcd : (0 : Int) = 0 ∧ 1 ≤ o.seq ∧ o.seq ≤ (cnt (l ++ [o]) o.site : Int) := ⟨rfl, hnm.2.2.1, by rw [hc]; omega⟩
    unfold nmF
    exact if_pos hcd
  have hup : ∀ e : El, hasN l e = true → nmF (l ++ [o]) e = e.q := fun e he => by
    have h2 := has_cnt h he
    unfold nmF
    rw [cnt_snoc, if_pos (by omega)]
  have htk := ht
  unfold tk at htk
  simp only [Bool.and_eq_true, List.all_eq_true] at htk
  obtain ⟨_, _, hne, hgo, haf, _⟩ := htk
  have h2 : nmF (l ++ [o]) ⟨o.of, o.num, 0⟩ = o.num := by
    rcases okOp_kind hok with hk | hk
    · unfold okOp at hok
      rw [if_pos hk, Bool.and_eq_true] at hok
      have h3 := hok.2
      unfold okEdit at h3
      simp only [Bool.and_eq_true] at h3
      have h4 := h3.1
      unfold OpD.head at h4
      simp only [Bool.and_eq_true, decide_eq_true_eq] at h4
      rw [show o.of = 0 by omega, show o.num = 0 by omega]
      exact hz
    · exact hup _ (hne _ (by unfold needs; rw [if_pos hk]; simp))
  have h3 : nmF (l ++ [o]) o.after.w = o.after.q := by
    rw [Bool.or_eq_true] at haf
    rcases haf with hb | hw
    · rw [(begin_iff _).1 hb]
      exact hz
    · by_cases hb : o.after.begin = true
      · rw [(begin_iff _).1 hb]
        exact hz
      · have hi : 0 ≤ o.after.i := by
          unfold okOp at hok
          rw [Bool.and_eq_true] at hok
          have h2 := hok.2
          split at h2
          · unfold okEdit at h2
            simp only [Bool.and_eq_true] at h2
            have h3 := h2.2.2.2.1
            unfold okAfter at h3
            split at h3
            · exact absurd h3 hb
            · rw [Bool.and_eq_true] at h3
              exact ok_i h3.1
          · split at h2
            · unfold okToggle at h2
              rw [Bool.and_eq_true] at h2
              exact absurd h2.1 hb
            · cases h2
        exact hup _ (wr_has hi hw)
  have h4 : o.gone.map (renE (nmF (l ++ [o]))) = o.gone := by
    conv => rhs; rw [← List.map_id o.gone]
    apply List.map_congr_left
    intro e he
    unfold renE
    have h5 : nmF (l ++ [o]) e.w = e.q := hup _ (wr_has (ok_i ((gone_ok hok).2 e he)) (hgo e he))
    rw [h5]
    rfl
  unfold renO
  rw [h1, h2, h3, h4]
theorem loF_same (it : El) : ∀ (k : Nat) (l : List OpD), l.length = k → okRow l → (∀ x ∈ l, dropE it x = false) → loF it l = (l, nmF l) := by
  intro k
  induction k with
  | zero =>
    intro l hl _ _
    rw [List.eq_nil_of_length_eq_zero hl, loF_nil]
    congr 1
    funext e
    unfold nmF
    rw [if_neg]
    rintro ⟨_, h1, h2⟩
    have : cnt [] e.s = 0 := rfl
    omega
  | succ k ih =>
    intro l hl hr hd
    have hne : l ≠ [] := fun h => by rw [h] at hl; cases hl
    obtain ⟨m, o, rfl⟩ : ∃ m o, l = m ++ [o] := ⟨l.dropLast, l.getLast hne, (List.dropLast_concat_getLast hne).symm⟩
    obtain ⟨hm, ht⟩ := eRow_snoc hr
    rw [loF_snoc, ih m (by simpa using hl) hm (fun x hx => hd x (List.mem_append_left _ hx))]
    unfold loStep
    rw [hd o (by simp)]
    simp only [Bool.false_eq_true, if_false]
    rw [putF_nm (tk_goes ht).2, ren_same hm ht]
/-- without its last op -/
theorem left_last {m : List OpD} {o : OpD} (h : okRow (m ++ [o])) : leftP ⟨o.site, o.seq, 0⟩ (m ++ [o]) = m := by
  obtain ⟨hm, ht⟩ := eRow_snoc h
  have hno := last_not h
  have hsq := (tk_goes ht).2
  unfold leftP
  rw [loF_snoc, loF_same _ _ m rfl hm (fun x hx => ?_)]
  · unfold loStep
    rw [show dropE ⟨o.site, o.seq, 0⟩ o = true from by unfold dropE; simp]
    simp
  · unfold dropE
    rw [Bool.or_eq_false_iff]
    constructor
    · apply decide_eq_false
      intro he
      have h1 := name_lt hm hx
      simp only [El.mk.injEq] at he
      rw [he.1, he.2.1] at h1
      omega
    · apply decide_eq_false
      intro he
      obtain ⟨k, hk, rfl⟩ := List.mem_iff_getElem.1 hx
      have htk := hm k hk
      have hok := (tk_goes htk).1
      simp only [El.mk.injEq] at he
      rcases okOp_kind hok with hkd | hkd
      · unfold okOp at hok
        rw [if_pos hkd, Bool.and_eq_true] at hok
        have h3 := hok.2
        unfold okEdit at h3
        simp only [Bool.and_eq_true] at h3
        have h4 := h3.1
        unfold OpD.head at h4
        simp only [Bool.and_eq_true, decide_eq_true_eq] at h4
        have := (okOp_name (tk_goes ht).1).1
        omega
      · unfold tk at htk
        simp only [Bool.and_eq_true, List.all_eq_true] at htk
        have h5 := htk.2.2.1 ⟨m[k].of, m[k].num, 0⟩ (by unfold needs; rw [if_pos hkd]; simp)
        rw [he.1, he.2.1] at h5
        have h6 := (has_cnt (okRow_take hm k) h5).2.2.2.2
        have h7 := ucnt_take m k o.site
        simp only at h6
        omega
end Go.Proofs.YtefgoelkdjendaaGreatDoor
/- package undo: leftOut -/
namespace Go.Proofs.YtefgoelkdjendaaGreatDoor
open Go.RowKit Go.Lib Go.Sort

theorem kp_set (w : World) (g j : Nat) (u : Value) : Kp (some g) w (w.setCell ⟨g, j, none⟩ u) :=
  ⟨rfl, rfl, rfl, by simp, fun k _ hne => Below.heap_setCell w ⟨g, j, none⟩ u k (fun e => hne (by rw [e]))⟩
theorem kp_grown {w w' : World} {g : Nat} (h : w.grownBy w' (some g)) : Kp (some g) w w' := ⟨h.os, h.tape, h.output, h.size, fun j hj hne => h.block j hj hne⟩
theorem OwnO.kp {base g : Nat} {w w' : World} {v : Value} {L : List OpR} (h : OwnO base w v L) (hk : Kp (some g) w w') (hg : g < base) : OwnO base w' v L :=
  ⟨hk.owns h.own (.inr (fun e => by have := own_ge h.own g e; omega)), fun r hr => (h.at_ r hr).kp hk (fun ad ha => fun e => by have := h.ge r hr ad ha; simp only [Option.some.injEq] at e; omega), fun r hr ad ha => ⟨(h.apart r hr ad ha).1, Nat.lt_of_lt_of_le (h.apart r hr ad ha).2 hk.size⟩, h.ge⟩
theorem kp_cell {w w' : World} {g b o : Nat} (h : Kp (some g) w w') (hb : b < w.heap.size) (hne : b ≠ g) : w'.cell? ⟨b, o, none⟩ = w.cell? ⟨b, o, none⟩ := by
  unfold World.cell?
  simp only [h.block b hb (fun e => hne (by cases e; rfl))]
theorem BoxO.kp {w w' : World} {g b : Nat} {o : OpD} {a : Option Addr} {cap : Nat} (h : BoxO w b o a cap) (hk : Kp (some g) w w') (hne : b ≠ g) : BoxO w' b o a cap :=
  ⟨Nat.lt_of_lt_of_le h.lt hk.size, (kp_cell hk h.lt hne).trans h.c0, (kp_cell hk h.lt hne).trans h.c1, (kp_cell hk h.lt hne).trans h.c2, (kp_cell hk h.lt hne).trans h.c3, (kp_cell hk h.lt hne).trans h.c4, (kp_cell hk h.lt hne).trans h.c5, (kp_cell hk h.lt hne).trans h.c6, (kp_cell hk h.lt hne).trans h.c7, (kp_cell hk h.lt hne).trans h.c8, (kp_cell hk h.lt hne).trans h.c9, (kp_cell hk h.lt hne).trans h.ca⟩
/-- the box of the name, how many of each site, the new numbers -/
structure LoSt (w : World) (it : El) (R : List OpD) (F : El → Int) (m : Nat) (W : World) : Prop where
  box : W.heap[w.heap.size]? = some (.cells #[.int .i64 it.s, .int .i64 it.q, .int .i64 it.i] 31)
  cn : ∃ C : Array Value, W.heap[w.heap.size + 1]? = some (.cells C 96) ∧ ∀ s : Nat, s < 9 → C[s]? = some (.int .i64 (cnt R s))
  map : ∃ V, MapE W (w.heap.size + 1 + 1) m V ∧ ∀ e, (V e).getD (.int .i64 0) = .int .i64 (F e)
  below : Below w.heap.size w W
  big : w.heap.size + 3 ≤ W.heap.size
theorem LoSt.step {w W W' : World} {it : El} {R : List OpD} {F : El → Int} {m : Nat} (h : LoSt w it R F m W) (hb : Below (w.heap.size + 3) W W') : LoSt w it R F m W' := by
  obtain ⟨C, hc, hC⟩ := h.cn
  obtain ⟨V, hm, hV⟩ := h.map
  exact ⟨(hb.block _ (by omega)).trans h.box, ⟨C, (hb.block _ (by omega)).trans hc, hC⟩, ⟨V, hm.kept (hb.block _ (by omega)), hV⟩, h.below.trans (hb.mono (by omega)), Nat.le_trans h.big hb.size⟩
theorem LoSt.next {w W W' : World} {it : El} {R : List OpD} {F : El → Int} {m : Nat} (h : LoSt w it R F m W) (hb : Below W.heap.size W W') : LoSt w it R F m W' := h.step (hb.mono h.big)
/-- one more of a site -/
theorem LoSt.count {w W : World} {it : El} {R : List OpD} {F : El → Int} {m : Nat} (h : LoSt w it R F m W) (o : OpD) (k : Nat) (hk : k < 9) (hs : o.site = (k : Int)) : LoSt w it (R ++ [o]) F m (W.setCell ⟨w.heap.size + 1, k, none⟩ (.int .i64 ((cnt R o.site : Int) + 1))) := by
  obtain ⟨C, hc, hC⟩ := h.cn
  obtain ⟨V, hm, hV⟩ := h.map
  have hoth : ∀ j, j ≠ w.heap.size + 1 → (W.setCell ⟨w.heap.size + 1, k, none⟩ (.int .i64 ((cnt R o.site : Int) + 1))).heap[j]? = W.heap[j]? := fun j hj => Below.heap_setCell W ⟨w.heap.size + 1, k, none⟩ _ j hj
  refine ⟨(hoth _ (by omega)).trans h.box, ⟨_, heap_setCell_same W _ k C 96 _ hc, fun s hs9 => ?_⟩, ⟨V, hm.kept (hoth _ (by omega)), hV⟩, h.below.setCell (show w.heap.size ≤ w.heap.size + 1 by omega) _, by simpa using h.big⟩
  have hcs : C.size > k := by
    have := hC k hk
    exact (Array.getElem?_eq_some_iff.1 this).1
  rw [cnt_snoc]
  by_cases hsk : s = k
  · subst hsk
    rw [Array.getElem?_setIfInBounds_self_of_lt hcs, if_pos hs, hs]
    rfl
  · rw [Array.getElem?_setIfInBounds_ne (fun e => hsk e.symm), hC s hs9, if_neg (by rw [hs]; intro e; exact hsk (by omega)), Nat.add_zero]
theorem LoSt.swap {w W : World} {it : El} {R : List OpD} {F : El → Int} {m : Nat} {o o' : OpD} (h : LoSt w it (R ++ [o]) F m W) (hs : o'.site = o.site) : LoSt w it (R ++ [o']) F m W := by
  obtain ⟨C, hc, hC⟩ := h.cn
  refine ⟨h.box, ⟨C, hc, fun s hs9 => ?_⟩, h.map, h.below, h.big⟩
  have h1 := hC s hs9
  rw [cnt_snoc] at h1 ⊢
  rw [hs]
  exact h1
/-- a new number -/
theorem LoSt.put {w W : World} {it : El} {R : List OpD} {F : El → Int} {m : Nat} (h : LoSt w it R F m W) (hm9 : m < 1000000) (e : El) (he : e.fit) (v : Int) :
    ∃ w', (Instr.mapUpdate 97 (.map (some (w.heap.size + 1 + 1))) e.v (.int .i64 v)).run Tryz.prog W = .ok () w' ∧ LoSt w it R (putF F e v) (m + 1) w' ∧ Kp (some (w.heap.size + 1 + 1)) W w' := by
  obtain ⟨C, hc, hC⟩ := h.cn
  obtain ⟨V, hm, hV⟩ := h.map
  obtain ⟨w', h1, h2, h3⟩ := hm.store (t := 97) Tryz.underlying97 (by simp only [maxLen]; omega) e he (.int .i64 v)
  have hb := h.big
  refine ⟨w', h1, ⟨(h3.block _ (by omega) (by simp only [ne_eq, Option.some.injEq]; omega)).trans h.box, ⟨C, (h3.block _ (by omega) (by simp only [ne_eq, Option.some.injEq]; omega)).trans hc, hC⟩, ⟨_, h2, fun x => ?_⟩, h.below.grown h3 (by omega) (fun k hk => by cases hk; omega), Nat.le_trans hb h3.size⟩, kp_grown h3⟩
  unfold putF
  by_cases hx : x = e
  · simp only [hx, if_true]; rfl
  · simp only [if_neg hx]; exact hV x
theorem LoSt.cell {w W : World} {it : El} {R : List OpD} {F : El → Int} {m : Nat} (h : LoSt w it R F m W) (k : Nat) (hk : k < 9) : W.cell? ⟨w.heap.size + 1, k, none⟩ = some (.int .i64 (cnt R k)) ∧ W.frozen? ⟨w.heap.size + 1, k, none⟩ = false := by
  obtain ⟨C, hc, hC⟩ := h.cn
  exact ⟨by simp [World.cell?, hc, hC k hk], by simp [World.frozen?, hc]⟩
def LeftPost (l : List OpD) (w : World) (e : Ending) (w' : World) : Prop := ∃ a c L, e = .returned (.slice a l.length c) ∧ OpsAt w' a L ∧ OpR.os L = l ∧ l.length ≤ c ∧ Below w.heap.size w w'
def uRegOf (n : Nat) : Code → Option Code
  | .region m ops b => if m == n then some (.region m ops b) else none
  | .seq a b => match uRegOf n a with
    | some c => some c
    | none => uRegOf n b
  | .cond _ a b => match uRegOf n a with
    | some c => some c
    | none => uRegOf n b
  | .block _ c => uRegOf n c
  | .loop c => uRegOf n c
  | .scope c => uRegOf n c
  | _ => none
noncomputable def regLo (n : Nat) : Code := ((Tryz.f23.body.bind (uRegOf n)).getD .skip)
set_option maxRecDepth 100000 in
set_option maxHeartbeats 8000000 in
theorem lo_r7 {u0 u1 u2 u4 u5 u6 u7 u8 u10 u11 u12 u13 u14 u15 u16 u17 u18 u19 u20 u21 u22 u23 u24 u25 u26 u27 u28 u29 u30 u31 u32 u33 u34 u35 u36 u37 u38 u39 u40 u41 u42 u43 u44 u45 u46 u47 u48 u49 u50 u51 u52 u53 u54 u55 u56 : Value} {b3 b9 : Nat} {site seq of num is iq ii : Int} (w : World) (b : Bool)
    (h0 : w.cell? ⟨b9, 0, none⟩ = some (.int .i64 site)) (h1 : w.cell? ⟨b9, 1, none⟩ = some (.int .i64 seq)) (h8 : w.cell? ⟨b9, 8, none⟩ = some (.int .i64 of)) (h9 : w.cell? ⟨b9, 9, none⟩ = some (.int .i64 num)) (_hl9 : b9 < w.heap.size)
    (g0 : w.cell? ⟨b3, 0, none⟩ = some (.int .i64 is)) (g1 : w.cell? ⟨b3, 1, none⟩ = some (.int .i64 iq)) (g2 : w.cell? ⟨b3, 2, none⟩ = some (.int .i64 ii)) (_hl3 : b3 < w.heap.size)
    (hb : (decide ((⟨site, seq, 0⟩ : El) = ⟨is, iq, ii⟩) || decide ((⟨of, num, 0⟩ : El) = ⟨is, iq, ii⟩)) = b)
    {K : Act → World → Prop} {Q : Exit → Act → World → Prop} (hK : ∀ (v17 v18 v19 v20 v21 v22 v23 v24 v25 v26 v27 v28 v29 v30 v31 : Value) (wx : World), Below w.heap.size w wx → K ⟨#[u0, u1, u2, .pointer (some ⟨b3, 0, none⟩), u4, u5, u6, u7, u8, .pointer (some ⟨b9, 0, none⟩), u10, u11, u12, u13, u14, u15, u16, v17, v18, v19, v20, v21, v22, v23, v24, v25, v26, v27, v28, v29, v30, v31, .bool b, u33, u34, u35, u36, u37, u38, u39, u40, u41, u42, u43, u44, u45, u46, u47, u48, u49, u50, u51, u52, u53, u54, u55, u56], []⟩ wx) :
    Code.wp Tryz.prog (regLo 7) (Exit.then K Q) ⟨#[u0, u1, u2, .pointer (some ⟨b3, 0, none⟩), u4, u5, u6, u7, u8, .pointer (some ⟨b9, 0, none⟩), u10, u11, u12, u13, u14, u15, u16, u17, u18, u19, u20, u21, u22, u23, u24, u25, u26, u27, u28, u29, u30, u31, u32, u33, u34, u35, u36, u37, u38, u39, u40, u41, u42, u43, u44, u45, u46, u47, u48, u49, u50, u51, u52, u53, u54, u55, u56], []⟩ w := by
  have HK := Lib.hid hK
  clear hK
  conv => arg 2; whnf
  have r0 := cell_regrown h0
  have r1 := cell_regrown h1
  have r8 := cell_regrown h8
  have r9 := cell_regrown h9
  have q0 := cell_regrown g0
  have q1 := cell_regrown g1
  have q2 := cell_regrown g2
  have hs1 := el_split ⟨site, seq, 0⟩ ⟨is, iq, ii⟩
  have hs2 := el_split ⟨of, num, 0⟩ ⟨is, iq, ii⟩
  simp only at hs1 hs2
  have HFIN : ∀ dq osq, Below w.heap.size w (Sort.grow (redrawn w dq) osq) := fun dq osq => below_regrown w dq osq
  rcases hs1 with ⟨he, z0, z1, z2⟩ | ⟨hne, hz⟩
  · subst z0 z1 z2
    have hbt : b = true := by rw [← hb]; simp
    subst hbt
    clear hb hs2 he
    refine wp_region_quiet_below (by kernel_rfl) (by kernel_rfl) ?_
    repeat (first | go_big_quiet_step (first | exact Calls.regrown_of (uName_any _ _ _)) | quiet_step (first | exact Calls.regrown_of (uName_any _ _ _)))
    refine wpQuiet_nil ?_
    intro _ hw'
    obtain ⟨⟨dq, osq⟩, hw''⟩ := hw'
    subst hw''
    exact HK.out _ _ _ _ _ _ _ _ _ _ _ _ _ _ _ _ (HFIN dq osq)
  · have hs1b : decide ((⟨site, seq, 0⟩ : El) = ⟨is, iq, ii⟩) = false := decide_eq_false hne
    rw [hs1b, Bool.false_or] at hb
    rcases hs2 with ⟨he2, y0, y1, y2⟩ | ⟨hne2, hy⟩
    · have hbt : b = true := by rw [← hb]; exact decide_eq_true he2
      subst hbt
      clear hb he2 hne hs1b
      subst y0 y1 y2
      rcases hz with hz | ⟨hz, hz2⟩ | ⟨hz, hz2, hz3⟩
      all_goals
        refine wp_region_quiet_below (by kernel_rfl) (by kernel_rfl) ?_
        repeat (first | go_big_quiet_step (first | exact Calls.regrown_of (uName_any _ _ _)) | quiet_step (first | exact Calls.regrown_of (uName_any _ _ _)))
        refine wpQuiet_nil ?_
        intro _ hw'
        obtain ⟨⟨dq, osq⟩, hw''⟩ := hw'
        subst hw''
        exact HK.out _ _ _ _ _ _ _ _ _ _ _ _ _ _ _ _ (HFIN dq osq)
    · have hbt : b = false := by rw [← hb]; exact decide_eq_false hne2
      subst hbt
      clear hb hne hne2 hs1b
      rcases hz with hz | ⟨hz, hz2⟩ | ⟨hz, hz2, hz3⟩ <;> rcases hy with hy | ⟨hy, hy2⟩ | ⟨hy, hy2, hy3⟩
      all_goals
        refine wp_region_quiet_below (by kernel_rfl) (by kernel_rfl) ?_
        repeat (first | go_big_quiet_step (first | exact Calls.regrown_of (uName_any _ _ _)) | quiet_step (first | exact Calls.regrown_of (uName_any _ _ _)))
        refine wpQuiet_nil ?_
        intro _ hw'
        obtain ⟨⟨dq, osq⟩, hw''⟩ := hw'
        subst hw''
        exact HK.out _ _ _ _ _ _ _ _ _ _ _ _ _ _ _ _ (HFIN dq osq)
set_option maxRecDepth 100000 in
set_option maxHeartbeats 8000000 in
theorem uLeft_any (a : Option Addr) (cap : Nat) (l : List OpR) (it : El) (w : World) (h : OpsAt w a l) (hr : rowP (OpR.os l)) :
    Calls Tryz.prog 23 #[.slice a l.length cap, it.v] w (LeftPost (leftP it (OpR.os l)) w) := by
  obtain ⟨i0, hq0, hz0, hz1, hz2⟩ := info_parts Tryz.infoOp
  have HH := Lib.hid h
  have HR := Lib.hid hr
  have hl40 : l.length ≤ 40 := by have := hr.1; rw [olen] at this; exact this
  obtain ⟨n, hn⟩ : ∃ n, l.length = n := ⟨_, rfl⟩
  have HN := Lib.hid hn
  rw [hn] at hl40 ⊢
  clear h hr hn
  have hmk1 := run_makeMap (P := Tryz.prog) (t := 97)
  obtain ⟨is, iq, ii⟩ := it
  unfold El.v
  simp only
  go_enter Tryz.func23, Tryz.ntmps23
  go_wp2_with fail
  have HW3 := Lib.hid (show LoSt w ⟨is, iq, ii⟩ [] (fun _ => 0) 0 (((w.alloc (.cells #[.int .i64 is, .int .i64 iq, .int .i64 ii] 31)).alloc (.cells #[.int .i64 0, .int .i64 0, .int .i64 0, .int .i64 0, .int .i64 0, .int .i64 0, .int .i64 0, .int .i64 0, .int .i64 0] 96)).alloc (.map #[] 0)) from by
    have e1 : (w.alloc (.cells #[.int .i64 is, .int .i64 iq, .int .i64 ii] 31)).heap.size = w.heap.size + 1 := by simp
    have e2 : ((w.alloc (.cells #[.int .i64 is, .int .i64 iq, .int .i64 ii] 31)).alloc (.cells #[.int .i64 0, .int .i64 0, .int .i64 0, .int .i64 0, .int .i64 0, .int .i64 0, .int .i64 0, .int .i64 0, .int .i64 0] 96)).heap.size = w.heap.size + 1 + 1 := by simp
    have hm := MapE.made ((w.alloc (.cells #[.int .i64 is, .int .i64 iq, .int .i64 ii] 31)).alloc (.cells #[.int .i64 0, .int .i64 0, .int .i64 0, .int .i64 0, .int .i64 0, .int .i64 0, .int .i64 0, .int .i64 0, .int .i64 0] 96))
    rw [e2] at hm
    refine ⟨?_, ⟨_, (((Below.refl _ _).alloc (Nat.le_refl _) _).block _ (by rw [e2]; omega)).trans (two_new _ _ _), fun s hs => ?_⟩, ⟨_, hm, fun e => rfl⟩, (((Below.refl _ _).alloc (Nat.le_refl _) _).alloc (by simp) _).alloc (by simp; omega) _, by simp⟩
    · exact ((((Below.refl (w.alloc (.cells #[.int .i64 is, .int .i64 iq, .int .i64 ii] 31)).heap.size _).alloc (Nat.le_refl _) _).alloc (by simp) _).block w.heap.size (by simp)).trans (heap_alloc_new _ _)
    · have h8 : s = 0 ∨ s = 1 ∨ s = 2 ∨ s = 3 ∨ s = 4 ∨ s = 5 ∨ s = 6 ∨ s = 7 ∨ s = 8 := by omega
      rcases h8 with rfl | rfl | rfl | rfl | rfl | rfl | rfl | rfl | rfl <;> rfl)
  clear hmk1
  generalize ((w.alloc (.cells #[.int .i64 is, .int .i64 iq, .int .i64 ii] 31)).alloc (.cells #[.int .i64 0, .int .i64 0, .int .i64 0, .int .i64 0, .int .i64 0, .int .i64 0, .int .i64 0, .int .i64 0, .int .i64 0] 96)).alloc (.map #[] 0) = W3 at *
  obtain ⟨it, hit⟩ : ∃ it : El, (⟨is, iq, ii⟩ : El) = it := ⟨_, rfl⟩
  have HIT := Lib.hid hit
  rw [hit] at HW3 ⊢
  clear hit
  go_loopw [5, 13] (fun s5 s13 wr => ∃ (k : Nat) (L : List OpR), s13 = .int .i64 k ∧ k ≤ n ∧ L.length ≤ k ∧ OwnO (w.heap.size + 3) wr s5 L ∧ OpR.os L = (loF it ((OpR.os l).take k)).1 ∧ LoSt w it (OpR.os L) (loF it ((OpR.os l).take k)).2 k wr) (fun _ s13 _ => n - (RowKit.intOf s13).toNat)
  case atStart => exact ⟨0, [], rfl, Nat.zero_le _, Nat.le_refl _, OwnO.nil _ _, by rw [List.take_zero, loF_nil]; rfl, by rw [List.take_zero, loF_nil]; exact HW3.out⟩
  case round =>
    clear HW3
    obtain ⟨k, L, rfl, hk, hL, ho, hos, hst⟩ := hrel
    have HO := Lib.hid ho
    have HOS := Lib.hid hos
    have HST := Lib.hid hst
    have HLK := Lib.hid hL
    clear ho
    by_cases hlt : k < n
    · have hkl : k < l.length := by rw [HN.out]; exact hlt
      obtain ⟨b, off, rfl, hbb, c0, c1, c2, c3, c4, c5, c6, c7, c8, c9, ca⟩ := (HH.out.below hst.below).cells k hkl
      have hokk := (tk_goes (tk_at HR.out.2 hkl)).1
      have HNF := Lib.hid (names_fit hokk)
      have hgo := (gone_ok hokk).1
      have hnm := okOp_name hokk
      have HOA := Lib.hid (HH.out.op k hkl)
      have HTK := Lib.hid (show loF it ((OpR.os l).take (k + 1)) = loStep it (loF it ((OpR.os l).take k)) l[k].o from by rw [os_take_snoc hkl, loF_snoc])
      clear hokk
      generalize hST : loF it ((OpR.os l).take k) = st at *
      obtain ⟨R, F⟩ := st
      simp only at hos hst HOS HST HTK
      subst hos
      clear hST HOS
      generalize l[k] = r at *
      clear hkl
      obtain ⟨⟨site, seq, kind, ⟨es, eq, ei⟩, text, gone, of, num, gen⟩, ra, rc⟩ := r
      simp only at c0 c1 c2 c3 c4 c5 c6 c7 c8 c9 ca HNF hgo hnm HOA HTK
      obtain ⟨sn, rfl⟩ : ∃ sn : Nat, site = (sn : Int) := ⟨site.toNat, by omega⟩
      have hsn : sn < 9 := by omega
      have HBX := Lib.hid (BoxO.new wr ⟨(sn : Int), seq, kind, ⟨es, eq, ei⟩, text, gone, of, num, gen⟩ ra rc)
      unfold OpD.obj at HBX
      simp only at HBX
      have hba : Below wr.heap.size wr (wr.alloc (.cells #[.int .i64 (sn : Int), .int .i64 seq, .int .i64 kind, .int .i64 es, .int .i64 eq, .int .i64 ei, .string text, .slice ra gone.length rc, .int .i64 of, .int .i64 num, .int .i64 gen] 33)) := (Below.refl wr.heap.size wr).alloc (Nat.le_refl _) _
      have HSA := Lib.hid (HST.out.next hba)
      have HOWA := Lib.hid (HO.out.below hba)
      have hz3 := hst.big
      clear hba hst
      go_upto_region 7 with fail
      generalize hwa : wr.alloc (.cells #[.int .i64 (sn : Int), .int .i64 seq, .int .i64 kind, .int .i64 es, .int .i64 eq, .int .i64 ei, .string text, .slice ra gone.length rc, .int .i64 of, .int .i64 num, .int .i64 gen] 33) = wa at *
      have hb9 : w.heap.size + 3 ≤ wr.heap.size := hz3
      obtain ⟨k0, k1, k2, _, _⟩ := cells3 HSA.out.box
      have HITE := Lib.hid (show is = it.s ∧ iq = it.q ∧ ii = it.i from by rw [← HIT.out]; exact ⟨rfl, rfl, rfl⟩)
      obtain ⟨db, hdb⟩ : ∃ d, dropE it ⟨(sn : Int), seq, kind, ⟨es, eq, ei⟩, text, gone, of, num, gen⟩ = d := ⟨_, rfl⟩
      refine lo_r7 wa db HBX.out.c0 HBX.out.c1 HBX.out.c8 HBX.out.c9 HBX.out.lt k0 k1 k2 (by have := HSA.out.big; omega) (by rw [← hdb]; unfold dropE; obtain ⟨s1, q1, i1⟩ := it; rfl) ?_
      clear k0 k1 k2
      intro v17 v18 v19 v20 v21 v22 v23 v24 v25 v26 v27 v28 v29 v30 v31 wb hwb
      have HSB := Lib.hid (HSA.out.next hwb)
      have HOWB := Lib.hid (HOWA.out.below hwb)
      have HBXB := Lib.hid (HBX.out.step hwb)
      have hlb : wr.heap.size < wb.heap.size := HBXB.out.lt
      clear hwb HSA HOWA HBX hwa
      cases db
      · obtain ⟨kc, kf⟩ := HSB.out.cell sn hsn
        have p0 := HBXB.out.c0
        simp only at p0
        have hcR : cnt (OpR.os L) (sn : Int) ≤ 40 := Nat.le_trans (cnt_le_len _ _) (by rw [olen]; omega)
        have HSC := Lib.hid (HSB.out.count ⟨(sn : Int), seq, kind, ⟨es, eq, ei⟩, text, gone, of, num, gen⟩ sn hsn rfl)
        have hkc := kp_set wb (w.heap.size + 1) sn (.int .i64 ((cnt (OpR.os L) (sn : Int) : Int) + 1))
        have HOWC := Lib.hid (HOWB.out.kp hkc (by omega))
        have HBXC := Lib.hid (HBXB.out.kp hkc (by omega))
        have hlc : wr.heap.size < (wb.setCell ⟨w.heap.size + 1, sn, none⟩ (.int .i64 ((cnt (OpR.os L) (sn : Int) : Int) + 1))).heap.size := HBXC.out.lt
        go_upto_region 9 with fail
        clear kc kf p0 hkc hlc
        generalize wb.setCell ⟨w.heap.size + 1, sn, none⟩ (.int .i64 ((cnt (OpR.os L) (sn : Int) : Int) + 1)) = wc at *
        have hce : cnt (OpR.os L ++ [(⟨(sn : Int), seq, kind, ⟨es, eq, ei⟩, text, gone, of, num, gen⟩ : OpD)]) (sn : Int) = cnt (OpR.os L) (sn : Int) + 1 := by rw [cnt_snoc, if_pos rfl]
        have HCE := Lib.hid hce
        have hfn := HNF.out.1
        simp only at hfn
        obtain ⟨kc, kf⟩ := HSC.out.cell sn hsn
        rw [hce] at kc
        have p0 := HBXC.out.c0
        have p1 := HBXC.out.c1
        have pl := HBXC.out.lt
        simp only at p0 p1
        have hsi : (sn : Int) < 9 := by omega
        go_region_law (first
          | (go_simp; go_at_call 19; go_loud (refine (uName_any _ _ _).mono ?_; rintro x5 w5 ⟨rfl, hb5⟩; have hbb := (Below.refl wc.heap.size wc).drew.trans (hb5.mono (Nat.le_refl _)); have hs5 := HSC.out.next hbb; obtain ⟨m5, mf5⟩ := hs5.cell sn hsn; rw [hce] at m5; have hbx5 := HBXC.out.step hbb; have n0 := hbx5.c0; have n1 := hbx5.c1; have nl := hbx5.lt; simp only at n0 n1; obtain ⟨w6, hr6, hs6, hk6⟩ := hs5.put (by omega) ⟨(sn : Int), seq, 0⟩ hfn ((cnt (OpR.os L) (sn : Int) : Int) + 1); unfold El.v at hr6; simp only at hr6; have HS6 := Lib.hid hs6; have HOW6 := Lib.hid ((HOWC.out.below hbb).kp hk6 (by omega)); have HBX6 := Lib.hid (hbx5.kp hk6 (by have := hb9; omega)); clear hb5 hbb hs5 hbx5 hs6 hk6))
          | fail)
        all_goals
          clear kc kf p0 p1 pl
          obtain ⟨V6, hm6, hV6⟩ := HS6.out.map
          have HRN := Lib.hid (uRenamed_any ⟨(sn : Int), seq, kind, ⟨es, eq, ei⟩, text, gone, of, num, gen⟩ ra rc (w.heap.size + 1 + 1) (k + 1) V6 _ w6 (HOA.out.below HS6.out.below) (by simp only; omega) hm6 hV6 HNF.out)
          clear hm6 hV6
          have hput : loF it ((OpR.os l).take (k + 1)) = (OpR.os L ++ [renO (putF F ⟨(sn : Int), seq, 0⟩ ((cnt (OpR.os L) (sn : Int) : Int) + 1)) ⟨(sn : Int), seq, kind, ⟨es, eq, ei⟩, text, gone, of, num, gen⟩], putF F ⟨(sn : Int), seq, 0⟩ ((cnt (OpR.os L) (sn : Int) : Int) + 1)) := by
            rw [HTK.out]
            unfold loStep
            rw [hdb]
            rfl
          have HPUT := Lib.hid hput
          clear hput
          have hgl1 : (renO (putF F ⟨(sn : Int), seq, 0⟩ ((cnt (OpR.os L) (sn : Int) : Int) + 1)) ⟨(sn : Int), seq, kind, ⟨es, eq, ei⟩, text, gone, of, num, gen⟩).gone.length ≤ BIG := by
            unfold renO
            simp only [List.length_map]
            exact HOA.out.len
          have hts1 : (renO (putF F ⟨(sn : Int), seq, 0⟩ ((cnt (OpR.os L) (sn : Int) : Int) + 1)) ⟨(sn : Int), seq, kind, ⟨es, eq, ei⟩, text, gone, of, num, gen⟩).text.size ≤ BIG := HOA.out.size
          have HS6b := Lib.hid (HS6.out.swap (o' := renO (putF F ⟨(sn : Int), seq, 0⟩ ((cnt (OpR.os L) (sn : Int) : Int) + 1)) ⟨(sn : Int), seq, kind, ⟨es, eq, ei⟩, text, gone, of, num, gen⟩) rfl)
          generalize renO (putF F ⟨(sn : Int), seq, 0⟩ ((cnt (OpR.os L) (sn : Int) : Int) + 1)) ⟨(sn : Int), seq, kind, ⟨es, eq, ei⟩, text, gone, of, num, gen⟩ = o1 at *
          generalize putF F ⟨(sn : Int), seq, 0⟩ ((cnt (OpR.os L) (sn : Int) : Int) + 1) = F1 at *
          obtain ⟨s1, q1, k1, ⟨e1, e2, e3⟩, t1, g1, of1, n1, ge1⟩ := o1
          unfold CopyPost OpD.v at HRN
          simp only at HRN hgl1 hts1
          obtain ⟨gl, hgg⟩ : ∃ g, g1.length = g := ⟨_, rfl⟩
          have HGG := Lib.hid hgg
          have HGL := Lib.hid hgl1
          have HSZ := Lib.hid hts1
          rw [hgg] at HRN
          clear hgg hgl1 hts1
          have HM1 := Lib.hid (show L.length + 1 ≤ maxLen from by simp only [maxLen]; omega)
          have HM2 := Lib.hid (show (L.length + 1) * 112 ≤ 140737488355328 from by omega)
          obtain ⟨z0, z1, z2, z3, z4, z5, z6, z7, z8, z9, za⟩ : _ ∧ _ ∧ _ ∧ _ ∧ _ ∧ _ ∧ _ ∧ _ ∧ _ ∧ _ ∧ _ := ⟨HBX6.out.c0, HBX6.out.c1, HBX6.out.c2, HBX6.out.c3, HBX6.out.c4, HBX6.out.c5, HBX6.out.c6, HBX6.out.c7, HBX6.out.c8, HBX6.out.c9, HBX6.out.ca⟩
          simp only at z0 z1 z2 z3 z4 z5 z6 z7 z8 z9 za
          go_wp2_with (first
            | (go_at_call 46; go_loud (refine HRN.out.mono ?_; rintro x5 w7 ⟨a5, cp5, rfl, hown5, hb5⟩; obtain ⟨a6, c6', hv6, hel6, _, _, hnone6⟩ := elems_own (by rw [HGG.out]; exact hown5); rw [HGG.out] at hv6; simp only [Value.slice.injEq] at hv6; obtain ⟨rfl, -, rfl⟩ := hv6; have HE6 := Lib.hid hel6; have HNO6 := Lib.hid hnone6; have HAP5 := Lib.hid (show ∀ ad, a5 = some ad → some ad.block ≠ u5.ownBlock ∧ ad.block < w7.heap.size ∧ w.heap.size + 3 ≤ ad.block from fun ad ha => by subst ha; have h9 := hown5.lt ad.block rfl; refine ⟨fun e2 => ?_, h9.2, by have := HS6b.out.big; omega⟩; have := (HOW6.out.own.lt _ e2.symm).2; omega); have HS7 := Lib.hid (HS6b.out.next hb5); have HO7 := Lib.hid (HOW6.out.below hb5); have hz7 := HS7.out.big; clear hown5 hb5 hel6 hnone6))
            | (at_builtin; go_loud (refine wpList_append_own_at _ rfl _ _ 24 rfl (w.heap.size + 3) 33 i0 (.agg #[.int .i64 0, .int .i64 0, .int .i64 0, .int .i64 0, .int .i64 0, .int .i64 0, .string ⟨#[]⟩, .slice none 0 0, .int .i64 0, .int .i64 0, .int .i64 0]) 11 112 Tryz.underlying24 hq0 hz0 hz1 hz2 rfl (by decide) _ L.length _ rfl (HO7.out.own.alloc _) ⟨w7.heap.size, 0, none⟩ 1 1 (OpR.cs ⟨⟨s1, q1, k1, ⟨e1, e2, e3⟩, t1, g1, of1, n1, ge1⟩, a5, cp5⟩) rfl rfl (by have h9 := cell_op_newR w7 ⟨⟨s1, q1, k1, ⟨e1, e2, e3⟩, t1, g1, of1, n1, ge1⟩, a5, cp5⟩ 33; simp only [HGG.out] at h9; exact h9) (cs_oneR _) HM1.out HM2.out (by simp; omega) ?_; intro v8 w8 hown8 hgrow8 hnil8 hat8; have HB8 := Lib.hid (((Below.refl (w.heap.size + 3) w7).alloc hz7 _).grown hgrow8 (by simp; omega) (fun q hq => own_ge HO7.out.own q hq)); have HS8 := Lib.hid (HS7.out.step HB8.out); have HO8 := Lib.hid (HO7.out.push (r := ⟨⟨s1, q1, k1, ⟨e1, e2, e3⟩, t1, g1, of1, n1, ge1⟩, a5, cp5⟩) ⟨HE6.out, HGL.out, HSZ.out, HNO6.out⟩ HAP5.out hown8 hgrow8 hat8); clear hown8 hgrow8 hnil8 hat8))
            | fail)
          go_roundw
          case rel => exact ⟨k + 1, _, by go_num, by omega, by rw [List.length_append]; show _ + 1 ≤ _; omega, HO8.out, by rw [HPUT.out]; simp [OpR.os], by rw [HPUT.out]; have h9 := HS8.out; simpa [OpR.os] using h9⟩
          case measure => simp [RowKit.intOf]; omega
      · go_wp2_with fail
        go_roundw
        case rel => exact ⟨k + 1, L, by go_num, by omega, by omega, HOWB.out, by rw [HTK.out]; unfold loStep; rw [if_pos hdb], by rw [HTK.out]; unfold loStep; rw [if_pos hdb]; exact ⟨HSB.out.box, HSB.out.cn, (by obtain ⟨V, hm, hV⟩ := HSB.out.map; exact ⟨V, hm.mono (by omega), hV⟩), HSB.out.below, HSB.out.big⟩⟩
        case measure => simp [RowKit.intOf]; omega
    · have h0 : k = n := by omega
      have HFN := Lib.hid (show LeftPost (leftP it (OpR.os l)) w (.returned u5) wr from by
        obtain ⟨a1, c1, hv, hops, hc⟩ := HO.out.ops (by unfold BIG; omega)
        rw [List.take_of_length_le (by rw [olen, HN.out]; omega)] at hos
        have hll : (leftP it (OpR.os l)).length = L.length := by unfold leftP; rw [← hos, olen]
        refine ⟨a1, c1, L, by rw [hll, hv], hops, hos, by rw [hll]; exact hc, HST.out.below⟩)
      clear hos hst
      go_wp2_with fail
      go_ret
      rw [HIT.out]
      exact HFN.out
end Go.Proofs.YtefgoelkdjendaaGreatDoor
