/- package pack: which messages may be; messages as bytes -/
import Derived.Test.YtnkinbobnhdpaaaDoorKMay
namespace Go.Proofs.YtnkinbobnhdpaaaDoor
open Go.RowKit Go.Lib Go.Shelf

theorem all_upto {L : List OpR} {k : Nat} (h : k < L.length) (ha : ((OpR.os L).take k).all okOp = true) (hk : okOp L[k].o = true) : ((OpR.os L).take (k + 1)).all okOp = true := by
  rw [List.take_succ_eq_append_getElem (by rw [os_len]; exact h), List.all_append, ha]
  simp [OpR.os, hk]
theorem all_not {L : List OpR} {k : Nat} (h : k < L.length) (hk : okOp L[k].o = false) : (OpR.os L).all okOp = false := by
  rw [List.all_eq_false]
  exact ⟨L[k].o, List.mem_map.2 ⟨L[k], List.getElem_mem h, rfl⟩, by rw [hk]; simp⟩

set_option maxRecDepth 100000 in
set_option maxHeartbeats 4000000 in
theorem opsMayBe_any (a : Option Addr) (cap : Nat) (L : List OpR) (w : World) (h : OpsAt w a L) : Calls Tryd.prog 94 #[.slice a L.length cap] w (BoB ((OpR.os L).all okOp) w) := by
  have hlen := h.len
  have hbi := big_is
  have H := Lib.hid h
  clear h
  go_enter Tryd.func94, Tryd.ntmps94
  go_wp2
  go_loopw [7] (fun i wr => ∃ k : Nat, k ≤ L.length ∧ i = .int .i64 k ∧ ((OpR.os L).take k).all okOp = true ∧ Below w.heap.size w wr) (fun i _ => L.length - (RowKit.intOf i).toNat)
  case atStart => exact ⟨0, by omega, rfl, by simp, Below.refl _ _⟩
  case round =>
    obtain ⟨k, hk, rfl, hall, hbel⟩ := hrel
    have HA := Lib.hid hall
    clear hall
    by_cases hlt : k < L.length
    · obtain ⟨b, off, ha, hb, c0, c1, c2, c3, c4, c5, c6, c7, c8, c9, ca⟩ := (H.out.below hbel).cells k hlt
      have HOI := Lib.hid (show OpIn wr L[k].o L[k].a from ⟨((H.out.below hbel).op k hlt).gone, ((H.out.below hbel).op k hlt).len, ((H.out.below hbel).op k hlt).size⟩)
      have HCK := Lib.hid (fun (wx : World) (hx : OpIn wx L[k].o L[k].a) => xCheck_any L[k].o L[k].a L[k].cap wx hx)
      have HY := Lib.hid (all_upto hlt HA.out)
      have HNO := Lib.hid (all_not hlt)
      have HB := Lib.hid hbel
      clear hbel
      generalize L[k] = r at *
      obtain ⟨⟨site, seq, kind, ⟨es, eq, ei⟩, text, gone, of, num, gen⟩, ra, rc⟩ := r
      unfold OpD.v at HCK
      simp only at c0 c1 c2 c3 c4 c5 c6 c7 c8 c9 ca HOI HCK HY HNO
      subst ha
      cases hok : okOp ⟨site, seq, kind, ⟨es, eq, ei⟩, text, gone, of, num, gen⟩
      all_goals
        rw [hok] at HCK HY HNO
        go_wp2_with (first
          | (go_at_call 48; refine (HCK.out _ (HOI.out.below (below_al _ _))).mono ?_; rintro e w1 ⟨rfl, hb1⟩; have HB1 := Lib.hid (HB.out.trans (((below_al wr _).trans (hb1.mono (by simp))).mono HB.out.size)); clear hb1 c0 c1 c2 c3 c4 c5 c6 c7 c8 c9 ca)
          | fail)
      · go_ret
        exact ⟨ret_bool (HNO.out trivial).symm, HB1.out⟩
      · go_roundw
        case rel => exact ⟨k + 1, by omega, by go_num, HY.out trivial, HB1.out⟩
        case measure => simp [RowKit.intOf]; omega
    · have HF := Lib.hid (show (OpR.os L).all okOp = true from by have h9 := HA.out; rw [List.take_of_length_le (by rw [os_len]; omega)] at h9; exact h9)
      go_wp2
      go_ret
      exact ⟨ret_bool HF.out.symm, hbel⟩

/-- a message's value, its cells -/
def MsD.v (m : MsD) (a : Option Addr) (cap : Nat) : Value := .agg #[.int .i64 m.kind, .int .i64 m.site, .int .i64 m.nonce, .int .i64 m.known, .int .i64 m.seq, .int .i64 m.err, .slice a m.ops.length cap]
/-- its ops may be read -/
structure MsIn (w : World) (m : MsD) (a : Option Addr) (L : List OpR) : Prop where
  ops : OpsAt w a L
  os : OpR.os L = m.ops
theorem MsIn.below {w w' : World} {m : MsD} {a : Option Addr} {L : List OpR} (h : MsIn w m a L) (hb : Below w.heap.size w w') : MsIn w' m a L := ⟨h.ops.below hb, h.os⟩
theorem MsIn.len {w : World} {m : MsD} {a : Option Addr} {L : List OpR} (h : MsIn w m a L) : m.ops.length = L.length := by rw [← h.os, os_len]

def shp (k : Int) : Shp := if k = 1 then ⟨0, 0, 1, 268435456, 0, 0, 0, 0, 0, 0, 0, 0⟩ else if k = 2 then ⟨1, 8, 1, 268435456, 0, 0, 0, 0, 0, 0, 0, 0⟩ else if k = 3 then ⟨1, 8, 0, 0, 0, 40, 0, 0, 0, 0, 0, 0⟩ else if k = 4 then ⟨1, 8, 0, 0, 0, 40, 0, 0, 0, 0, 1, 1⟩ else if k = 5 then ⟨0, 0, 0, 0, 0, 40, 0, 0, 0, 0, 0, 4⟩ else if k = 6 then ⟨1, 8, 0, 0, 0, 0, 1, 268435456, 1, 8, 0, 0⟩ else ⟨0, 0, 0, 0, 0, 0, 0, 0, 0, 0, 0, 0⟩
def kOk (k : Int) : Bool := decide (1 ≤ k ∧ k ≤ 6)
theorem shape_any (k : Int) (w : World) : Calls Tryd.prog 92 #[.int .i64 k] w (ShPost (shp k) (kOk k) w) := by
  by_cases h1 : k = 1
  · subst h1; exact shape_1 w
  by_cases h2 : k = 2
  · subst h2; exact shape_2 w
  by_cases h3 : k = 3
  · subst h3; exact shape_3 w
  by_cases h4 : k = 4
  · subst h4; exact shape_4 w
  by_cases h5 : k = 5
  · subst h5; exact shape_5 w
  by_cases h6 : k = 6
  · subst h6; exact shape_6 w
  have e1 : shp k = ⟨0, 0, 0, 0, 0, 0, 0, 0, 0, 0, 0, 0⟩ := by unfold shp; rw [if_neg h1, if_neg h2, if_neg h3, if_neg h4, if_neg h5, if_neg h6]
  have e2 : kOk k = false := decide_eq_false (by omega)
  rw [e1, e2]
  exact shape_0 k w h1 h2 h3 h4 h5 h6
theorem btw_z {x : Int} : btw x 0 0 = z0 x := by unfold btw z0; rw [decide_eq_decide]; omega
theorem shp_ok (k site nonce known seq err : Int) (n : Nat) : (kOk k && (shp k).ok site nonce known seq err n) = fieldsOk k site nonce known seq err n := by
  have hn0 : btw (n : Int) 0 0 = decide (n = 0) := by unfold btw; rw [decide_eq_decide]; omega
  have hn1 : btw (n : Int) 1 1 = decide (n = 1) := by unfold btw; rw [decide_eq_decide]; omega
  have hn4 : btw (n : Int) 0 4 = decide (n ≤ 4) := by unfold btw; rw [decide_eq_decide]; omega
  unfold fieldsOk shp Shp.ok kOk
  by_cases h1 : k = 1
  · subst h1; simp only [if_true, btw_z, hn0]; rfl
  by_cases h2 : k = 2
  · subst h2; rw [if_neg h1, if_pos rfl, if_neg h1, if_pos rfl]; simp only [btw_z, hn0]; rfl
  by_cases h3 : k = 3
  · subst h3; rw [if_neg h1, if_neg h2, if_pos rfl, if_neg h1, if_neg h2, if_pos rfl]; simp only [btw_z, hn0]; rfl
  by_cases h4 : k = 4
  · subst h4; rw [if_neg h1, if_neg h2, if_neg h3, if_pos rfl, if_neg h1, if_neg h2, if_neg h3, if_pos rfl]; simp only [btw_z, hn1]; rfl
  by_cases h5 : k = 5
  · subst h5; rw [if_neg h1, if_neg h2, if_neg h3, if_neg h4, if_pos rfl, if_neg h1, if_neg h2, if_neg h3, if_neg h4, if_pos rfl]; simp only [btw_z, hn4]; rfl
  by_cases h6 : k = 6
  · subst h6; rw [if_neg h1, if_neg h2, if_neg h3, if_neg h4, if_neg h5, if_pos rfl, if_neg h1, if_neg h2, if_neg h3, if_neg h4, if_neg h5, if_pos rfl]; simp only [btw_z, hn0]; rfl
  rw [if_neg h1, if_neg h2, if_neg h3, if_neg h4, if_neg h5, if_neg h6, if_neg h1, if_neg h2, if_neg h3, if_neg h4, if_neg h5, if_neg h6, show decide (1 ≤ k ∧ k ≤ 6) = false from decide_eq_false (by omega)]
  rfl
end Go.Proofs.YtnkinbobnhdpaaaDoor
