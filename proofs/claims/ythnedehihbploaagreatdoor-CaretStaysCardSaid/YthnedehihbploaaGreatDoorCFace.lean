import Derived.Test.YthnedehihbploaaGreatDoorDPure
import Derived.Test.YthnedehihbploaaGreatDoorDText
import Derived.Test.YthnedehihbploaaGreatDoorRGo
import Derived.Test.YthnedehihbploaaGreatDoorVEq
import Derived.Test.YthnedehihbploaaGreatDoorZWith
import Derived.Test.YthnedehihbploaaGreatDoorOElem
import Derived.Test.YthnedehihbploaaGreatDoorYCut
/- pure: places that stay -/
namespace Go.Proofs.YthnedehihbploaaGreatDoor

/-- the last one, or the begin -/
def lastE (l : List El) : El := l.getLast?.getD B0
theorem lastE_nil : lastE [] = B0 := rfl
theorem lastE_at {l : List El} {n : Nat} (h : l.length = n + 1) : lastE l = l[n]'(by omega) := by
  have h1 : l.getLast? = l[n]? := by rw [List.getLast?_eq_getElem?, h]; rfl
  unfold lastE
  rw [h1, List.getElem?_eq_getElem (by omega)]
  rfl
/-- how many elements seen begins with that the others have, too -/
def comF (seen : List El) (n : Nat) (e : El) : Nat := if seen[n]? = some e then n + 1 else n
def com (seen all : List El) (k : Nat) : Nat := (all.take k).foldl (comF seen) 0
theorem com_zero (seen all : List El) : com seen all 0 = 0 := by simp [com]
theorem com_succ {seen all : List El} {k : Nat} (h : k < all.length) : com seen all (k + 1) = comF seen (com seen all k) all[k] := by
  unfold com
  rw [List.take_succ_eq_append_getElem h, List.foldl_append]
  rfl
theorem com_le (seen all : List El) : ∀ k, k ≤ all.length → com seen all k ≤ k
  | 0, _ => by rw [com_zero]; omega
  | k + 1, h => by
    have h1 := com_le seen all k (by omega)
    rw [com_succ (by omega)]
    unfold comF
    split <;> omega
theorem com_walk (p : El → Bool) : ∀ (X P Y : List El), X.foldl (comF ((P ++ X ++ Y).filter p)) ((P.filter p).length) = ((P ++ X).filter p).length
  | [], P, Y => by simp
  | x :: X, P, Y => by
    have h1 : comF ((P ++ (x :: X) ++ Y).filter p) ((P.filter p).length) x = ((P ++ [x]).filter p).length := by
      unfold comF
      by_cases hp : p x = true
      · rw [if_pos]
        · simp [hp]
        · rw [List.append_assoc, List.filter_append, List.getElem?_append_right (Nat.le_refl _), Nat.sub_self]
          simp [hp]
      · rw [if_neg]
        · simp [hp]
        · intro hs
          exact hp (List.mem_filter.1 (List.mem_of_getElem? hs)).2
    have h2 := com_walk p X (P ++ [x]) Y
    have e1 : P ++ [x] ++ X ++ Y = P ++ (x :: X) ++ Y := by simp
    rw [e1] at h2
    rw [List.foldl_cons, h1, h2]
    simp
theorem com_filter (p : El → Bool) (A : List El) (k : Nat) : com (A.filter p) A k = ((A.take k).filter p).length := by
  have h := com_walk p (A.take k) [] (A.drop k)
  rw [List.nil_append, List.take_append_drop] at h
  exact h
theorem com_cut (seen A : List El) (k : Nat) : com seen (A.take k) k = com seen A k := by
  unfold com
  rw [List.take_take, Nat.min_self]
def wroteE (D : List OpD) (e : El) : Prop := e = B0 ∨ e ∈ ordE D
/-- how many elements up to one -/
def upE (D : List OpD) (e : El) : Nat := (atI (ordE D) e + 1).toNat
/-- how many visible elements up to one -/
def plE (D : List OpD) (e : El) : Nat := (((ordE D).take (upE D e)).filter (vis D)).length
theorem plE_com (D : List OpD) (e : El) : com (visE D) ((ordE D).take (upE D e)) (upE D e) = plE D e := by
  rw [com_cut]
  exact com_filter (vis D) (ordE D) (upE D e)
theorem plE_le (D : List OpD) (e : El) : plE D e ≤ (visE D).length := by
  unfold plE visE
  exact (List.Sublist.filter _ (List.take_sublist _ _)).length_le
theorem atI_lt {l : List El} {e : El} (h : e ∈ l) : atI l e < l.length := by
  unfold atI
  rw [if_pos h]
  have := List.findIdx_lt_length_of_exists (p := fun x => decide (x = e)) ⟨e, h, by simp⟩
  omega
theorem b0_not {D : List OpD} (h : okRow D) : B0 ∉ ordE D := fun hm => by
  obtain ⟨_, _, _, _, _, h2⟩ := ord_edit h hm
  exact absurd h2 (by decide)
theorem up_begin {D : List OpD} (h : okRow D) : upE D B0 = 0 := by
  unfold upE
  rw [atI_neg (b0_not h)]
  rfl
theorem pl_begin {D : List OpD} (h : okRow D) : plE D B0 = 0 := by
  unfold plE
  rw [up_begin h]
  simp
theorem up_at {D : List OpD} {e : El} (h : e ∈ ordE D) : (upE D e : Int) = atI (ordE D) e + 1 ∧ 1 ≤ upE D e ∧ upE D e ≤ (ordE D).length := by
  have h1 := atI_pos h
  have h2 := atI_lt h
  unfold upE
  omega
theorem begin_B0 {e : El} (h : e.begin = true) : e = B0 := (begin_iff e).1 h
theorem wrote_dec (D : List OpD) (e : El) : wroteE D e ∨ (e ∉ ordE D ∧ e.begin = false) := by
  by_cases h : e ∈ ordE D
  · exact .inl (.inr h)
  · by_cases hb : e.begin = true
    · exact .inl (.inl (begin_B0 hb))
    · exact .inr ⟨h, by simpa using hb⟩
open Classical in
noncomputable def plN (D : List OpD) (e : El) : Int := if wroteE D e then (plE D e : Int) else 0
open Classical in
noncomputable def plR (D : List OpD) (e : El) : Int := if wroteE D e then 0 else 3
theorem pl_yes {D : List OpD} {e : El} (h : wroteE D e) : plN D e = (plE D e : Int) ∧ plR D e = 0 := by
  unfold plN plR
  rw [if_pos h, if_pos h]
  exact ⟨rfl, rfl⟩
theorem pl_no {D : List OpD} {e : El} (h : ¬ wroteE D e) : plN D e = 0 ∧ plR D e = 3 := by
  unfold plN plR
  rw [if_neg h, if_neg h]
  exact ⟨rfl, rfl⟩
/-- the element ahead of a place -/
def setN (D : List OpD) (at_ : Int) : Int := if 0 ≤ at_ ∧ at_ ≤ ((visE D).length : Int) then 0 else 2
def setE (D : List OpD) (at_ : Int) : El := if 0 ≤ at_ ∧ at_ ≤ ((visE D).length : Int) then lastE ((visE D).take at_.toNat) else B0
end Go.Proofs.YthnedehihbploaaGreatDoor

/- package caret: last, isBegin, common, upTo, Set, Place, Near -/
namespace Go.Proofs.YthnedehihbploaaGreatDoor
open Go.RowKit Go.Lib Go.Sort

theorem cells3 {w : World} {b : Nat} {t : TypeId} {c0 c1 c2 : Value} (h : w.heap[b]? = some (.cells #[c0, c1, c2] t (0, 0))) :
    w.cell? ⟨b, 0, none⟩ = some c0 ∧ w.cell? ⟨b, 1, none⟩ = some c1 ∧ w.cell? ⟨b, 2, none⟩ = some c2 ∧ (∀ c, w.frozen? ⟨b, c, none⟩ = false) ∧ b < w.heap.size := by
  refine ⟨?_, ?_, ?_, fun c => ?_, (Array.getElem?_eq_some_iff.1 h).1⟩
  all_goals first | (simp [World.cell?, h]; done) | (simp [World.frozen?, h])
theorem set3 {w w0 : World} {B b : Nat} (hb : Below B w w0) (hg : B ≤ b) (v0 v1 v2 : Value) : Below B w (((w0.setCell ⟨b, 0, none⟩ v0).setCell ⟨b, 1, none⟩ v1).setCell ⟨b, 2, none⟩ v2) := by
  iterate 3 (refine Below.setCell ?_ hg _)
  exact hb
theorem elems_cut {w : World} {a : Option Addr} {l : List El} (h : ElemsAt w a l) (k : Nat) : ElemsAt w a (l.take k) :=
  ⟨fun j hj => by
    have h1 : j < l.length := by rw [List.length_take] at hj; omega
    rw [List.getElem_take]
    exact h.cell j h1⟩
def ElPost (x : El) (w : World) (e : Ending) (w' : World) : Prop := e = .returned (.agg #[.int .i64 x.s, .int .i64 x.q, .int .i64 x.i]) ∧ Below w.heap.size w w'
def ElErr (x : El) (n : Int) (w : World) (e : Ending) (w' : World) : Prop := e = .returned (.tuple #[.agg #[.int .i64 x.s, .int .i64 x.q, .int .i64 x.i], .int .i64 n]) ∧ Below w.heap.size w w'
set_option maxRecDepth 100000 in
set_option maxHeartbeats 1000000 in
theorem cLast_any (a : Option Addr) (cap n : Nat) (l : List El) (w : World) (h : ElemsAt w a l) (hn : l.length = n) (hl : n ≤ 1000000) : Calls Tryz.prog 55 #[.slice a n cap] w (ElPost (lastE l) w) := by
  have HB0 := Lib.hid (show Below w.heap.size w (w.alloc (.cells #[.int .i64 0, .int .i64 0, .int .i64 0] 37)) from (Below.refl _ _).alloc (Nat.le_refl _) _)
  obtain ⟨p0, p1, p2, pf, pl⟩ := cells3 (heap_alloc_new w (.cells #[.int .i64 0, .int .i64 0, .int .i64 0] 37))
  have hx := h.below HB0.out
  clear h
  cases n with
  | zero =>
    have h0 : l = [] := List.eq_nil_of_length_eq_zero hn
    subst h0
    rw [lastE_nil]
    clear hx hn hl
    go_enter Tryz.func55, Tryz.ntmps55
    go_wp2_with fail
    refine bodyPost_ret (v := .agg #[.int .i64 0, .int .i64 0, .int .i64 0]) (by simp [results, Tryz.results55, go_sem, p0, p1, p2]) rfl ⟨rfl, ?_⟩
    exact HB0.out
  | succ m =>
    have hml : m < l.length := by omega
    obtain ⟨b, off, rfl, hbb, x0, x1, x2⟩ := hx.cell m hml
    rw [lastE_at hn]
    generalize l[m] = e at *
    obtain ⟨s, q, i⟩ := e
    simp only at x0 x1 x2
    have hwm : IntKind.i64.wrap ((m : Int) + 1 - 1) = (m : Int) := by rw [IntKind.wrap_i64]; omega
    have hmm : ((m : Int) + 1 - 1) = (m : Int) := by omega
    have hz2 : ¬ ((m : Int) + 1 = 0) := by omega
    have hz3 : (((m : Int) + 1) == 0) = false := by simp; omega
    have hl2 : (m : Int) ≤ 1000000 := by omega
    clear hx hn hml hl
    go_enter Tryz.func55, Tryz.ntmps55
    go_wp2_with fail
    refine bodyPost_ret (v := .agg #[.int .i64 s, .int .i64 q, .int .i64 i]) (by simp [results, Tryz.results55, go_sem]) rfl ⟨rfl, ?_⟩
    exact (Below.refl _ _).alloc (Nat.le_refl _) _
set_option maxRecDepth 100000 in
set_option maxHeartbeats 1000000 in
theorem cBegin_any (e : El) (w : World) : Calls Tryz.prog 88 #[e.v] w (BoB e.begin w) := by
  have HB0 : RowKit.Hid (Below w.heap.size w (w.alloc (.cells #[.int .i64 e.s, .int .i64 e.q, .int .i64 e.i] 37))) := Lib.hid ((Below.refl _ _).alloc (Nat.le_refl _) _)
  have hX := BoxE.new w e
  have hsp := el_split e B0
  have hbe : e.begin = decide (e = B0) := by
    rw [Bool.eq_iff_iff, begin_iff, decide_eq_true_eq]
  rw [hbe]
  have y0 := hX.c0
  have y1 := hX.c1
  have y2 := hX.c2
  have yl := hX.lt
  clear hX hbe
  unfold B0 at hsp
  obtain ⟨s, q, i⟩ := e
  unfold El.v
  simp only at y0 y1 y2 yl hsp HB0 ⊢
  rcases hsp with ⟨he, z0, z1, z2⟩ | ⟨hne, hz⟩
  · clear he
    subst z0
    subst z1
    subst z2
    go_enter Tryz.func88, Tryz.ntmps88
    go_wp2
    go_ret
    exact ⟨rfl, HB0.out⟩
  · have HNE := Lib.hid (show decide ((⟨s, q, i⟩ : El) = B0) = false from decide_eq_false hne)
    rw [HNE.out]
    clear hne
    rcases hz with z0 | ⟨z0, z1⟩ | ⟨z0, z1, z2⟩
    all_goals
      try subst z0
      try subst z1
      go_enter Tryz.func88, Tryz.ntmps88
      go_wp2
      go_ret
      exact ⟨rfl, HB0.out⟩
set_option maxRecDepth 100000 in
set_option maxHeartbeats 4000000 in
theorem cCommon_any (a b : Option Addr) (ca cb na nb : Nat) (A S : List El) (w : World) (hA : ElemsAt w a A) (hS : ElemsAt w b S) (hna : A.length = na) (hnb : S.length = nb) (hl : na ≤ 1000000) (hl2 : nb ≤ 1000000) :
    Calls Tryz.prog 89 #[.slice a na ca, .slice b nb cb] w (IntB (com S A na) w) := by
  have HA := Lib.hid hA
  have HS := Lib.hid hS
  have HNA := Lib.hid hna
  have HNB := Lib.hid hnb
  clear hA hS hna hnb
  go_enter Tryz.func89, Tryz.ntmps89
  go_wp2_with fail
  go_loopw [5, 10] (fun s5 s10 wr => ∃ k : Nat, s10 = .int .i64 k ∧ k ≤ na ∧ s5 = .int .i64 (com S A k) ∧ Below w.heap.size w wr) (fun _ s10 _ => na - (RowKit.intOf s10).toNat)
  case atStart => exact ⟨0, rfl, Nat.zero_le _, by rw [com_zero]; rfl, Below.refl _ _⟩
  case round =>
    obtain ⟨k, rfl, hk, rfl, hb⟩ := hrel
    have HB := Lib.hid hb
    by_cases hlt : k < na
    · have hka : k < A.length := by rw [HNA.out]; exact hlt
      have hsu := com_succ (seen := S) hka
      have hle := com_le S A k (by omega)
      unfold comF at hsu
      generalize com S A k = n at *
      obtain ⟨b1, o1, rfl, hb1, x0, x1, x2⟩ := (HA.out.below hb).cell k hka
      by_cases hn : n < nb
      · have hns : n < S.length := by rw [HNB.out]; exact hn
        obtain ⟨b2, o2, rfl, hb2, y0, y1, y2⟩ := (HS.out.below hb).cell n hns
        have hsp := el_split S[n] A[k]
        rw [List.getElem?_eq_getElem hns] at hsu
        generalize S[n] = y at *
        generalize A[k] = x at *
        obtain ⟨ys, yq, yi⟩ := y
        obtain ⟨xs, xq, xi⟩ := x
        simp only at x0 x1 x2 y0 y1 y2 hsp
        have hba := (Below.refl wr.heap.size wr).alloc (Nat.le_refl _) (.cells #[.int .i64 xs, .int .i64 xq, .int .i64 xi] 37)
        have HBA := Lib.hid (HB.out.trans (hba.mono HB.out.size))
        have hX := BoxE.new wr ⟨xs, xq, xi⟩
        have z0 := hX.c0
        have z1 := hX.c1
        have z2 := hX.c2
        have zl := hX.lt
        have v0 := (hba.cell (p := ⟨b2, o2 + n * 3, none⟩) hb2).trans y0
        have v1 := (hba.cell (p := ⟨b2, o2 + n * 3 + 1, none⟩) hb2).trans y1
        have v2 := (hba.cell (p := ⟨b2, o2 + n * 3 + 2, none⟩) hb2).trans y2
        have vl := Nat.lt_of_lt_of_le hb2 hba.size
        have hn1 : decide ((n : Int) < (nb : Int)) = true := decide_eq_true (by omega)
        have hn2 : (n : Int) < (nb : Int) := by omega
        have hn0 : (0 : Int) ≤ (n : Int) := by omega
        simp only at z0 z1 z2
        clear hX hba hka hns hb
        rcases hsp with ⟨he, e0, e1, e2⟩ | ⟨hne, hz⟩
        · rw [he, if_pos rfl] at hsu
          have HSU := Lib.hid hsu
          clear hsu he
          subst e0
          subst e1
          subst e2
          go_upto_region 5 with fail
          clear x0 x1 x2 y0 y1 y2
          generalize wr.alloc (.cells #[.int .i64 ys, .int .i64 yq, .int .i64 yi] 37) = wu at *
          go_quiet (fail)
          go_wp2
          go_roundw
          case rel => exact ⟨k + 1, by go_num, by omega, by rw [HSU.out]; go_num, HBA.out.trans ((Same.drewN wu nq).below _)⟩
          case measure => simp [RowKit.intOf]; omega
        · rw [if_neg (fun h => hne (Option.some.inj h))] at hsu
          have HSU := Lib.hid hsu
          clear hsu hne
          rcases hz with e0 | ⟨e0, e1⟩ | ⟨e0, e1, e2⟩
          all_goals
            try subst e0
            try subst e1
            go_upto_region 5 with fail
            clear x0 x1 x2 y0 y1 y2
            generalize wr.alloc (.cells #[.int .i64 _, .int .i64 _, .int .i64 _] 37) = wu at *
            go_quiet (fail)
            go_wp2
            go_roundw
            case rel => exact ⟨k + 1, by go_num, by omega, by rw [HSU.out], HBA.out.trans ((Same.drewN wu nq).below _)⟩
            case measure => simp [RowKit.intOf]; omega
      · rw [if_neg (fun h => by have := (List.getElem?_eq_some_iff.1 h).1; rw [HNB.out] at this; exact hn this)] at hsu
        have HSU := Lib.hid hsu
        generalize A[k] = x at *
        obtain ⟨xs, xq, xi⟩ := x
        simp only at x0 x1 x2
        have hba := (Below.refl wr.heap.size wr).alloc (Nat.le_refl _) (.cells #[.int .i64 xs, .int .i64 xq, .int .i64 xi] 37)
        have HBA := Lib.hid (HB.out.trans (hba.mono HB.out.size))
        have hn1 : decide ((n : Int) < (nb : Int)) = false := decide_eq_false (by omega)
        clear hsu hba hka hb
        go_upto_region 5 with fail
        clear x0 x1 x2
        generalize wr.alloc (.cells #[.int .i64 xs, .int .i64 xq, .int .i64 xi] 37) = wu at *
        go_quiet (fail)
        go_wp2
        go_roundw
        case rel => exact ⟨k + 1, by go_num, by omega, by rw [HSU.out], HBA.out.trans ((Same.drewN wu nq).below _)⟩
        case measure => simp [RowKit.intOf]; omega
    · have h0 : k = na := by omega
      subst h0
      clear hb
      go_wp2
      go_ret
      exact ⟨rfl, HB.out⟩
/-- what upTo tells: the visible ones up to an element -/
def CUpPost (V : List El) (n : Nat) (w : World) (e : Ending) (w' : World) : Prop := ∃ a c, e = .returned (.tuple #[.slice a n c, .int .i64 0]) ∧ ElemsAt w' a (V.take n) ∧ Below w.heap.size w w'
def CUpNo (n : Int) (w : World) (e : Ending) (w' : World) : Prop := e = .returned (.tuple #[.slice none 0 0, .int .i64 n]) ∧ Below w.heap.size w w'
theorem ord_le200 {L : List OpD} (hr : rowP L) : (ordE L).length ≤ 200 := by
  have h1 := (row_inv hr.2 _ (Nat.le_refl _)).len
  rw [List.take_length] at h1
  have h2 := row_tot hr.2
  unfold ordE
  rw [List.length_map]
  omega
set_option maxRecDepth 100000 in
set_option maxHeartbeats 2000000 in
theorem cUp_bad (a : Option Addr) (cap : Nat) (l : List OpR) (e : El) (w : World) (h : OpsAt w a l) (hr : ¬ rowP (OpR.os l)) : Calls Tryz.prog 56 #[.slice a l.length cap, e.v] w (CUpNo 1 w) := by
  have HO := Lib.hid (fun wx (hx : Below w.heap.size w wx) => tOrder_bad a cap l wx (h.below hx) hr)
  have HB0 : RowKit.Hid (Below w.heap.size w (w.alloc (.cells #[.int .i64 e.s, .int .i64 e.q, .int .i64 e.i] 37))) := Lib.hid ((Below.refl _ _).alloc (Nat.le_refl _) _)
  unfold OrdNo at HO
  generalize l.length = n at *
  clear h hr
  unfold El.v
  go_enter Tryz.func56, Tryz.ntmps56
  go_wp2_with (first | (go_at_call 70; refine (HO.out _ HB0.out).mono ?_; rintro x1 w1 ⟨rfl, hb1⟩; have HB1 := Lib.hid (HB0.out.trans (hb1.mono HB0.out.size)); clear hb1) | fail)
  go_ret2
  exact ⟨rfl, HB1.out⟩
set_option maxRecDepth 100000 in
set_option maxHeartbeats 2000000 in
theorem cUp_none (a : Option Addr) (cap : Nat) (l : List OpR) (e : El) (w : World) (h : OpsAt w a l) (hr : rowP (OpR.os l)) (he : e ∉ ordE (OpR.os l)) (hbe : e.begin = false) : Calls Tryz.prog 56 #[.slice a l.length cap, e.v] w (CUpNo 3 w) := by
  have HO := Lib.hid (fun wx (hx : Below w.heap.size w wx) => tOrder_ok a cap l wx (h.below hx) hr)
  have HB0 : RowKit.Hid (Below w.heap.size w (w.alloc (.cells #[.int .i64 e.s, .int .i64 e.q, .int .i64 e.i] 37))) := Lib.hid ((Below.refl _ _).alloc (Nat.le_refl _) _)
  have HX := Lib.hid (BoxE.new w e)
  have ho2 := ord_le200 hr
  have HCB := Lib.hid (fun wx => cBegin_any e wx)
  rw [hbe] at HCB
  unfold OrdPost at HO
  unfold BoB at HCB
  generalize l.length = n at *
  have HIX := Lib.hid (fun (b : Option Addr) (c : Nat) wx (hx : ElemsAt wx b (ordE (OpR.os l))) => Index_any b c (ordE (OpR.os l)) e wx hx (by omega))
  rw [atI_neg he] at HIX
  unfold IntB at HIX
  generalize ordE (OpR.os l) = X at *
  obtain ⟨m, hm⟩ : ∃ m, X.length = m := ⟨_, rfl⟩
  have HM := Lib.hid hm
  rw [hm] at HO HIX
  clear hm h hr he hbe ho2
  obtain ⟨s, q, i⟩ := e
  unfold El.v at HIX HCB ⊢
  simp only at HX HB0 HIX HCB ⊢
  go_enter Tryz.func56, Tryz.ntmps56
  go_wp2_with (first
    | (go_at_call 70; refine (HO.out _ HB0.out).mono ?_; rintro x1 w1 ⟨v1, rfl, hown1, hb1⟩; obtain ⟨ax, cx, hv1, hex, _⟩ := elems_own (by rw [HM.out]; exact hown1); have HEX := Lib.hid hex; rw [HM.out] at hv1; subst hv1; have HB1 := Lib.hid (HB0.out.trans (hb1.mono HB0.out.size)); have HX1 := Lib.hid (HX.out.step hb1); obtain ⟨hlt, p0, p1, p2⟩ := HX1.out; simp only at p0 p1 p2; clear hb1 hown1 hex)
    | (go_at_call 87; refine (HIX.out _ _ _ HEX.out).mono ?_; rintro x2 w2 ⟨rfl, hb2⟩; have HB2 := Lib.hid (HB1.out.trans (hb2.mono HB1.out.size)); obtain ⟨hlt2, q0, q1, q2⟩ := HX1.out.step hb2; simp only at q0 q1 q2; clear hb2 hlt p0 p1 p2)
    | (go_at_call 88; refine (HCB.out _).mono ?_; rintro x3 w3 ⟨rfl, hb3⟩; have HB3 := Lib.hid (HB2.out.trans (hb3.mono HB2.out.size)); clear hb3 hlt2 q0 q1 q2)
    | fail)
  go_ret2
  exact ⟨rfl, HB3.out⟩
set_option maxRecDepth 100000 in
set_option maxHeartbeats 4000000 in
theorem cUp_ok (a : Option Addr) (cap : Nat) (l : List OpR) (e : El) (w : World) (h : OpsAt w a l) (hr : rowP (OpR.os l)) (he : wroteE (OpR.os l) e) : Calls Tryz.prog 56 #[.slice a l.length cap, e.v] w (CUpPost (visE (OpR.os l)) (plE (OpR.os l) e) w) := by
  have HO := Lib.hid (fun wx (hx : Below w.heap.size w wx) => tOrder_ok a cap l wx (h.below hx) hr)
  have HV := Lib.hid (fun wx (hx : Below w.heap.size w wx) => dVis_ok a cap l wx (h.below hx) hr)
  have HB0 : RowKit.Hid (Below w.heap.size w (w.alloc (.cells #[.int .i64 e.s, .int .i64 e.q, .int .i64 e.i] 37))) := Lib.hid ((Below.refl _ _).alloc (Nat.le_refl _) _)
  have HX := Lib.hid (BoxE.new w e)
  have ho2 := ord_le200 hr
  have hv2 := visE_le hr.2
  have HCB := Lib.hid (fun wx => cBegin_any e wx)
  unfold OrdPost at HO
  unfold VisPost at HV
  unfold BoB at HCB
  generalize l.length = n at *
  have hway : (atI (ordE (OpR.os l)) e = -1 ∧ upE (OpR.os l) e = 0 ∧ e.begin = true) ∨ (0 ≤ atI (ordE (OpR.os l)) e ∧ (upE (OpR.os l) e : Int) = atI (ordE (OpR.os l)) e + 1) := by
    rcases he with rfl | he
    · exact .inl ⟨atI_neg (b0_not hr.2), up_begin hr.2, by decide⟩
    · exact .inr ⟨atI_pos he, (up_at he).1⟩
  have hup : upE (OpR.os l) e ≤ (ordE (OpR.os l)).length := by
    rcases he with rfl | he
    · rw [up_begin hr.2]; omega
    · exact (up_at he).2.2
  have hpl := plE_com (OpR.os l) e
  have hple := plE_le (OpR.os l) e
  have HIX := Lib.hid (fun (b : Option Addr) (c : Nat) wx (hx : ElemsAt wx b (ordE (OpR.os l))) => Index_any b c (ordE (OpR.os l)) e wx hx (by omega))
  unfold IntB at HIX
  generalize ordE (OpR.os l) = X at *
  generalize visE (OpR.os l) = V at *
  generalize upE (OpR.os l) e = u at *
  generalize plE (OpR.os l) e = pn at *
  generalize atI X e = z at *
  obtain ⟨m, hm⟩ : ∃ m, X.length = m := ⟨_, rfl⟩
  obtain ⟨nv, hnv⟩ : ∃ m, V.length = m := ⟨_, rfl⟩
  have HM := Lib.hid hm
  have HNV := Lib.hid hnv
  have HCM := Lib.hid (fun (b1 b2 : Option Addr) (c1 c2 : Nat) wx (h1 : ElemsAt wx b1 X) (h2 : ElemsAt wx b2 V) => cCommon_any b1 b2 c1 c2 u nv (X.take u) V wx (elems_cut h1 u) h2 (by rw [List.length_take]; omega) hnv (by omega) (by omega))
  rw [hpl] at HCM
  unfold IntB at HCM
  rw [hm] at HO HIX hup ho2
  rw [hnv] at HV hv2 hple
  have hui : (u : Int) ≤ (m : Int) := by omega
  have hpi : (pn : Int) ≤ (nv : Int) := by omega
  have hmi : (m : Int) ≤ 200 := by omega
  have hvi : (nv : Int) ≤ 200 := by omega
  clear hm hnv h hr he ho2 hv2 hpl
  obtain ⟨s, q, i⟩ := e
  unfold El.v at HIX HCB ⊢
  simp only at HX HB0 HIX HCB hway ⊢
  rcases hway with ⟨rfl, rfl, hbe⟩ | ⟨hz, hu⟩
  · rw [hbe] at HCB
    clear hbe
    go_enter Tryz.func56, Tryz.ntmps56
    go_wp2_with (first
      | (go_at_call 70; refine (HO.out _ HB0.out).mono ?_; rintro x1 w1 ⟨v1, rfl, hown1, hb1⟩; obtain ⟨ax, cx, hv1, hex, hcx, _⟩ := elems_own (by rw [HM.out]; exact hown1); have HEX := Lib.hid hex; rw [HM.out] at hv1 hcx; subst hv1; have HB1 := Lib.hid (HB0.out.trans (hb1.mono HB0.out.size)); have HX1 := Lib.hid (HX.out.step hb1); obtain ⟨hlt, p0, p1, p2⟩ := HX1.out; simp only at p0 p1 p2; clear hb1 hown1 hex)
      | (go_at_call 87; refine (HIX.out _ _ _ HEX.out).mono ?_; rintro x2 w2 ⟨rfl, hb2⟩; have HEX2 := Lib.hid (HEX.out.below hb2); have HB2 := Lib.hid (HB1.out.trans (hb2.mono HB1.out.size)); obtain ⟨hlt2, q0, q1, q2⟩ := HX1.out.step hb2; simp only at q0 q1 q2; clear hb2 hlt p0 p1 p2)
      | (go_at_call 88; refine (HCB.out _).mono ?_; rintro x3 w3 ⟨rfl, hb3⟩; have HEX3 := Lib.hid (HEX2.out.below hb3); have HB3 := Lib.hid (HB2.out.trans (hb3.mono HB2.out.size)); clear hb3 hlt2 q0 q1 q2)
      | (go_at_call 37; refine (HV.out _ HB3.out).mono ?_; rintro x4 w4 ⟨v4, rfl, hown4, hb4⟩; obtain ⟨av, cv, hv4, hev, hcv, _⟩ := elems_own (by rw [HNV.out]; exact hown4); have HEV := Lib.hid hev; rw [HNV.out] at hv4 hcv; subst hv4; have HEX4 := Lib.hid (HEX3.out.below hb4); have HB4 := Lib.hid (HB3.out.trans (hb4.mono HB3.out.size)); clear hb4 hown4 hev)
      | (go_at_call 89; refine (HCM.out _ _ _ _ _ HEX4.out HEV.out).mono ?_; rintro x5 w5 ⟨rfl, hb5⟩; have HEV5 := Lib.hid (HEV.out.below hb5); have HB5 := Lib.hid (HB4.out.trans (hb5.mono HB4.out.size)); clear hb5)
      | fail)
    go_ret2
    exact ⟨_, _, rfl, elems_cut HEV5.out pn, HB5.out⟩
  · have hzi : z = (u : Int) - 1 := by omega
    subst hzi
    have hu1 : (1 : Int) ≤ (u : Int) := by omega
    have hlz : decide ((u : Int) - 1 < 0) = false := decide_eq_false (by omega)
    have hws : IntKind.i64.wrap ((u : Int) - 1 + 1) = (u : Int) := by rw [IntKind.wrap_i64]; omega
    have hsu : (u : Int) - 1 + 1 = (u : Int) := by omega
    clear hz hu
    go_enter Tryz.func56, Tryz.ntmps56
    go_wp2_with (first
      | (go_at_call 70; refine (HO.out _ HB0.out).mono ?_; rintro x1 w1 ⟨v1, rfl, hown1, hb1⟩; obtain ⟨ax, cx, hv1, hex, hcx, _⟩ := elems_own (by rw [HM.out]; exact hown1); have HEX := Lib.hid hex; rw [HM.out] at hv1 hcx; subst hv1; have hcxi : (u : Int) ≤ (cx : Int) := (by omega); have HB1 := Lib.hid (HB0.out.trans (hb1.mono HB0.out.size)); have HX1 := Lib.hid (HX.out.step hb1); obtain ⟨hlt, p0, p1, p2⟩ := HX1.out; simp only at p0 p1 p2; clear hb1 hown1 hex)
      | (go_at_call 87; refine (HIX.out _ _ _ HEX.out).mono ?_; rintro x2 w2 ⟨rfl, hb2⟩; have HEX2 := Lib.hid (HEX.out.below hb2); have HB2 := Lib.hid (HB1.out.trans (hb2.mono HB1.out.size)); clear hb2 hlt p0 p1 p2)
      | (go_at_call 37; refine (HV.out _ HB2.out).mono ?_; rintro x4 w4 ⟨v4, rfl, hown4, hb4⟩; obtain ⟨av, cv, hv4, hev, hcv, _⟩ := elems_own (by rw [HNV.out]; exact hown4); have HEV := Lib.hid hev; rw [HNV.out] at hv4 hcv; subst hv4; have hcvi : (pn : Int) ≤ (cv : Int) := (by omega); have HEX4 := Lib.hid (HEX2.out.below hb4); have HB4 := Lib.hid (HB2.out.trans (hb4.mono HB2.out.size)); clear hb4 hown4 hev)
      | (go_at_call 89; refine (HCM.out _ _ _ _ _ HEX4.out HEV.out).mono ?_; rintro x5 w5 ⟨rfl, hb5⟩; have HEV5 := Lib.hid (HEV.out.below hb5); have HB5 := Lib.hid (HB4.out.trans (hb5.mono HB4.out.size)); clear hb5)
      | fail)
    go_ret2
    exact ⟨_, _, rfl, elems_cut HEV5.out pn, HB5.out⟩
end Go.Proofs.YthnedehihbploaaGreatDoor

/- package caret: Set, Place, Near; the law's num, wakes -/
namespace Go.Proofs.YthnedehihbploaaGreatDoor
open Go.RowKit Go.Lib Go.Sort

def PlcPost (n e : Int) (w : World) (x : Ending) (w' : World) : Prop := x = .returned (.tuple #[.int .i64 n, .int .i64 e]) ∧ Below w.heap.size w w'
set_option maxRecDepth 100000 in
set_option maxHeartbeats 2000000 in
theorem cPlace_bad (a : Option Addr) (cap : Nat) (l : List OpR) (e : El) (w : World) (h : OpsAt w a l) (hr : ¬ rowP (OpR.os l)) : Calls Tryz.prog 24 #[.slice a l.length cap, e.v] w (PlcPost 0 1 w) := by
  have HU := Lib.hid (fun wx (hx : Below w.heap.size w wx) => cUp_bad a cap l e wx (h.below hx) hr)
  have HB0 : RowKit.Hid (Below w.heap.size w (w.alloc (.cells #[.int .i64 e.s, .int .i64 e.q, .int .i64 e.i] 37))) := Lib.hid ((Below.refl _ _).alloc (Nat.le_refl _) _)
  obtain ⟨p0, p1, p2, pf, pl⟩ := cells3 (heap_alloc_new w (.cells #[.int .i64 e.s, .int .i64 e.q, .int .i64 e.i] 37))
  unfold CUpNo at HU
  generalize l.length = n at *
  clear h hr
  obtain ⟨s, q, i⟩ := e
  unfold El.v at HU ⊢
  simp only at HU HB0 p0 p1 p2 pf pl ⊢
  go_enter Tryz.func24, Tryz.ntmps24
  go_wp2_with (first | (go_at_call 56; refine (HU.out _ HB0.out).mono ?_; rintro x1 w1 ⟨rfl, hb1⟩; have HB1 := Lib.hid (HB0.out.trans (hb1.mono HB0.out.size)); clear hb1) | fail)
  go_ret2
  exact ⟨rfl, HB1.out⟩
set_option maxRecDepth 100000 in
set_option maxHeartbeats 2000000 in
theorem cPlace_ok (a : Option Addr) (cap : Nat) (l : List OpR) (e : El) (w : World) (h : OpsAt w a l) (hr : rowP (OpR.os l)) : Calls Tryz.prog 24 #[.slice a l.length cap, e.v] w (PlcPost (plN (OpR.os l) e) (plR (OpR.os l) e) w) := by
  have HB0 : RowKit.Hid (Below w.heap.size w (w.alloc (.cells #[.int .i64 e.s, .int .i64 e.q, .int .i64 e.i] 37))) := Lib.hid ((Below.refl _ _).alloc (Nat.le_refl _) _)
  obtain ⟨p0, p1, p2, pf, pl⟩ := cells3 (heap_alloc_new w (.cells #[.int .i64 e.s, .int .i64 e.q, .int .i64 e.i] 37))
  by_cases hw : wroteE (OpR.os l) e
  · rw [(pl_yes hw).1, (pl_yes hw).2]
    have HU := Lib.hid (fun wx (hx : Below w.heap.size w wx) => cUp_ok a cap l e wx (h.below hx) hr hw)
    unfold CUpPost at HU
    generalize l.length = n at *
    generalize plE (OpR.os l) e = pn at *
    generalize visE (OpR.os l) = V at *
    clear h hr hw
    obtain ⟨s, q, i⟩ := e
    unfold El.v at HU ⊢
    simp only at HU HB0 p0 p1 p2 pf pl ⊢
    go_enter Tryz.func24, Tryz.ntmps24
    go_wp2_with (first | (go_at_call 56; refine (HU.out _ HB0.out).mono ?_; rintro x1 w1 ⟨a1, c1, rfl, -, hb1⟩; have HB1 := Lib.hid (HB0.out.trans (hb1.mono HB0.out.size)); clear hb1) | fail)
    go_ret2
    exact ⟨rfl, HB1.out⟩
  · rw [(pl_no hw).1, (pl_no hw).2]
    have hn := (wrote_dec (OpR.os l) e).resolve_left hw
    have HU := Lib.hid (fun wx (hx : Below w.heap.size w wx) => cUp_none a cap l e wx (h.below hx) hr hn.1 hn.2)
    unfold CUpNo at HU
    generalize l.length = n at *
    clear h hr hw hn
    obtain ⟨s, q, i⟩ := e
    unfold El.v at HU ⊢
    simp only at HU HB0 p0 p1 p2 pf pl ⊢
    go_enter Tryz.func24, Tryz.ntmps24
    go_wp2_with (first | (go_at_call 56; refine (HU.out _ HB0.out).mono ?_; rintro x1 w1 ⟨rfl, hb1⟩; have HB1 := Lib.hid (HB0.out.trans (hb1.mono HB0.out.size)); clear hb1) | fail)
    go_ret2
    exact ⟨rfl, HB1.out⟩
def nearE (D : List OpD) (e : El) : El := lastE ((visE D).take (plE D e))
theorem near_len (D : List OpD) (e : El) : ((visE D).take (plE D e)).length = plE D e := by
  rw [List.length_take]
  have := plE_le D e
  omega
set_option maxRecDepth 100000 in
set_option maxHeartbeats 2000000 in
theorem cNear_bad (a : Option Addr) (cap : Nat) (l : List OpR) (e : El) (w : World) (h : OpsAt w a l) (hr : ¬ rowP (OpR.os l)) : Calls Tryz.prog 25 #[.slice a l.length cap, e.v] w (ElErr B0 1 w) := by
  have HU := Lib.hid (fun wx (hx : Below w.heap.size w wx) => cUp_bad a cap l e wx (h.below hx) hr)
  have hb0 : Below w.heap.size w (w.alloc (.cells #[.int .i64 e.s, .int .i64 e.q, .int .i64 e.i] 37)) := (Below.refl _ _).alloc (Nat.le_refl _) _
  have hbb := hb0.alloc hb0.size (.cells #[.int .i64 0, .int .i64 0, .int .i64 0] 37)
  have HB0 := Lib.hid hbb
  have HC := Lib.hid (fun wx => cLast_any none 0 0 [] wx (ElemsAt.nil none) rfl (Nat.zero_le _))
  have hbox := (BoxE.new w e).step ((Below.refl _ _).alloc (Nat.le_refl _) (.cells #[.int .i64 0, .int .i64 0, .int .i64 0] 37))
  obtain ⟨pl, p0, p1, p2⟩ := hbox
  have hq := heap_alloc_new (w.alloc (.cells #[.int .i64 e.s, .int .i64 e.q, .int .i64 e.i] 37)) (.cells #[.int .i64 0, .int .i64 0, .int .i64 0] 37)
  have hsz : (w.alloc (.cells #[.int .i64 e.s, .int .i64 e.q, .int .i64 e.i] 37)).heap.size = w.heap.size + 1 := by simp
  rw [hsz] at hq
  have HQ := Lib.hid hq
  have hql := (Array.getElem?_eq_some_iff.1 hq).1
  unfold CUpNo at HU
  rw [lastE_nil] at HC
  unfold ElPost at HC
  generalize l.length = n at *
  clear h hr hq hb0 hbb hsz
  obtain ⟨s, q, i⟩ := e
  unfold El.v at HU ⊢
  unfold B0 at HC ⊢
  simp only at HU HB0 p0 p1 p2 pl HQ HC hql ⊢
  go_enter Tryz.func25, Tryz.ntmps25
  go_wp2_with (first
    | (go_at_call 56; refine (HU.out _ HB0.out).mono ?_; rintro x1 w1 ⟨rfl, hb1⟩; have HB1 := Lib.hid (HB0.out.trans (hb1.mono HB0.out.size)); have HQ1 := Lib.hid ((hb1.block _ hql).trans HQ.out); have HL1 := Lib.hid (Nat.lt_of_lt_of_le hql hb1.size); clear hb1)
    | (go_at_call 55; refine (HC.out w1).mono ?_; rintro x2 w2 ⟨rfl, hb2⟩; have HB2 := Lib.hid (HB1.out.trans (hb2.mono HB1.out.size)); obtain ⟨r0, r1, r2, rf, rl⟩ := cells3 ((hb2.block _ HL1.out).trans HQ1.out); clear hb2)
    | fail)
  refine bodyPost_ret (v := .tuple #[.agg #[.int .i64 0, .int .i64 0, .int .i64 0], .int .i64 1]) (by simp [results, Tryz.results25, go_sem, r0, r1, r2]) rfl ⟨rfl, ?_⟩
  exact set3 HB2.out (Nat.le_succ _) _ _ _
set_option maxRecDepth 100000 in
set_option maxHeartbeats 2000000 in
theorem cNear_none (a : Option Addr) (cap : Nat) (l : List OpR) (e : El) (w : World) (h : OpsAt w a l) (hr : rowP (OpR.os l)) (he : e ∉ ordE (OpR.os l)) (hbe : e.begin = false) : Calls Tryz.prog 25 #[.slice a l.length cap, e.v] w (ElErr B0 3 w) := by
  have HU := Lib.hid (fun wx (hx : Below w.heap.size w wx) => cUp_none a cap l e wx (h.below hx) hr he hbe)
  have HC := Lib.hid (fun wx => cLast_any none 0 0 [] wx (ElemsAt.nil none) rfl (Nat.zero_le _))
  have hb0 : Below w.heap.size w (w.alloc (.cells #[.int .i64 e.s, .int .i64 e.q, .int .i64 e.i] 37)) := (Below.refl _ _).alloc (Nat.le_refl _) _
  have hbb := hb0.alloc hb0.size (.cells #[.int .i64 0, .int .i64 0, .int .i64 0] 37)
  have HB0 := Lib.hid hbb
  have hbox := (BoxE.new w e).step ((Below.refl _ _).alloc (Nat.le_refl _) (.cells #[.int .i64 0, .int .i64 0, .int .i64 0] 37))
  obtain ⟨pl, p0, p1, p2⟩ := hbox
  have hq := heap_alloc_new (w.alloc (.cells #[.int .i64 e.s, .int .i64 e.q, .int .i64 e.i] 37)) (.cells #[.int .i64 0, .int .i64 0, .int .i64 0] 37)
  have hsz : (w.alloc (.cells #[.int .i64 e.s, .int .i64 e.q, .int .i64 e.i] 37)).heap.size = w.heap.size + 1 := by simp
  rw [hsz] at hq
  have HQ := Lib.hid hq
  have hql := (Array.getElem?_eq_some_iff.1 hq).1
  unfold CUpNo at HU
  rw [lastE_nil] at HC
  unfold ElPost at HC
  generalize l.length = n at *
  clear h hr hq hb0 hbb hsz he hbe
  obtain ⟨s, q, i⟩ := e
  unfold El.v at HU ⊢
  unfold B0 at HC ⊢
  simp only at HU HB0 p0 p1 p2 pl HQ HC hql ⊢
  go_enter Tryz.func25, Tryz.ntmps25
  go_wp2_with (first
    | (go_at_call 56; refine (HU.out _ HB0.out).mono ?_; rintro x1 w1 ⟨rfl, hb1⟩; have HB1 := Lib.hid (HB0.out.trans (hb1.mono HB0.out.size)); have HQ1 := Lib.hid ((hb1.block _ hql).trans HQ.out); have HL1 := Lib.hid (Nat.lt_of_lt_of_le hql hb1.size); clear hb1)
    | (go_at_call 55; refine (HC.out w1).mono ?_; rintro x2 w2 ⟨rfl, hb2⟩; have HB2 := Lib.hid (HB1.out.trans (hb2.mono HB1.out.size)); obtain ⟨r0, r1, r2, rf, rl⟩ := cells3 ((hb2.block _ HL1.out).trans HQ1.out); clear hb2)
    | fail)
  refine bodyPost_ret (v := .tuple #[.agg #[.int .i64 0, .int .i64 0, .int .i64 0], .int .i64 3]) (by simp [results, Tryz.results25, go_sem, r0, r1, r2]) rfl ⟨rfl, ?_⟩
  exact set3 HB2.out (Nat.le_succ _) _ _ _
set_option maxRecDepth 100000 in
set_option maxHeartbeats 2000000 in
theorem cNear_ok (a : Option Addr) (cap : Nat) (l : List OpR) (e : El) (w : World) (h : OpsAt w a l) (hr : rowP (OpR.os l)) (he : wroteE (OpR.os l) e) : Calls Tryz.prog 25 #[.slice a l.length cap, e.v] w (ElErr (nearE (OpR.os l) e) 0 w) := by
  have HU := Lib.hid (fun wx (hx : Below w.heap.size w wx) => cUp_ok a cap l e wx (h.below hx) hr he)
  have hle : plE (OpR.os l) e ≤ 200 := Nat.le_trans (plE_le _ _) (visE_le hr.2)
  have HC := Lib.hid (fun (b : Option Addr) (c : Nat) wx (hx : ElemsAt wx b ((visE (OpR.os l)).take (plE (OpR.os l) e))) => cLast_any b c _ _ wx hx (near_len (OpR.os l) e) (by omega))
  have hb0 : Below w.heap.size w (w.alloc (.cells #[.int .i64 e.s, .int .i64 e.q, .int .i64 e.i] 37)) := (Below.refl _ _).alloc (Nat.le_refl _) _
  have hbb := hb0.alloc hb0.size (.cells #[.int .i64 0, .int .i64 0, .int .i64 0] 37)
  have HB0 := Lib.hid hbb
  have hbox := (BoxE.new w e).step ((Below.refl _ _).alloc (Nat.le_refl _) (.cells #[.int .i64 0, .int .i64 0, .int .i64 0] 37))
  obtain ⟨pl, p0, p1, p2⟩ := hbox
  have hq := heap_alloc_new (w.alloc (.cells #[.int .i64 e.s, .int .i64 e.q, .int .i64 e.i] 37)) (.cells #[.int .i64 0, .int .i64 0, .int .i64 0] 37)
  have hsz : (w.alloc (.cells #[.int .i64 e.s, .int .i64 e.q, .int .i64 e.i] 37)).heap.size = w.heap.size + 1 := by simp
  rw [hsz] at hq
  have HQ := Lib.hid hq
  have hql := (Array.getElem?_eq_some_iff.1 hq).1
  unfold CUpPost at HU
  unfold ElPost at HC
  generalize l.length = n at *
  unfold nearE
  generalize plE (OpR.os l) e = pn at *
  generalize (visE (OpR.os l)).take pn = V at *
  generalize lastE V = y at *
  clear h hr hq hb0 hbb hsz he hle
  obtain ⟨s, q, i⟩ := e
  obtain ⟨ys, yq, yi⟩ := y
  unfold El.v at HU ⊢
  unfold ElErr
  simp only at HU HB0 p0 p1 p2 pl HQ HC hql ⊢
  go_enter Tryz.func25, Tryz.ntmps25
  go_wp2_with (first
    | (go_at_call 56; refine (HU.out _ HB0.out).mono ?_; rintro x1 w1 ⟨a1, c1, rfl, hex, hb1⟩; have HEX := Lib.hid hex; have HB1 := Lib.hid (HB0.out.trans (hb1.mono HB0.out.size)); have HQ1 := Lib.hid ((hb1.block _ hql).trans HQ.out); have HL1 := Lib.hid (Nat.lt_of_lt_of_le hql hb1.size); clear hb1 hex)
    | (go_at_call 55; refine (HC.out _ _ w1 HEX.out).mono ?_; rintro x2 w2 ⟨rfl, hb2⟩; have HB2 := Lib.hid (HB1.out.trans (hb2.mono HB1.out.size)); obtain ⟨r0, r1, r2, rf, rl⟩ := cells3 ((hb2.block _ HL1.out).trans HQ1.out); clear hb2)
    | fail)
  refine bodyPost_ret (v := .tuple #[.agg #[.int .i64 ys, .int .i64 yq, .int .i64 yi], .int .i64 0]) (by simp [results, Tryz.results25, go_sem, r0, r1, r2]) rfl ⟨rfl, ?_⟩
  exact set3 HB2.out (Nat.le_succ _) _ _ _
set_option maxRecDepth 100000 in
set_option maxHeartbeats 2000000 in
theorem cSet_bad (a : Option Addr) (cap : Nat) (l : List OpR) (at_ : Int) (w : World) (h : OpsAt w a l) (hr : ¬ rowP (OpR.os l)) : Calls Tryz.prog 20 #[.slice a l.length cap, .int .i64 at_] w (ElErr B0 1 w) := by
  have HV := Lib.hid (fun wx (hx : Below w.heap.size w wx) => dVis_bad a cap l wx (h.below hx) hr)
  have hb0 : Below w.heap.size w (w.alloc (.cells #[.int .i64 0, .int .i64 0, .int .i64 0] 37)) := (Below.refl _ _).alloc (Nat.le_refl _) _
  have HB0 := Lib.hid hb0
  have hq := heap_alloc_new w (.cells #[.int .i64 0, .int .i64 0, .int .i64 0] 37)
  have HQ := Lib.hid hq
  have hql := (Array.getElem?_eq_some_iff.1 hq).1
  unfold OrdNo at HV
  generalize l.length = n at *
  clear h hr hq hb0
  unfold ElErr B0
  go_enter Tryz.func20, Tryz.ntmps20
  go_wp2_with (first
    | (go_at_call 37; refine (HV.out _ HB0.out).mono ?_; rintro x1 w1 ⟨rfl, hb1⟩; have HB1 := Lib.hid (HB0.out.trans (hb1.mono HB0.out.size)); obtain ⟨r0, r1, r2, rf, rl⟩ := cells3 ((hb1.block _ hql).trans HQ.out); clear hb1)
    | fail)
  refine bodyPost_ret (v := .tuple #[.agg #[.int .i64 0, .int .i64 0, .int .i64 0], .int .i64 1]) (by simp [results, Tryz.results20, go_sem, r0, r1, r2]) rfl ⟨rfl, ?_⟩
  exact set3 HB1.out (Nat.le_refl _) _ _ _
set_option maxRecDepth 100000 in
set_option maxHeartbeats 2000000 in
theorem cSet_ok (a : Option Addr) (cap : Nat) (l : List OpR) (at_ : Int) (w : World) (h : OpsAt w a l) (hr : rowP (OpR.os l)) : Calls Tryz.prog 20 #[.slice a l.length cap, .int .i64 at_] w (ElErr (setE (OpR.os l) at_) (setN (OpR.os l) at_) w) := by
  have HV := Lib.hid (fun wx (hx : Below w.heap.size w wx) => dVis_ok a cap l wx (h.below hx) hr)
  have hb0 : Below w.heap.size w (w.alloc (.cells #[.int .i64 0, .int .i64 0, .int .i64 0] 37)) := (Below.refl _ _).alloc (Nat.le_refl _) _
  have HB0 := Lib.hid hb0
  have hq := heap_alloc_new w (.cells #[.int .i64 0, .int .i64 0, .int .i64 0] 37)
  have HQ := Lib.hid hq
  have hql := (Array.getElem?_eq_some_iff.1 hq).1
  have hv2 := visE_le hr.2
  unfold VisPost at HV
  unfold setE setN
  generalize visE (OpR.os l) = V at *
  generalize l.length = n at *
  obtain ⟨nv, hnv⟩ : ∃ m, V.length = m := ⟨_, rfl⟩
  have HNV := Lib.hid hnv
  rw [hnv] at HV hv2 ⊢
  have hvi : (nv : Int) ≤ 200 := by omega
  clear h hr hq hb0
  by_cases hat : 0 ≤ at_ ∧ at_ ≤ (nv : Int)
  · rw [if_pos hat, if_pos hat]
    obtain ⟨k, rfl⟩ : ∃ k : Nat, at_ = (k : Int) := ⟨at_.toNat, by omega⟩
    rw [Int.toNat_natCast]
    have hkn : k ≤ nv := by omega
    have hki : (k : Int) ≤ (nv : Int) := hat.2
    have hk1 : decide ((k : Int) < 0) = false := decide_eq_false (by omega)
    have hk2 : decide ((nv : Int) < (k : Int)) = false := decide_eq_false (by omega)
    have HC := Lib.hid (fun (b : Option Addr) (c : Nat) wx (hx : ElemsAt wx b (V.take k)) => cLast_any b c k (V.take k) wx hx (by rw [List.length_take]; omega) (by omega))
    unfold ElPost at HC
    generalize lastE (V.take k) = y at *
    obtain ⟨ys, yq, yi⟩ := y
    unfold ElErr
    simp only at HC ⊢
    clear hat hnv hv2
    go_enter Tryz.func20, Tryz.ntmps20
    go_wp2_with (first
      | (go_at_call 37; refine (HV.out _ HB0.out).mono ?_; rintro x1 w1 ⟨v1, rfl, hown1, hb1⟩; obtain ⟨av, cv, hv1, hev, hcv, _⟩ := elems_own (by rw [HNV.out]; exact hown1); rw [HNV.out] at hv1 hcv; subst hv1; have hkc : (k : Int) ≤ (cv : Int) := (by omega); have HEV := Lib.hid (elems_cut hev k); have HB1 := Lib.hid (HB0.out.trans (hb1.mono HB0.out.size)); have HQ1 := Lib.hid ((hb1.block _ hql).trans HQ.out); have HL1 := Lib.hid (Nat.lt_of_lt_of_le hql hb1.size); clear hb1 hown1 hev hcv)
      | (go_at_call 55; refine (HC.out _ _ w1 HEV.out).mono ?_; rintro x2 w2 ⟨rfl, hb2⟩; have HB2 := Lib.hid (HB1.out.trans (hb2.mono HB1.out.size)); obtain ⟨r0, r1, r2, rf, rl⟩ := cells3 ((hb2.block _ HL1.out).trans HQ1.out); clear hb2)
      | fail)
    refine bodyPost_ret (v := .tuple #[.agg #[.int .i64 ys, .int .i64 yq, .int .i64 yi], .int .i64 0]) (by simp [results, Tryz.results20, go_sem, r0, r1, r2]) rfl ⟨rfl, ?_⟩
    exact set3 HB2.out (Nat.le_refl _) _ _ _
  · rw [if_neg hat, if_neg hat]
    have hk : decide (at_ < 0) = true ∨ (decide (at_ < 0) = false ∧ decide ((nv : Int) < at_) = true) := by
      by_cases h1 : at_ < 0
      · exact .inl (decide_eq_true h1)
      · exact .inr ⟨decide_eq_false h1, decide_eq_true (by omega)⟩
    unfold ElErr B0
    clear hat hnv hv2
    rcases hk with hk1 | ⟨hk1, hk2⟩
    all_goals
      go_enter Tryz.func20, Tryz.ntmps20
      go_wp2_with (first
        | (go_at_call 37; refine (HV.out _ HB0.out).mono ?_; rintro x1 w1 ⟨v1, rfl, hown1, hb1⟩; obtain ⟨av, cv, hv1, -, -, -⟩ := elems_own (by rw [HNV.out]; exact hown1); rw [HNV.out] at hv1; subst hv1; have HB1 := Lib.hid (HB0.out.trans (hb1.mono HB0.out.size)); obtain ⟨r0, r1, r2, rf, rl⟩ := cells3 ((hb1.block _ hql).trans HQ.out); clear hb1 hown1)
        | fail)
      refine bodyPost_ret (v := .tuple #[.agg #[.int .i64 0, .int .i64 0, .int .i64 0], .int .i64 2]) (by simp [results, Tryz.results20, go_sem, r0, r1, r2]) rfl ⟨rfl, ?_⟩
      exact set3 HB1.out (Nat.le_refl _) _ _ _
theorem num11_same (n : Int) (w : World) : Calls Tryz.prog 22 #[.int .i64 n] w fun e w' => e = .returned (.int .i64 n) ∧ w' = w := by
  go_enter Tryz.func22, Tryz.ntmps22
  go_wp2
  go_ret
  exact ⟨rfl, rfl⟩
def cO : OpD := ⟨1, 1, 1, ⟨0, 0, 0⟩, ⟨#[97, 98]⟩, [], 0, 0, 0⟩
theorem cO_row : rowP [cO] := ⟨by decide, fun k hk => by
  have h0 : k = 0 := by simp at hk; exact hk
  subst h0
  show tk [] cO = true
  kernel_rfl⟩
theorem cO_at (w : World) : OpAt w cO none 0 := ⟨ElemsAt.nil none, Nat.zero_le _, by show 2 ≤ BIG; unfold BIG; omega, fun _ => ⟨rfl, rfl⟩⟩
theorem cops_one {w : World} {r : OpR} (ho : OpAt w r.o r.a r.cap) : OpsAt (w.alloc (.cells #[.int .i64 r.o.site, .int .i64 r.o.seq, .int .i64 r.o.kind, .int .i64 r.o.after.s, .int .i64 r.o.after.q, .int .i64 r.o.after.i, .string r.o.text, .slice r.a r.o.gone.length r.cap, .int .i64 r.o.of, .int .i64 r.o.num, .int .i64 r.o.gen] 39)) (some ⟨w.heap.size, 0, none⟩) [r] :=
  ⟨fun j hj => by
    have h0 : j = 0 := by simp at hj; exact hj
    subst h0
    refine ⟨w.heap.size, 0, rfl, by simp, fun c u hu => ?_⟩
    have h9 := cell_op_newR w r 39 c u hu
    rw [Addr.add_lit] at h9
    simpa using h9, fun j hj => by
    have h0 : j = 0 := by simp at hj; exact hj
    subst h0
    exact ho.below ((Below.refl _ _).alloc (Nat.le_refl _) _), by show 1 ≤ BIG; unfold BIG; omega⟩
def cO_new (w : World) : World := w.alloc (.cells #[.int .i64 1, .int .i64 1, .int .i64 1, .int .i64 0, .int .i64 0, .int .i64 0, .string ⟨#[97, 98]⟩, .slice none 0 0, .int .i64 0, .int .i64 0, .int .i64 0] 39)
theorem cO_ops (w : World) : OpsAt (cO_new w) (some ⟨w.heap.size, 0, none⟩) [⟨cO, none, 0⟩] := cops_one (w := w) (r := ⟨cO, none, 0⟩) (cO_at w)
theorem cO_set (w wx : World) (hx : Below (cO_new w).heap.size (cO_new w) wx) : Calls Tryz.prog 20 #[.slice (some ⟨w.heap.size, 0, none⟩) 1 1, .int .i64 0] wx (fun e w' => e = .returned (.tuple #[.agg #[.int .i64 0, .int .i64 0, .int .i64 0], .int .i64 0]) ∧ Below wx.heap.size wx w') := by
  have h := cSet_ok (some ⟨w.heap.size, 0, none⟩) 1 [⟨cO, none, 0⟩] 0 wx ((cO_ops w).below hx) cO_row
  have e1 : setE (OpR.os [⟨cO, none, 0⟩]) 0 = B0 := by kernel_rfl
  have e2 : setN (OpR.os [⟨cO, none, 0⟩]) 0 = 0 := by kernel_rfl
  rw [e1, e2] at h
  exact h
theorem cO_place (w wx : World) (hx : Below (cO_new w).heap.size (cO_new w) wx) : Calls Tryz.prog 24 #[.slice (some ⟨w.heap.size, 0, none⟩) 1 1, .agg #[.int .i64 1, .int .i64 1, .int .i64 1]] wx (fun e w' => e = .returned (.tuple #[.int .i64 2, .int .i64 0]) ∧ Below wx.heap.size wx w') := by
  have h := cPlace_ok (some ⟨w.heap.size, 0, none⟩) 1 [⟨cO, none, 0⟩] ⟨1, 1, 1⟩ wx ((cO_ops w).below hx) cO_row
  have hw : wroteE (OpR.os [⟨cO, none, 0⟩]) ⟨1, 1, 1⟩ := .inr (by
    have : ordE (OpR.os [⟨cO, none, 0⟩]) = [⟨1, 1, 0⟩, ⟨1, 1, 1⟩] := by kernel_rfl
    rw [this]
    simp)
  have e1 : plE (OpR.os [⟨cO, none, 0⟩]) ⟨1, 1, 1⟩ = 2 := by kernel_rfl
  rw [(pl_yes hw).1, (pl_yes hw).2, e1] at h
  exact h
set_option maxRecDepth 100000 in
set_option maxHeartbeats 2000000 in
theorem wakes11_any (w : World) : Calls Tryz.prog 30 #[] w (BoB true w) := by
  have HSE := Lib.hid (cO_set w)
  have HPL := Lib.hid (cO_place w)
  have HB0 := Lib.hid (show Below w.heap.size w (cO_new w) from (Below.refl _ _).alloc (Nat.le_refl _) _)
  have HR0 := Lib.hid (Below.refl (cO_new w).heap.size (cO_new w))
  unfold cO_new at HSE HPL HB0 HR0
  go_enter Tryz.func30, Tryz.ntmps30
  go_wp2_with (first
    | (go_at_call 20; refine (HSE.out _ HR0.out).mono ?_; rintro x1 w1 ⟨rfl, hb1⟩; have HB1 := Lib.hid (HB0.out.trans (hb1.mono HB0.out.size)); have hba := (Below.refl w1.heap.size w1).alloc (Nat.le_refl _) (.cells #[.int .i64 0, .int .i64 0, .int .i64 0] 37); have HP1 := Lib.hid (HR0.out.trans ((hb1.trans (hba.mono hb1.size)).mono HR0.out.size)); have HBA := Lib.hid (HB1.out.trans (hba.mono HB1.out.size)); have HQ1 := Lib.hid (heap_alloc_new w1 (.cells #[.int .i64 0, .int .i64 0, .int .i64 0] 37)); have HL1 := Lib.hid (Array.getElem?_eq_some_iff.1 HQ1.out).1; clear hb1 hba)
    | (go_at_call 24; refine (HPL.out _ HP1.out).mono ?_; rintro x2 w2 ⟨rfl, hb2⟩; have HB2 := Lib.hid (HBA.out.trans (hb2.mono HBA.out.size)); obtain ⟨r0, r1, r2, rf, rl⟩ := cells3 ((hb2.block _ HL1.out).trans HQ1.out); clear hb2)
    | (go_at_call 22; refine (num11_same _ _).mono ?_; rintro xn wn ⟨rfl, hnn⟩; have hns := hnn.symm; clear hnn; subst hns)
    | fail)
  go_ret
  exact ⟨rfl, HB2.out⟩
end Go.Proofs.YthnedehihbploaaGreatDoor
/- a row with an op more; cells -/
namespace Go.Proofs.YthnedehihbploaaGreatDoor
open Go.RowKit Go.Lib Go.Sort

def cBehO (n : Nat) (D : List OpD) (w : World) (e : Ending) (w' : World) : Prop := ∃ a2 c2 L, e = .returned (.slice a2 n c2) ∧ L.length = n ∧ n ≤ c2 ∧ OpsAt w' a2 L ∧ OpR.os L = D ∧ Below w.heap.size w w'
theorem cSzs_rowP {L : List OpR} (hr : rowP (OpR.os L)) : Szs L ∧ ∀ r ∈ L, r.o.gone.length ≤ 1000000 := by
  refine ⟨fun r hm => ?_, fun r hm => ?_⟩
  · have := (okOp_text (row_ok hr.2 r.o (List.mem_map_of_mem hm))).2.2
    omega
  · have := (gone_ok (row_ok hr.2 r.o (List.mem_map_of_mem hm))).1
    omega
theorem cRBehind_o (a : Option Addr) (cap : Nat) (l : List OpR) (o : OpD) (oa : Option Addr) (oc : Nat) (w : World) (h : OpsAt w a l) (hr : rowP (OpR.os l)) (ho : ElemsAt w oa o.gone) (hgl : o.gone.length ≤ 1000000) (hts : o.text.size ≤ 60000) :
    Calls Tryz.prog 34 #[.slice a l.length cap, o.v oa oc] w (cBehO (l.length + 1) (OpR.os l ++ [o]) w) := by
  have hl40 : l.length ≤ 40 := by have := hr.1; rw [os_len] at this; exact this
  refine (rBehind_any a cap l o oa oc w h (cSzs_rowP hr).2 (by omega) ho hgl (by unfold BIG; omega)).mono ?_
  rintro x w' ⟨v, L, rfl, hown, hos, hb⟩
  have hlen : L.length = l.length + 1 := by
    have := congrArg List.length hos
    rw [os_len, List.length_append, os_len] at this
    exact this
  obtain ⟨a2, c2, hv, hops, hc⟩ := hown.ops (by rw [hlen]; unfold BIG; omega)
  rw [hlen] at hv hc
  exact ⟨a2, c2, L, by rw [hv], hlen, hc, hops, hos, hb⟩
theorem cRRow_o {l : List OpR} {o : OpD} (hr : rowP (OpR.os l)) (hts : o.text.size ≤ 60000) (a2 : Option Addr) (c2 : Nat) (L : List OpR) (wx : World) (hT : Tabs wx) (hl : L.length = l.length + 1) (hc : l.length + 1 ≤ c2) (hops : OpsAt wx a2 L) (hos : OpR.os L = OpR.os l ++ [o]) :
    Calls Tryz.prog 19 #[.slice a2 (l.length + 1) c2] wx (BoB (rowB (OpR.os l ++ [o])) wx) := by
  have hsz : Szs L := fun r hm => by
    have h1 : r.o ∈ OpR.os L := List.mem_map_of_mem hm
    rw [hos, List.mem_append, List.mem_singleton] at h1
    rcases h1 with h1 | h1
    · have := (okOp_text (row_ok hr.2 r.o h1)).2.2
      omega
    · rw [h1]
      exact hts
  have h9 := rRow_any a2 c2 L wx hT hsz hops (by omega)
  rw [hl, hos] at h9
  exact h9
theorem cCells11P {w : World} {b : Nat} {t : TypeId} {c0 c1 c2 c3 c4 c5 c6 c7 c8 c9 ca : Value} (h : w.heap[b]? = some (.cells #[c0, c1, c2, c3, c4, c5, c6, c7, c8, c9, ca] t (0, 0))) :
    w.cell? ⟨b, 0, none⟩ = some c0 ∧ w.cell? ⟨b, 1, none⟩ = some c1 ∧ w.cell? ⟨b, 2, none⟩ = some c2 ∧ w.cell? ⟨b, 3, none⟩ = some c3 ∧ w.cell? ⟨b, 4, none⟩ = some c4 ∧ w.cell? ⟨b, 5, none⟩ = some c5 ∧ w.cell? ⟨b, 6, none⟩ = some c6 ∧ w.cell? ⟨b, 7, none⟩ = some c7 ∧ w.cell? ⟨b, 8, none⟩ = some c8 ∧ w.cell? ⟨b, 9, none⟩ = some c9 ∧ w.cell? ⟨b, 10, none⟩ = some ca ∧ (∀ c, w.frozen? ⟨b, c, none⟩ = false) ∧ b < w.heap.size := by
  refine ⟨?_, ?_, ?_, ?_, ?_, ?_, ?_, ?_, ?_, ?_, ?_, fun c => ?_, (Array.getElem?_eq_some_iff.1 h).1⟩
  all_goals first | (simp [World.cell?, h]; done) | (simp [World.frozen?, h])
def cZopV : Value := .agg #[.int .i64 0, .int .i64 0, .int .i64 0, .int .i64 0, .int .i64 0, .int .i64 0, .string ⟨#[]⟩, .slice none 0 0, .int .i64 0, .int .i64 0, .int .i64 0]
theorem cSet11 {w w0 : World} {b : Nat} (hb : Below b w w0) (v0 v1 v2 v3 v4 v5 v6 v7 v8 v9 va : Value) : Below b w (((((((((((w0.setCell ⟨b, 0, none⟩ v0).setCell ⟨b, 1, none⟩ v1).setCell ⟨b, 2, none⟩ v2).setCell ⟨b, 3, none⟩ v3).setCell ⟨b, 4, none⟩ v4).setCell ⟨b, 5, none⟩ v5).setCell ⟨b, 6, none⟩ v6).setCell ⟨b, 7, none⟩ v7).setCell ⟨b, 8, none⟩ v8).setCell ⟨b, 9, none⟩ v9).setCell ⟨b, 10, none⟩ va) := by
  have hg : b ≤ b := Nat.le_refl _
  iterate 11 (refine Below.setCell ?_ hg _)
  exact hb
theorem cCnt_small {l : List OpD} (hr : rowP l) (s : Int) : cnt l s ≤ 40 := Nat.le_trans (cnt_le l s) hr.1
end Go.Proofs.YthnedehihbploaaGreatDoor
/- the page's Set, Place, Near -/
namespace Go.Proofs.YthnedehihbploaaGreatDoor
open Go.RowKit Go.Lib Go.Sort

theorem szs_rowC {L : List OpR} (hr : rowP (OpR.os L)) : Szs L := fun r hm => by
  have := (okOp_text (row_ok hr.2 r.o (List.mem_map_of_mem hm))).2.2
  omega
def SetBPost (x : El) (b : Bool) (w : World) (e : Ending) (w' : World) : Prop := e = .returned (.tuple #[.agg #[.int .i64 x.s, .int .i64 x.q, .int .i64 x.i], .bool b]) ∧ Below w.heap.size w w'
theorem setE_at {D : List OpD} {k : Nat} (h : k < (visE D).length) : setE D ((k : Int) + 1) = (visE D)[k] := by
  unfold setE
  rw [if_pos (by omega), show ((k : Int) + 1).toNat = k + 1 from by omega]
  have h1 : ((visE D).take (k + 1)).length = k + 1 := by rw [List.length_take]; omega
  rw [lastE_at h1, List.getElem_take]
theorem setE_zero (D : List OpD) : setE D 0 = B0 := by
  unfold setE
  rw [if_pos (by omega)]
  rfl
theorem setE_out {D : List OpD} {at_ : Int} (h : ¬ (0 ≤ at_ ∧ at_ ≤ ((visE D).length : Int))) : setE D at_ = B0 := by
  unfold setE
  rw [if_neg h]
set_option maxRecDepth 100000 in
set_option maxHeartbeats 2000000 in
theorem rSet_any (a : Option Addr) (cap : Nat) (l : List OpR) (at_ : Int) (w : World) (hT : Tabs w) (h : OpsAt w a l) (hr : rowP (OpR.os l)) : Calls Tryz.prog 21 #[.slice a l.length cap, .int .i64 at_] w (SetBPost (setE (OpR.os l) at_) (decide (0 ≤ at_ ∧ at_ ≤ ((visE (OpR.os l)).length : Int))) w) := by
  have HV := Lib.hid (fun wx (hx : Below w.heap.size w wx) => rVis_any a cap l wx (hT.next hx) (szs_rowC hr) (h.below hx) hr)
  have hb0 : Below w.heap.size w (w.alloc (.cells #[.int .i64 0, .int .i64 0, .int .i64 0] 37)) := (Below.refl _ _).alloc (Nat.le_refl _) _
  have HB0 := Lib.hid hb0
  have hq := heap_alloc_new w (.cells #[.int .i64 0, .int .i64 0, .int .i64 0] 37)
  have HQ := Lib.hid hq
  have hql := (Array.getElem?_eq_some_iff.1 hq).1
  have hv2 := visE_le hr.2
  have HNM := Lib.hid (fun (hi : Int) wx => rNum_any at_ hi wx)
  unfold Bo at HNM
  unfold OwnPost at HV
  have HSA := Lib.hid (fun k hk => setE_at (D := OpR.os l) (k := k) hk)
  have HSO := Lib.hid (fun hk => setE_out (D := OpR.os l) (at_ := at_) hk)
  have HSZ := Lib.hid (setE_zero (OpR.os l))
  generalize setE (OpR.os l) = SE at *
  generalize visE (OpR.os l) = V at *
  generalize l.length = n at *
  obtain ⟨nv, hnv⟩ : ∃ m, V.length = m := ⟨_, rfl⟩
  have HNV := Lib.hid hnv
  rw [hnv] at HV hv2 ⊢
  have hvi : (nv : Int) ≤ 200 := by omega
  clear h hr hq hb0 hT
  by_cases hat : 0 ≤ at_ ∧ at_ ≤ (nv : Int)
  · have HBT := Lib.hid (show btw at_ 0 (nv : Int) = true from decide_eq_true hat)
    rw [decide_eq_true hat]
    by_cases hz : at_ = 0
    · subst hz
      rw [HSZ.out]
      unfold SetBPost B0
      clear hat hnv hv2
      go_enter Tryz.func21, Tryz.ntmps21
      go_wp2_with (first
        | (go_at_call 32; refine (HV.out _ HB0.out).mono ?_; rintro x1 w1 ⟨v1, rfl, hown1, hb1⟩; obtain ⟨av, cv, hv1, -, -, -⟩ := elems_own (by rw [HNV.out]; exact hown1); rw [HNV.out] at hv1; subst hv1; have HB1 := Lib.hid (HB0.out.trans (hb1.mono HB0.out.size)); obtain ⟨r0, r1, r2, rf, rl⟩ := cells3 ((hb1.block _ hql).trans HQ.out); clear hb1 hown1)
        | (go_at_call 14; refine (HNM.out (nv : Int) w1).mono ?_; rw [HBT.out]; rintro x2 w2 ⟨rfl, rfl⟩)
        | fail)
      refine bodyPost_ret (v := .tuple #[.agg #[.int .i64 0, .int .i64 0, .int .i64 0], .bool true]) (by simp [results, Tryz.results21, go_sem, r0, r1, r2]) rfl ⟨rfl, ?_⟩
      exact set3 HB1.out (Nat.le_refl _) _ _ _
    · obtain ⟨k, rfl⟩ : ∃ k : Nat, at_ = (k : Int) + 1 := ⟨(at_ - 1).toNat, by omega⟩
      have hkv : k < V.length := by omega
      rw [HSA.out k hkv]
      have hki : (k : Int) < (nv : Int) := by omega
      have hk0 : (0 : Int) ≤ (k : Int) := by omega
      have hz1 : ¬ ((k : Int) + 1 = 0) := by omega
      have hz2 : (((k : Int) + 1) == 0) = false := by simp; omega
      have hk2 : (k : Int) ≤ 200 := by omega
      have HE := Lib.hid (fun (wx : World) (b : Option Addr) (hx : ElemsAt wx b V) => hx.cell k hkv)
      generalize V[k] = y at *
      obtain ⟨ys, yq, yi⟩ := y
      unfold SetBPost
      simp only at HE ⊢
      clear hat hnv hv2 hz hkv
      go_enter Tryz.func21, Tryz.ntmps21
      go_wp2_with (first
        | (go_at_call 32; refine (HV.out _ HB0.out).mono ?_; rintro x1 w1 ⟨v1, rfl, hown1, hb1⟩; obtain ⟨av, cv, hv1, hev, -, -⟩ := elems_own (by rw [HNV.out]; exact hown1); rw [HNV.out] at hv1; subst hv1; obtain ⟨eb, eo, rfl, heb, x0, x1, x2⟩ := HE.out w1 av hev; have HB1 := Lib.hid (HB0.out.trans (hb1.mono HB0.out.size)); obtain ⟨r0, r1, r2, rf, rl⟩ := cells3 ((hb1.block _ hql).trans HQ.out); clear hb1 hown1 hev)
        | (go_at_call 14; refine (HNM.out (nv : Int) w1).mono ?_; rw [HBT.out]; rintro x2 w2 ⟨rfl, rfl⟩)
        | fail)
      refine bodyPost_ret (v := .tuple #[.agg #[.int .i64 ys, .int .i64 yq, .int .i64 yi], .bool true]) (by simp [results, Tryz.results21, go_sem, r0, r1, r2]) rfl ⟨rfl, ?_⟩
      exact set3 HB1.out (Nat.le_refl _) _ _ _
  · have HBT := Lib.hid (show btw at_ 0 (nv : Int) = false from decide_eq_false hat)
    rw [decide_eq_false hat, HSO.out (by rw [HNV.out]; exact hat)]
    unfold SetBPost B0
    clear hat hnv hv2
    go_enter Tryz.func21, Tryz.ntmps21
    go_wp2_with (first
      | (go_at_call 32; refine (HV.out _ HB0.out).mono ?_; rintro x1 w1 ⟨v1, rfl, hown1, hb1⟩; obtain ⟨av, cv, hv1, -, -, -⟩ := elems_own (by rw [HNV.out]; exact hown1); rw [HNV.out] at hv1; subst hv1; have HB1 := Lib.hid (HB0.out.trans (hb1.mono HB0.out.size)); obtain ⟨r0, r1, r2, rf, rl⟩ := cells3 ((hb1.block _ hql).trans HQ.out); clear hb1 hown1)
      | (go_at_call 14; refine (HNM.out (nv : Int) w1).mono ?_; rw [HBT.out]; rintro x2 w2 ⟨rfl, rfl⟩)
      | fail)
    refine bodyPost_ret (v := .tuple #[.agg #[.int .i64 0, .int .i64 0, .int .i64 0], .bool false]) (by simp [results, Tryz.results21, go_sem, r0, r1, r2]) rfl ⟨rfl, ?_⟩
    exact set3 HB1.out (Nat.le_refl _) _ _ _
theorem pl_step {D : List OpD} {k : Nat} (h : k < (ordE D).length) : (((ordE D).take (k + 1)).filter (vis D)).length = (((ordE D).take k).filter (vis D)).length + if 0 ≤ atI (visE D) (ordE D)[k] then 1 else 0 := by
  rw [List.take_succ_eq_append_getElem h, List.filter_append, List.length_append]
  congr 1
  by_cases hv : vis D (ordE D)[k] = true
  · have hm : (ordE D)[k] ∈ visE D := List.mem_filter.2 ⟨List.getElem_mem h, hv⟩
    rw [if_pos (atI_pos hm)]
    simp [hv]
  · have hm : (ordE D)[k] ∉ visE D := fun hm => hv (List.mem_filter.1 hm).2
    rw [atI_neg hm, if_neg (by omega)]
    simp [hv]
set_option maxRecDepth 100000 in
set_option maxHeartbeats 4000000 in
theorem rPlace_any (a : Option Addr) (cap : Nat) (l : List OpR) (e : El) (w : World) (hT : Tabs w) (h : OpsAt w a l) (hr : rowP (OpR.os l)) (he : wroteE (OpR.os l) e) : Calls Tryz.prog 27 #[.slice a l.length cap, e.v] w (IntB (plE (OpR.os l) e) w) := by
  have HV := Lib.hid (fun wx (hx : Below w.heap.size w wx) => rVis_any a cap l wx (hT.next hx) (szs_rowC hr) (h.below hx) hr)
  have HO := Lib.hid (fun wx (hx : Below w.heap.size w wx) => rOrder_any a cap l wx (hT.next hx) (szs_rowC hr) (h.below hx) hr)
  have HBE := Lib.hid (fun wx => Begin_any e wx)
  have HB0 : RowKit.Hid (Below w.heap.size w (w.alloc (.cells #[.int .i64 e.s, .int .i64 e.q, .int .i64 e.i] 37))) := Lib.hid ((Below.refl _ _).alloc (Nat.le_refl _) _)
  have HX := Lib.hid (BoxE.new w e)
  have ho2 := ord_le200 hr
  have hv2 := visE_le hr.2
  unfold OwnPost at HV HO
  unfold BoB at HBE
  by_cases heb : e = B0
  · subst heb
    rw [pl_begin hr.2]
    rw [show B0.begin = true from by decide] at HBE
    generalize l.length = n at *
    obtain ⟨p0x, p1x, p2x, p3x⟩ := HX.out
    clear h hr he hT ho2 hv2 HV HO
    unfold B0 at *
    unfold El.v at HBE ⊢
    simp only at p1x p2x p3x HB0 HBE ⊢
    go_enter Tryz.func27, Tryz.ntmps27
    go_wp2_with (first
      | (go_at_call 57; refine (HBE.out _).mono ?_; rintro x1 w1 ⟨rfl, hb1⟩; have HB1 := Lib.hid (HB0.out.trans (hb1.mono HB0.out.size)); clear hb1)
      | fail)
    go_ret
    exact ⟨rfl, HB1.out⟩
  · have hm : e ∈ ordE (OpR.os l) := by
      rcases he with h9 | h9
      · exact absurd h9 heb
      · exact h9
    rw [show e.begin = false from by
      cases hbb : e.begin with
      | false => rfl
      | true => exact absurd (begin_B0 hbb) heb] at HBE
    have hu := up_at hm
    have HPS := Lib.hid (fun k hk => pl_step (D := OpR.os l) (k := k) hk)
    have hpe : plE (OpR.os l) e = (((ordE (OpR.os l)).take (upE (OpR.os l) e)).filter (vis (OpR.os l))).length := rfl
    rw [hpe]
    have hpz : (((ordE (OpR.os l)).take 0).filter (vis (OpR.os l))).length = 0 := by simp
    obtain ⟨F, hF⟩ : ∃ F : Nat → Nat, ∀ k, (((ordE (OpR.os l)).take k).filter (vis (OpR.os l))).length = F k := ⟨_, fun _ => rfl⟩
    rw [hF]
    rw [hF] at hpz
    simp only [hF] at HPS
    have HFL := Lib.hid (fun k => (by
      rw [← hF]
      have h1 : (((ordE (OpR.os l)).take k).filter (vis (OpR.os l))).length ≤ ((ordE (OpR.os l)).take k).length := List.length_filter_le _ _
      rw [List.length_take] at h1
      omega : F k ≤ k))
    have HF0 := Lib.hid hpz
    have HIO := Lib.hid (fun (b : Option Addr) (c : Nat) wx (hx : ElemsAt wx b (ordE (OpR.os l))) => At_any b c (ordE (OpR.os l)) e wx hx (by omega))
    have HIV := Lib.hid (fun (b : Option Addr) (c : Nat) (x : El) wx (hx : ElemsAt wx b (visE (OpR.os l))) => At_any b c (visE (OpR.os l)) x wx hx (by omega))
    unfold IntB at HIO HIV
    clear hpe hF hpz
    obtain ⟨hu1, hu2, hu3⟩ := hu
    generalize upE (OpR.os l) e = u at *
    rw [show atI (ordE (OpR.os l)) e = (u : Int) - 1 from by omega] at HIO
    generalize ordE (OpR.os l) = X at *
    generalize visE (OpR.os l) = V at *
    obtain ⟨m, hm1⟩ : ∃ m, X.length = m := ⟨_, rfl⟩
    obtain ⟨nv, hnv⟩ : ∃ m, V.length = m := ⟨_, rfl⟩
    have HM := Lib.hid hm1
    have HNV := Lib.hid hnv
    rw [hm1] at HO HIO hu3 ho2
    rw [hnv] at HV hv2 HIV
    have HU := Lib.hid (And.intro hu2 hu3)
    have hu200 : (u : Int) ≤ 200 := by omega
    have HM2 := Lib.hid ho2
    generalize l.length = n at *
    clear hm1 hnv h hr he hT hv2 hu1 hm heb hu2 hu3 ho2
    obtain ⟨s, q, i⟩ := e
    unfold El.v at HIO HBE ⊢
    simp only at HX HB0 HIO HBE ⊢
    go_enter Tryz.func27, Tryz.ntmps27
    obtain ⟨hlt, p0, p1, p2⟩ := HX.out
    simp only at p0 p1 p2
    go_wp2_with (first
      | (go_at_call 57; refine (HBE.out _).mono ?_; rintro x1 w1 ⟨rfl, hb1⟩; have HX1 := Lib.hid (HX.out.step hb1); have HB1 := Lib.hid (HB0.out.trans (hb1.mono HB0.out.size)); clear hb1 hlt p0 p1 p2)
      | (go_at_call 32; refine (HV.out w1 HB1.out).mono ?_; rintro x2 w2 ⟨v2, rfl, hown2, hb2⟩; obtain ⟨av, cv, hv2, hev, -, -⟩ := elems_own (by rw [HNV.out]; exact hown2); rw [HNV.out] at hv2; subst hv2; have HEV := Lib.hid hev; have HX2 := Lib.hid (HX1.out.step hb2); have HB2 := Lib.hid (HB1.out.trans (hb2.mono HB1.out.size)); clear hb2 hown2 hev)
      | (go_at_call 59; refine (HO.out w2 HB2.out).mono ?_; rintro x3 w3 ⟨v3, rfl, hown3, hb3⟩; obtain ⟨ax, cx, hv3, hex, -, -⟩ := elems_own (by rw [HM.out]; exact hown3); rw [HM.out] at hv3; subst hv3; have HEX := Lib.hid hex; have HEV3 := Lib.hid (HEV.out.below hb3); have HX3 := Lib.hid (HX2.out.step hb3); have HB3 := Lib.hid (HB2.out.trans (hb3.mono HB2.out.size)); clear hb3 hown3 hex)
      | fail)
    go_loopw [7, 8] (fun s7 s8 wr => ∃ k : Nat, s8 = .int .i64 k ∧ k ≤ u ∧ s7 = .int .i64 (F k) ∧ Below w3.heap.size w3 wr) (fun _ s8 _ => u - (RowKit.intOf s8).toNat)
    case atStart => exact ⟨0, rfl, Nat.zero_le _, by rw [HF0.out]; rfl, Below.refl _ _⟩
    case round =>
      obtain ⟨k, rfl, hk, rfl, hb⟩ := hrel
      have HB := Lib.hid hb
      obtain ⟨hlt, p0, p1, p2⟩ := HX3.out.step hb
      simp only at p0 p1 p2
      by_cases hku : k < u
      · have hd : decide ((k : Int) ≤ (u : Int) - 1) = true := decide_eq_true (by omega)
        have hkx : k < X.length := by rw [HM.out]; have := HU.out.2; omega
        have hps := HPS.out k hkx
        have hfl := HFL.out k
        have HXE := Lib.hid (fun (wx : World) (hx : Below w3.heap.size w3 wx) => (HEX.out.below hx).cell k hkx)
        obtain ⟨b2, o2, h1, -⟩ := HXE.out w3 (Below.refl _ _)
        subst h1
        have HXD := Lib.hid (fun (wx : World) (hx : Below w3.heap.size w3 wx) => (by
          obtain ⟨b3, o3, h1, h2⟩ := HXE.out wx hx
          simp only [Option.some.injEq, Addr.mk.injEq] at h1
          obtain ⟨rfl, rfl, -⟩ := h1
          exact h2))
        have hkm : (k : Int) < (m : Int) := by have := HU.out.2; omega
        have hk0 : (0 : Int) ≤ (k : Int) := by omega
        have hm200 : (m : Int) ≤ 200 := by have := HM2.out; omega
        have HA2 := Lib.hid (fun wx (hx : Below w3.heap.size w3 wx) => HIV.out av cv X[k] wx (HEV3.out.below hx))
        clear HXE
        generalize atI V X[k] = z at *
        generalize X[k] = x at *
        obtain ⟨xs, xq, xi⟩ := x
        unfold El.v at HA2
        simp only at HXD HA2
        generalize F k = fk at *
        have hfi : (fk : Int) ≤ 200 := by have := HU.out.2; omega
        clear hb hkx
        by_cases hz : 0 ≤ z
        · have hdz : decide (0 ≤ z) = true := decide_eq_true hz
          rw [if_pos hz] at hps
          have HPZ := Lib.hid hps
          clear hps hz hfl
          go_wp2_with (first
            | (go_at_call_has 60 (Value.slice av nv cv); refine (HA2.out wy HBY.out).mono ?_; rintro x13 wz ⟨rfl, hbz⟩; have HBZ := Lib.hid (HBY.out.trans (hbz.mono HBY.out.size)); clear hbz y0 y1 y2 y3)
            | (go_at_call 60; refine (HIO.out _ _ wr (HEX.out.below HB.out)).mono ?_; rintro x12 wy ⟨rfl, hby⟩; have HBY := Lib.hid (HB.out.trans (hby.mono HB.out.size)); obtain ⟨y0, y1, y2, y3⟩ := HXD.out wy HBY.out; clear hby hlt p0 p1 p2)
            | fail)
          go_roundw
          case rel => exact ⟨k + 1, by go_num, by omega, by rw [HPZ.out]; go_num, HBZ.out⟩
          case measure => simp [RowKit.intOf]; omega
        · have hdz : decide (0 ≤ z) = false := decide_eq_false hz
          rw [if_neg hz] at hps
          have HPZ := Lib.hid hps
          clear hps hz hfl
          go_wp2_with (first
            | (go_at_call_has 60 (Value.slice av nv cv); refine (HA2.out wy HBY.out).mono ?_; rintro x13 wz ⟨rfl, hbz⟩; have HBZ := Lib.hid (HBY.out.trans (hbz.mono HBY.out.size)); clear hbz y0 y1 y2 y3)
            | (go_at_call 60; refine (HIO.out _ _ wr (HEX.out.below HB.out)).mono ?_; rintro x12 wy ⟨rfl, hby⟩; have HBY := Lib.hid (HB.out.trans (hby.mono HB.out.size)); obtain ⟨y0, y1, y2, y3⟩ := HXD.out wy HBY.out; clear hby hlt p0 p1 p2)
            | fail)
          go_roundw
          case rel => exact ⟨k + 1, by go_num, by omega, by rw [HPZ.out]; go_num, HBZ.out⟩
          case measure => simp [RowKit.intOf]; omega
      · have hd : decide ((k : Int) ≤ (u : Int) - 1) = false := decide_eq_false (by omega)
        have h0 : k = u := by omega
        subst h0
        clear hb
        go_wp2_with (first
          | (go_at_call 60; refine (HIO.out _ _ wr (HEX.out.below HB.out)).mono ?_; rintro x12 wy ⟨rfl, hby⟩; have HBY := Lib.hid (HB.out.trans (hby.mono HB.out.size)); clear hby hlt p0 p1 p2)
          | fail)
        go_ret
        exact ⟨rfl, HB3.out.trans (HBY.out.mono HB3.out.size)⟩
end Go.Proofs.YthnedehihbploaaGreatDoor
