/- lectionaryref0.EqElems; the row that wakes -/
import Derived.Test.YthnedehihbploaaGreatDoorTCheck
import Derived.Test.YthnedehihbploaaGreatDoorVArgs
import Derived.Test.YthnedehihbploaaGreatDoorTPages
namespace Go.Proofs.YthnedehihbploaaGreatDoor
open Go.RowKit Go.Lib

theorem el_split (a b : El) : (a = b ∧ a.s = b.s ∧ a.q = b.q ∧ a.i = b.i) ∨ (¬ a = b ∧ (a.s ≠ b.s ∨ (a.s = b.s ∧ a.q ≠ b.q) ∨ (a.s = b.s ∧ a.q = b.q ∧ a.i ≠ b.i))) := by
  by_cases h : a = b
  · exact .inl ⟨h, by rw [h], by rw [h], by rw [h]⟩
  · exact .inr ⟨h, el_ne h⟩
set_option maxRecDepth 100000 in
set_option maxHeartbeats 2000000 in
theorem EqElems_any (aa ab : Option Addr) (ca cb : Nat) (la lb : List El) (w : World) (h : ElemsAt w aa la) (h2 : ElemsAt w ab lb) (hl : la.length ≤ 1000000) (_hl2 : lb.length ≤ 1000000) :
    Calls Tryz.prog 91 #[.slice aa la.length ca, .slice ab lb.length cb] w (BoB (decide (la = lb)) w) := by
  by_cases hlen : la.length = lb.length
  · have HA := Lib.hid h
    have HB := Lib.hid h2
    obtain ⟨n, hn⟩ : ∃ n, la.length = n := ⟨_, rfl⟩
    have HNA := Lib.hid hn
    have HNB := Lib.hid (hlen.symm.trans hn)
    rw [← hlen, hn]
    rw [hn] at hl
    clear h h2 hn hlen _hl2
    go_enter Tryz.func91, Tryz.ntmps91
    go_wp2_with fail
    go_loopw [5] (fun s5 wr => ∃ k : Nat, s5 = .int .i64 k ∧ k ≤ n ∧ Below w.heap.size w wr ∧ ∀ j, j < k → la[j]? = lb[j]?) (fun s5 _ => n - (RowKit.intOf s5).toNat)
    case atStart => exact ⟨0, rfl, Nat.zero_le _, Below.refl _ _, fun j hj => absurd hj (by omega)⟩
    case round =>
      obtain ⟨k, rfl, hk, hb, hall⟩ := hrel
      have HALL := Lib.hid hall
      have HBW := Lib.hid hb
      clear hall
      by_cases hlt : k < n
      · have hka : k < la.length := by rw [HNA.out]; exact hlt
        have hkb : k < lb.length := by rw [HNB.out]; exact hlt
        obtain ⟨b, off, rfl, hbb, x0, x1, x2⟩ := (HA.out.below hb).cell k hka
        obtain ⟨b2, off2, rfl, hbb2, y0, y1, y2⟩ := (HB.out.below hb).cell k hkb
        have HG := Lib.hid (show la[k]? = some la[k] from List.getElem?_eq_getElem hka)
        have HG2 := Lib.hid (show lb[k]? = some lb[k] from List.getElem?_eq_getElem hkb)
        clear hb
        generalize la[k] = x at *
        generalize lb[k] = y at *
        clear hka hkb
        have hsp := el_split x y
        obtain ⟨xs, xq, xi⟩ := x
        obtain ⟨ys, yq, yi⟩ := y
        simp only at x0 x1 x2 y0 y1 y2 hsp
        rcases hsp with ⟨he, z0, z1, z2⟩ | ⟨hne, hz⟩
        · have HE := Lib.hid (HG.out.trans (HG2.out.trans (by rw [he])).symm)
          clear he
          subst z0
          subst z1
          subst z2
          go_wp2_with fail
          go_quiet (fail)
          go_wp2
          go_roundw
          case rel => exact ⟨k + 1, by go_num, by omega, HBW.out.trans ((Same.drewN wr _).below _), fun j hj => by
            by_cases hjk : j = k
            · rw [hjk, HG.out, HG2.out]
            · exact HALL.out j (by omega)⟩
          case measure => simp [RowKit.intOf]; omega
        · have HF := Lib.hid (show decide (la = lb) = false from decide_eq_false (fun e => by
            have h1 := HG.out
            rw [e, HG2.out] at h1
            simp only [Option.some.injEq] at h1
            exact hne h1.symm))
          clear hne
          rcases hz with z0 | ⟨z0, z1⟩ | ⟨z0, z1, z2⟩
          all_goals
            try subst z0
            try subst z1
            go_wp2_with fail
            go_quiet (fail)
            go_wp2
            go_ret
            exact ⟨ret_bool HF.out.symm, HBW.out.trans ((Same.drewN wr _).below _)⟩
      · have h0 : k = n := by omega
        have HF := Lib.hid (show decide (la = lb) = true from decide_eq_true (by
          apply List.ext_getElem?
          intro j
          by_cases hj : j < n
          · exact HALL.out j (by omega)
          · rw [List.getElem?_eq_none (by rw [HNA.out]; omega), List.getElem?_eq_none (by rw [HNB.out]; omega)]))
        clear hb
        go_wp2
        go_ret
        exact ⟨ret_bool HF.out.symm, HBW.out⟩
  · have HF := Lib.hid (show decide (la = lb) = false from decide_eq_false (fun e => hlen (by rw [e])))
    generalize la.length = n1 at *
    generalize lb.length = n2 at *
    have hne : ¬ ((n1 : Int) = (n2 : Int)) := by omega
    clear h h2 hlen
    go_enter Tryz.func91, Tryz.ntmps91
    go_wp2
    go_ret
    exact ⟨ret_bool HF.out.symm, Below.refl _ _⟩

/-- the row that wakes -/
def wk1 : OpD := ⟨1, 1, 1, ⟨0, 0, 0⟩, ⟨#[97]⟩, [], 0, 0, 0⟩
def wk2 : OpD := ⟨2, 1, 1, ⟨0, 0, 0⟩, ⟨#[98]⟩, [], 0, 0, 0⟩
theorem wk_row : rowP [wk1, wk2] := by
  refine ⟨by decide, fun k hk => ?_⟩
  have : k = 0 ∨ k = 1 := by simp at hk; omega
  rcases this with rfl | rfl
  · show tk [] wk1 = true
    kernel_rfl
  · show tk [wk1] wk2 = true
    kernel_rfl
theorem wk_ord : ordE [wk1, wk2] = [⟨2, 1, 0⟩, ⟨1, 1, 0⟩] := by kernel_rfl
end Go.Proofs.YthnedehihbploaaGreatDoor
/- lectionaryref0.At -/
namespace Go.Proofs.YthnedehihbploaaGreatDoor
open Go.RowKit Go.Lib

set_option maxRecDepth 100000 in
set_option maxHeartbeats 2000000 in
theorem At_any (a : Option Addr) (cap : Nat) (l : List El) (e : El) (w : World) (h : ElemsAt w a l) (hl : l.length ≤ 1000000) :
    Calls Tryz.prog 60 #[.slice a l.length cap, e.v] w (IntB (atI l e) w) := by
  have HH := Lib.hid h
  obtain ⟨n, hn⟩ : ∃ n, l.length = n := ⟨_, rfl⟩
  have HN := Lib.hid hn
  rw [hn] at hl ⊢
  have hbx := BoxE.new w e
  have HB0 : RowKit.Hid (Below w.heap.size w (w.alloc (.cells #[.int .i64 e.s, .int .i64 e.q, .int .i64 e.i] 37))) := Lib.hid ((Below.refl _ _).alloc (Nat.le_refl _) _)
  have HBX := Lib.hid hbx
  clear h hn hbx
  obtain ⟨s, q, i⟩ := e
  unfold El.v
  simp only at HB0 HBX ⊢
  go_enter Tryz.func60, Tryz.ntmps60
  go_wp2_with fail
  go_loopw [5] (fun s5 wr => ∃ k : Nat, s5 = .int .i64 k ∧ k ≤ n ∧ Below w.heap.size w wr ∧ BoxE wr w.heap.size ⟨s, q, i⟩ ∧ ∀ j x, j < k → l[j]? = some x → x ≠ ⟨s, q, i⟩) (fun s5 _ => n - (RowKit.intOf s5).toNat)
  case atStart => exact ⟨0, rfl, Nat.zero_le _, HB0.out, HBX.out, fun j x hj => absurd hj (by omega)⟩
  case round =>
    clear HB0 HBX
    obtain ⟨k, rfl, hk, hb, hbx, hall⟩ := hrel
    have HALL := Lib.hid hall
    have HBX := Lib.hid hbx
    have HB := Lib.hid hb
    clear hall
    by_cases hlt : k < n
    · have hkl : k < l.length := by rw [HN.out]; exact hlt
      obtain ⟨b, off, rfl, hbb, x0, x1, x2⟩ := (HH.out.below hb).cell k hkl
      have y0 := hbx.c0
      have y1 := hbx.c1
      have y2 := hbx.c2
      have hyl := hbx.lt
      have HG := Lib.hid (show l[k]? = some l[k] from List.getElem?_eq_getElem hkl)
      clear hb hbx
      generalize l[k] = x at *
      clear hkl
      have hsp := el_split x ⟨s, q, i⟩
      obtain ⟨xs, xq, xi⟩ := x
      simp only at x0 x1 x2 hsp
      rcases hsp with ⟨he, z0, z1, z2⟩ | ⟨hne, hz⟩
      · have HE := Lib.hid he
        clear he
        subst z0
        subst z1
        subst z2
        go_wp2_with fail
        go_quiet (fail)
        go_wp2
        go_ret
        refine ⟨?_, HB.out.trans ((Same.drewN wr nq).below _)⟩
        have hmem : (⟨xs, xq, xi⟩ : El) ∈ l := List.mem_of_getElem? HG.out
        unfold atI
        rw [if_pos hmem]
        congr 2
        refine (List.findIdx_eq (by have := (List.getElem?_eq_some_iff.1 HG.out).1; exact this)).2 ⟨?_, ?_⟩ |>.symm ▸ rfl
        · have := (List.getElem?_eq_some_iff.1 HG.out).2
          simpa using this
        · intro j hj
          have := HALL.out j (l[j]'(by have := (List.getElem?_eq_some_iff.1 HG.out).1; omega)) hj (List.getElem?_eq_getElem _)
          simpa using this
      · have HNE := Lib.hid hne
        clear hne
        rcases hz with z0 | ⟨z0, z1⟩ | ⟨z0, z1, z2⟩
        all_goals
          try subst z0
          try subst z1
          go_wp2_with fail
          go_quiet (fail)
          go_wp2
          go_roundw
          case rel => exact ⟨k + 1, by go_num, by omega, HB.out.trans ((Same.drewN wr _).below _), HBX.out.next ((Same.drewN wr _).below wr.heap.size) HBX.out.lt, fun j x hj hx => by
            by_cases hjk : j = k
            · rw [hjk, HG.out] at hx; cases hx; exact HNE.out
            · exact HALL.out j x (by omega) hx⟩
          case measure => simp [RowKit.intOf]; omega
    · have h0 : k = n := by omega
      have HF := Lib.hid (show atI l ⟨s, q, i⟩ = -1 from by
        unfold atI
        rw [if_neg]
        intro hm
        obtain ⟨j, hj, he⟩ := List.getElem_of_mem hm
        exact HALL.out j _ (by rw [h0, ← HN.out]; exact hj) (List.getElem?_eq_getElem hj) he)
      clear hb hbx
      go_wp2
      go_ret
      exact ⟨by rw [HF.out]; rfl, HB.out⟩

end Go.Proofs.YthnedehihbploaaGreatDoor
