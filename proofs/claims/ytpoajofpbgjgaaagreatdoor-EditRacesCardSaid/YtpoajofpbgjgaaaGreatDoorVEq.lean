/- lectionaryref0.EqElems; the row that wakes -/
import Derived.Test.YtpoajofpbgjgaaaGreatDoorTCheck
import Derived.Test.YtpoajofpbgjgaaaGreatDoorVArgs
import Derived.Test.YtpoajofpbgjgaaaGreatDoorTPages
namespace Go.Proofs.YtpoajofpbgjgaaaGreatDoor
open Go.RowKit Go.Lib

theorem el_split (a b : El) : (a = b ∧ a.s = b.s ∧ a.q = b.q ∧ a.i = b.i) ∨ (¬ a = b ∧ (a.s ≠ b.s ∨ (a.s = b.s ∧ a.q ≠ b.q) ∨ (a.s = b.s ∧ a.q = b.q ∧ a.i ≠ b.i))) := by
  by_cases h : a = b
  · exact .inl ⟨h, by rw [h], by rw [h], by rw [h]⟩
  · exact .inr ⟨h, el_ne h⟩
/-- the row that wakes -/
def wk1 : OpD := ⟨1, 1, 1, ⟨0, 0, 0⟩, ⟨#[97]⟩, [], 0, 0, 0⟩
def wk2 : OpD := ⟨2, 1, 1, ⟨0, 0, 0⟩, ⟨#[98]⟩, [], 0, 0, 0⟩
theorem wk_row : rowP [wk1, wk2] := by
  refine ⟨by decide, fun k hk => ?_⟩
  have : k = 0 ∨ k = 1 := by simp at hk; omega
  rcases this with rfl | rfl
  · show tk [] wk1 = true
    kernel_rfl
  · show tk [wk1] wk2 = true
    kernel_rfl
theorem wk_ord : ordE [wk1, wk2] = [⟨2, 1, 0⟩, ⟨1, 1, 0⟩] := by kernel_rfl
end Go.Proofs.YtpoajofpbgjgaaaGreatDoor
/- lectionaryref0.At -/
namespace Go.Proofs.YtpoajofpbgjgaaaGreatDoor
open Go.RowKit Go.Lib

set_option maxRecDepth 100000 in
set_option maxHeartbeats 2000000 in
theorem At_any (a : Option Addr) (cap : Nat) (l : List El) (e : El) (w : World) (h : ElemsAt w a l) (hl : l.length ≤ 1000000) :
    Calls Tryz.prog 12 #[.slice a l.length cap, e.v] w (IntB (atI l e) w) := by
  have HH := Lib.hid h
  obtain ⟨n, hn⟩ : ∃ n, l.length = n := ⟨_, rfl⟩
  have HN := Lib.hid hn
  rw [hn] at hl ⊢
  have hbx := BoxE.new w e
  have HB0 : RowKit.Hid (Below w.heap.size w (w.alloc (.cells #[.int .i64 e.s, .int .i64 e.q, .int .i64 e.i] 32))) := Lib.hid ((Below.refl _ _).alloc (Nat.le_refl _) _)
  have HBX := Lib.hid hbx
  clear h hn hbx
  obtain ⟨s, q, i⟩ := e
  unfold El.v
  simp only at HB0 HBX ⊢
  go_enter Tryz.func12, Tryz.ntmps12
  go_wp2_with fail
  go_loopw [5] (fun s5 wr => ∃ k : Nat, s5 = .int .i64 k ∧ k ≤ n ∧ Below w.heap.size w wr ∧ BoxE wr w.heap.size ⟨s, q, i⟩ ∧ ∀ j x, j < k → l[j]? = some x → x ≠ ⟨s, q, i⟩) (fun s5 _ => n - (RowKit.intOf s5).toNat)
  case atStart => exact ⟨0, rfl, Nat.zero_le _, HB0.out, HBX.out, fun j x hj => absurd hj (by omega)⟩
  case round =>
    clear HB0 HBX
    obtain ⟨k, rfl, hk, hb, hbx, hall⟩ := hrel
    have HALL := Lib.hid hall
    have HBX := Lib.hid hbx
    have HB := Lib.hid hb
    clear hall
    by_cases hlt : k < n
    · have hkl : k < l.length := by rw [HN.out]; exact hlt
      obtain ⟨b, off, rfl, hbb, x0, x1, x2⟩ := (HH.out.below hb).cell k hkl
      have y0 := hbx.c0
      have y1 := hbx.c1
      have y2 := hbx.c2
      have hyl := hbx.lt
      have HG := Lib.hid (show l[k]? = some l[k] from List.getElem?_eq_getElem hkl)
      clear hb hbx
      generalize l[k] = x at *
      clear hkl
      have hsp := el_split x ⟨s, q, i⟩
      obtain ⟨xs, xq, xi⟩ := x
      simp only at x0 x1 x2 hsp
      rcases hsp with ⟨he, z0, z1, z2⟩ | ⟨hne, hz⟩
      · have HE := Lib.hid he
        clear he
        subst z0
        subst z1
        subst z2
        go_wp2_with fail
        go_quiet (fail)
        go_wp2
        go_ret
        refine ⟨?_, HB.out.trans ((Same.drewN wr nq).below _)⟩
        have hmem : (⟨xs, xq, xi⟩ : El) ∈ l := List.mem_of_getElem? HG.out
        unfold atI
        rw [if_pos hmem]
        congr 2
        refine (List.findIdx_eq (by have := (List.getElem?_eq_some_iff.1 HG.out).1; exact this)).2 ⟨?_, ?_⟩ |>.symm ▸ rfl
        · have := (List.getElem?_eq_some_iff.1 HG.out).2
          simpa using this
        · intro j hj
          have := HALL.out j (l[j]'(by have := (List.getElem?_eq_some_iff.1 HG.out).1; omega)) hj (List.getElem?_eq_getElem _)
          simpa using this
      · have HNE := Lib.hid hne
        clear hne
        rcases hz with z0 | ⟨z0, z1⟩ | ⟨z0, z1, z2⟩
        all_goals
          try subst z0
          try subst z1
          go_wp2_with fail
          go_quiet (fail)
          go_wp2
          go_roundw
          case rel => exact ⟨k + 1, by go_num, by omega, HB.out.trans ((Same.drewN wr _).below _), HBX.out.next ((Same.drewN wr _).below wr.heap.size) HBX.out.lt, fun j x hj hx => by
            by_cases hjk : j = k
            · rw [hjk, HG.out] at hx; cases hx; exact HNE.out
            · exact HALL.out j x (by omega) hx⟩
          case measure => simp [RowKit.intOf]; omega
    · have h0 : k = n := by omega
      have HF := Lib.hid (show atI l ⟨s, q, i⟩ = -1 from by
        unfold atI
        rw [if_neg]
        intro hm
        obtain ⟨j, hj, he⟩ := List.getElem_of_mem hm
        exact HALL.out j _ (by rw [h0, ← HN.out]; exact hj) (List.getElem?_eq_getElem hj) he)
      clear hb hbx
      go_wp2
      go_ret
      exact ⟨by rw [HF.out]; rfl, HB.out⟩

end Go.Proofs.YtpoajofpbgjgaaaGreatDoor
