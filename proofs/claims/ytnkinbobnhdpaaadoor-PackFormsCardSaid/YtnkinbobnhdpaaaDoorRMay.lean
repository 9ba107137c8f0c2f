/- text.mayBe, text.Check -/
import Derived.Test.YtnkinbobnhdpaaaDoorRBase
namespace Go.Proofs.YtnkinbobnhdpaaaDoor
open Go.RowKit Go.Lib

set_option maxHeartbeats 400000 in
theorem mayBe_yes (r : Int) (w : World) (h : okR r = true) : Calls Tryd.prog 137 #[.int .i32 r] w (Boo true w) := by
  have h1 := okR_of h
  clear h
  by_cases h10 : r = 10
  · subst h10
    go_enter Tryd.func137, Tryd.ntmps137
    go_wp2
    go_ret
    exact ⟨rfl, rfl⟩
  · have e1 : (r == 10) = false := by simp; omega
    have e2 : (r == 127) = false := by simp; omega
    have e3 : (r == 65533) = false := by simp; omega
    by_cases h2 : 32 ≤ r ∧ r ≤ 55295
    · obtain ⟨a, b⟩ := h2
      have a' : decide ((32 : Int) ≤ r) = true := by simp; omega
      have b' : decide (r ≤ 55295) = true := by simp; omega
      clear h1 h10
      go_enter Tryd.func137, Tryd.ntmps137
      go_wp2
      go_ret
      exact ⟨rfl, rfl⟩
    · have a' : decide ((32 : Int) ≤ r) = true := by simp; omega
      have b' : decide (r ≤ 55295) = false := by simp; omega
      have c' : decide ((57344 : Int) ≤ r) = true := by simp; omega
      have d' : decide (r ≤ 1114111) = true := by simp; omega
      clear h1 h2 h10
      go_enter Tryd.func137, Tryd.ntmps137
      go_wp2
      go_ret
      exact ⟨rfl, rfl⟩

set_option maxHeartbeats 400000 in
theorem mayBe_no (r : Int) (w : World) (h : okR r = false) : Calls Tryd.prog 137 #[.int .i32 r] w (Boo false w) := by
  have h1 := okR_not h
  clear h
  have e1 : (r == 10) = false := by simp; omega
  by_cases h127 : r = 127
  · subst h127
    clear h1 e1
    go_enter Tryd.func137, Tryd.ntmps137
    go_wp2
    go_ret
    exact ⟨rfl, rfl⟩
  have e2 : (r == 127) = false := by simp; omega
  by_cases hfd : r = 65533
  · subst hfd
    clear h1 e1 e2 h127
    go_enter Tryd.func137, Tryd.ntmps137
    go_wp2
    go_ret
    exact ⟨rfl, rfl⟩
  have e3 : (r == 65533) = false := by simp; omega
  have hc : r < 32 ∨ (55295 < r ∧ r < 57344) ∨ 1114111 < r := by omega
  clear h1 h127 hfd
  rcases hc with hc | ⟨hc, hc2⟩ | hc
  · have a' : decide ((32 : Int) ≤ r) = false := by simp; omega
    have c' : decide ((57344 : Int) ≤ r) = false := by simp; omega
    go_enter Tryd.func137, Tryd.ntmps137
    go_wp2
    go_ret
    exact ⟨rfl, rfl⟩
  · have a' : decide ((32 : Int) ≤ r) = true := by simp; omega
    have b' : decide (r ≤ 55295) = false := by simp; omega
    have c' : decide ((57344 : Int) ≤ r) = false := by simp; omega
    go_enter Tryd.func137, Tryd.ntmps137
    go_wp2
    go_ret
    exact ⟨rfl, rfl⟩
  · have a' : decide ((32 : Int) ≤ r) = true := by simp; omega
    have b' : decide (r ≤ 55295) = false := by simp; omega
    have c' : decide ((57344 : Int) ≤ r) = true := by simp; omega
    have d' : decide (r ≤ 1114111) = false := by simp; omega
    go_enter Tryd.func137, Tryd.ntmps137
    go_wp2
    go_ret
    exact ⟨rfl, rfl⟩

def CheckPost (s : ByteArray) (w : World) (e : Ending) (w' : World) : Prop := e = .returned (.int .i64 (errOf s)) ∧ Below w.heap.size w w'

set_option maxRecDepth 100000 in
set_option maxHeartbeats 1000000 in
theorem Check_any (s : ByteArray) (w : World) : Calls Tryd.prog 134 #[.string s] w (CheckPost s w) := by
  go_enter Tryd.func134, Tryd.ntmps134
  go_wp2
  go_loopw [] (fun wr => ∃ (pos fuel : Nat) (pre : List Int), Rest s pos fuel pre ∧ wr.heap[w.heap.size]? = some (.stringIter s pos) ∧ Below w.heap.size w wr) (fun wr => s.size - wr.iterPos w.heap.size)
  case atStart => exact ⟨0, s.size, [], Rest.start s, World.iter_heap w s 0, (Below.refl _ w).alloc (Nat.le_refl _) _⟩
  case round =>
    obtain ⟨pos, fuel, pre, hR, hit, hbw⟩ := hrel
    have hsz : w.heap.size < wr.heap.size := (Array.getElem?_eq_some_iff.1 hit).1
    have HR := Lib.hid hR
    clear hR
    by_cases hp : pos < s.size
    · have hnx : ∀ ty, (Instr.next (.pointer (some ⟨w.heap.size, 0, none⟩)) true ty).run Tryd.prog wr = _ := fun ty => Lib.run_next_any_at wr w.heap.size s pos ty hit hp
      have hwd := decode_width_pos s pos hp
      have HI := Lib.hid (Lib.iterAt_heap wr w.heap.size s pos (pos + (Utf8.decode s pos).2) hit)
      have HB := Lib.hid (Lib.below_iterAt hbw (k := w.heap.size) (by omega) s (pos + (Utf8.decode s pos).2))
      have HT := Lib.hid hit
      clear hit hbw
      cases hk : okR (Utf8.decode s pos).1
      · have HN := Lib.hid (HR.out.stop hp hk)
        go_wp2_with (go_at_call 137; refine (mayBe_no _ _ hk).mono ?_; rintro e w' ⟨rfl, rfl⟩)
        go_ret
        exact ⟨ret_int (errOf_bad HN.out).symm, HB.out⟩
      · have HN := Lib.hid (HR.out.next hp hk)
        go_wp2_with (go_at_call 137; refine (mayBe_yes _ _ hk).mono ?_; rintro e w' ⟨rfl, rfl⟩)
        go_roundw
        case rel => exact ⟨_, _, _, HN.out, HI.out, HB.out⟩
        case measure =>
          simp only [World.iterPos, HI.out, HT.out]
          omega
    · have hnx : ∀ ty, (Instr.next (.pointer (some ⟨w.heap.size, 0, none⟩)) true ty).run Tryd.prog wr = _ := fun ty => Lib.run_next_end_at wr w.heap.size s pos ty hit hp
      have HN := Lib.hid (HR.out.done hp)
      go_wp2
      go_ret
      exact ⟨ret_int (errOf_ok HN.out.2).symm, hbw⟩
end Go.Proofs.YtnkinbobnhdpaaaDoor
