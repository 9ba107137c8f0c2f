import Derived.Test.YtlgnpkigodohnaaDoorPCheck
namespace Go.Proofs.YtlgnpkigodohnaaDoor
open Go.RowKit Go.Lib
set_option maxRecDepth 100000 in
set_option maxHeartbeats 1000000 in
set_option maxRecDepth 100000 in
set_option maxHeartbeats 1000000 in
theorem xElem_any (e : El) (w : World) : Calls Tryd.prog 19 #[e.v] w (IntB (errO e.ok) w) := by
  have HT := Lib.hid (fun w => elemMayBe_any e w)
  generalize e.ok = b at *
  obtain ⟨s, q, i⟩ := e
  have HB := Lib.hid ((Below.refl w.heap.size w).alloc (Nat.le_refl _) (.cells #[.int .i64 s, .int .i64 q, .int .i64 i] 29))
  unfold El.v at *
  simp only at HT ⊢
  go_enter Tryd.func19, Tryd.ntmps19
  go_wp2_with fail
  refine (HT.out _).mono ?_
  rintro x w3 ⟨rfl, hb3⟩
  have HW3 := Lib.hid (HB.out.trans (hb3.mono HB.out.size))
  clear hb3
  go_wp2_with fail
  refine (form_err b _).mono ?_
  rintro x w4 ⟨rfl, rfl⟩
  go_wp2
  go_ret
  exact ⟨rfl, HW3.out⟩
end Go.Proofs.YtlgnpkigodohnaaDoor
