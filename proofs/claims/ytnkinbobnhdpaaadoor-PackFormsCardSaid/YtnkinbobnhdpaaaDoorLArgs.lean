/- What the argument of the laws of layer 4 holds. -/
import Derived.Test.YtnkinbobnhdpaaaDoorLHeavy
namespace Go.Proofs.YtnkinbobnhdpaaaDoor
open Go.ChangeShapes Go.WideShapes Go.ChangeAt Go.RowKit Go.Deep

theorem bytesInt : Tryd.prog.bytesOf 3 = 8 := by kernel_rfl

theorem nums_at {H : Type} {enc : TypeId × Value → H} {W : World} {c0 : Value} {y : DataW H × List MemPlace} {m : Nat}
    (hy : DataW.trod enc Tryd.prog W 0 (fun _ => true) true m 24 [c0] = some y) (hsz : ∀ n ∈ y.1.weights Tryd.prog 24, n ≤ reachBytes) :
    ∃ (a : Option Addr) (cap : Nat) (zs : List Int), c0 = .slice a zs.length cap ∧ NumsAt W a zs ∧ zs.length ≤ BIG ∧ (a = none → zs.length = 0 ∧ cap = 0) := by
  rcases open_ints Tryd.underlying24 Tryd.underlying3 (by kernel_rfl) hy with ⟨hcs, _⟩ | ⟨x, l, c, zs, hcs, _, hl, hm, hz, hx, hcell, hwz⟩
  · exact ⟨none, 0, [], by simpa using hcs, ⟨fun j hj => absurd hj (by simp)⟩, Nat.zero_le _, fun _ => ⟨rfl, rfl⟩⟩
  · simp at hz
    have hlen : (zs.take l).length = l := by rw [List.length_take]; omega
    refine ⟨some x, c, zs.take l, by rw [hlen]; simpa using hcs, ?_⟩
    have hw := hsz (((lits (H := H) .i64 (zs.take l)).length + (lits (H := H) .i64 (zs.drop l)).length) * Tryd.prog.bytesOf 3) (by rw [hx]; simp [DataW.weights, Tryd.underlying24])
    refine ⟨⟨fun j hj => ?_⟩, ?_, fun h => by cases h⟩
    · rw [hlen] at hj
      have h1 := hcell j (by omega)
      have h0 := hcell 0 (by omega)
      obtain ⟨b, off, spot⟩ := x
      have hspot : spot = none := by simpa [Addr.add] using World.cell?_spot h0
      subst hspot
      rw [Addr.add_lit] at h1
      refine ⟨b, off, rfl, World.block_lt_of_cell? W _ h1, ?_⟩
      rw [h1]
      have hjz : j < zs.length := by omega
      simp [hjz]
    · rw [hlen]
      rw [bytesInt] at hw
      simp only [lits, List.length_map, List.length_take, List.length_drop, reachBytes] at hw
      unfold BIG
      omega

theorem parts4 {H : Type} {d0 d1 d2 : DataW H} (h : (DataW.weightsEach Tryd.prog [26] [.agg [d0, d1, d2]]).all (· ≤ reachBytes) = true) : (∀ n ∈ d0.weights Tryd.prog 22, n ≤ reachBytes) ∧ (∀ n ∈ d1.weights Tryd.prog 23, n ≤ reachBytes) ∧ (∀ n ∈ d2.weights Tryd.prog 24, n ≤ reachBytes) := by
  rw [List.all_eq_true] at h
  simp only [DataW.weightsEach, DataW.weights, Tryd.underlying26, List.map_cons, List.map_nil, List.append_nil, List.mem_append] at h
  exact ⟨fun n hn => by simpa using h n (.inl hn), fun n hn => by simpa using h n (.inr (.inl hn)), fun n hn => by simpa using h n (.inr (.inr hn))⟩
end Go.Proofs.YtnkinbobnhdpaaaDoor
