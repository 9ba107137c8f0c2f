/- What the laws' argument holds, out of the form's own reading. -/
import Derived.Test.YtppaiajligakpaaDoorCHeavy3
import Derived.ProofKit
import Derived.OpenShut
import Derived.SizedLaws
import Derived.SliceStrings
import Derived.Lib.SmallJoins
namespace Go.Proofs.YtppaiajligakpaaDoor
open Go.ChangeShapes Go.WideShapes Go.ChangeAt Go.RowKit

theorem bytes3 : Tryd.prog.bytesOf 3 = 8 := by kernel_rfl
theorem bytes9 : Tryd.prog.bytesOf 9 = 16 := by kernel_rfl

theorem ints_at {H : Type} {enc : TypeId × Value → H} {W : World} {c0 : Value} {y : DataW H × List MemPlace} {m : Nat}
    (hy : DataW.trod enc Tryd.prog W 0 (fun _ => true) true m 24 [c0] = some y) (hsz : ∀ n ∈ y.1.weights Tryd.prog 24, n ≤ reachBytes) :
    ∃ (a : Option Addr) (cap : Nat) (zs : List Int), c0 = .slice a zs.length cap ∧ IntsAt W a zs ∧ (a = none → zs.length = 0 ∧ cap = 0) := by
  rcases open_ints Tryd.underlying24 Tryd.underlying3 (by kernel_rfl) hy with ⟨hcs, _⟩ | ⟨x, l, c, zs, hcs, _, hl, hm, hz, hx, hcell, hwz⟩
  · refine ⟨none, 0, [], by simpa using hcs, ?_⟩
    exact ⟨⟨fun j hj => absurd hj (by simp), Nat.zero_le _⟩, fun _ => ⟨rfl, rfl⟩⟩
  · simp at hz
    have hlen : (zs.take l).length = l := by rw [List.length_take]; omega
    refine ⟨some x, c, zs.take l, by rw [hlen]; simpa using hcs, ?_⟩
    have hw := hsz (((lits (H := H) .i64 (zs.take l)).length + (lits (H := H) .i64 (zs.drop l)).length) * Tryd.prog.bytesOf 3) (by rw [hx]; simp [DataW.weights, Tryd.underlying24])
    refine ⟨⟨fun j hj => ?_, ?_⟩, fun h => by cases h⟩
    · rw [hlen] at hj
      have h1 := hcell j (by omega)
      have h0 := hcell 0 (by omega)
      obtain ⟨b, off, spot⟩ := x
      have hspot : spot = none := by simpa [Addr.add] using World.cell?_spot h0
      subst hspot
      rw [Addr.add_lit] at h1
      refine ⟨b, off, rfl, World.block_lt_of_cell? W _ h1, ?_⟩
      rw [h1]
      have hjz : j < zs.length := by omega
      simp [hjz]
    · rw [hlen]
      rw [bytes3] at hw
      simp only [lits, List.length_map, List.length_take, List.length_drop, reachBytes] at hw
      unfold BIG
      omega

theorem strs_weights {H : Type} (P : Program) (e : TypeId) : ∀ (l : List ByteArray) (s : ByteArray), s ∈ l → s.size ∈ DataW.weightsAll (H := H) P e (strs l) := by
  intro l
  induction l with
  | nil => intro s h; cases h
  | cons x r ih =>
    intro s h
    rw [show strs (x :: r) = (DataW.lit (H := H) (.string x.data.toList)) :: strs r from rfl, DataW.weightsAll, List.mem_append]
    rcases List.mem_cons.1 h with rfl | h
    · left; simp [DataW.weights]
    · right; exact ih s h

theorem strs_at {H : Type} {enc : TypeId × Value → H} {W : World} {c0 : Value} {y : DataW H × List MemPlace} {m : Nat}
    (hy : DataW.trod enc Tryd.prog W 0 (fun _ => true) true m 22 [c0] = some y) (hsz : ∀ n ∈ y.1.weights Tryd.prog 22, n ≤ reachBytes) :
    ∃ (a : Option Addr) (cap : Nat) (ss : List ByteArray), c0 = .slice a ss.length cap ∧ StrsAt W a ss ∧ (a = none → ss.length = 0 ∧ cap = 0) := by
  rcases open_strings Tryd.underlying22 Tryd.underlying9 (by kernel_rfl) hy with ⟨hcs, _⟩ | ⟨x, l, c, ss, hcs, _, hl, hm, hz, hx, hcell, hws⟩
  · refine ⟨none, 0, [], by simpa using hcs, ?_⟩
    exact ⟨⟨fun j hj => absurd hj (by simp), Nat.zero_le _, fun j hj => absurd hj (by simp)⟩, fun _ => ⟨rfl, rfl⟩⟩
  · simp at hz
    have hlen : (ss.take l).length = l := by rw [List.length_take]; omega
    refine ⟨some x, c, ss.take l, by rw [hlen]; simpa using hcs, ?_⟩
    have hw := hsz (((strs (H := H) (ss.take l)).length + (strs (H := H) (ss.drop l)).length) * Tryd.prog.bytesOf 9) (by rw [hx]; simp [DataW.weights, Tryd.underlying22])
    refine ⟨⟨fun j hj => ?_, ?_, fun j hj => ?_⟩, fun h => by cases h⟩
    · rw [hlen] at hj
      have h1 := hcell j (by omega)
      have h0 := hcell 0 (by omega)
      obtain ⟨b, off, spot⟩ := x
      have hspot : spot = none := by simpa [Addr.add] using World.cell?_spot h0
      subst hspot
      rw [Addr.add_lit] at h1
      refine ⟨b, off, rfl, World.block_lt_of_cell? W _ h1, ?_⟩
      rw [h1]
      have hjz : j < ss.length := by omega
      simp [hjz]
    · rw [hlen]
      rw [bytes9] at hw
      simp only [strs, List.length_map, List.length_take, List.length_drop, reachBytes] at hw
      unfold BIG
      omega
    · have := hsz _ (by rw [hx]; simp only [DataW.weights, Tryd.underlying22]; exact List.mem_cons_of_mem _ (List.mem_append_left _ (strs_weights Tryd.prog 9 (ss.take l) _ (List.getElem_mem hj))))
      unfold BIG
      unfold reachBytes at this
      exact this

theorem bytes21 : Tryd.prog.bytesOf 21 = 4 := by kernel_rfl

theorem runes_at {H : Type} {enc : TypeId × Value → H} {W : World} {c0 : Value} {y : DataW H × List MemPlace} {m : Nat}
    (hy : DataW.trod enc Tryd.prog W 0 (fun _ => true) true m 23 [c0] = some y) (hsz : ∀ n ∈ y.1.weights Tryd.prog 23, n ≤ reachBytes) :
    ∃ (a : Option Addr) (cap : Nat) (zs : List Int), c0 = .slice a zs.length cap ∧ RunesAt W a zs ∧ zs.length ≤ BIG ∧ (a = none → zs.length = 0 ∧ cap = 0) := by
  rcases open_ints Tryd.underlying23 Tryd.underlying21 (by kernel_rfl) hy with ⟨hcs, _⟩ | ⟨x, l, c, zs, hcs, _, hl, hm, hz, hx, hcell, hwz⟩
  · refine ⟨none, 0, [], by simpa using hcs, RunesAt.nil _, Nat.zero_le _, fun _ => ⟨rfl, rfl⟩⟩
  · simp at hz
    have hlen : (zs.take l).length = l := by rw [List.length_take]; omega
    refine ⟨some x, c, zs.take l, by rw [hlen]; simpa using hcs, ?_⟩
    have hw := hsz (((lits (H := H) .i32 (zs.take l)).length + (lits (H := H) .i32 (zs.drop l)).length) * Tryd.prog.bytesOf 21) (by rw [hx]; simp [DataW.weights, Tryd.underlying23])
    refine ⟨⟨fun j hj => ?_, fun r hr => ?_⟩, ?_, fun h => by cases h⟩
    · rw [hlen] at hj
      have h1 := hcell j (by omega)
      have h0 := hcell 0 (by omega)
      obtain ⟨b, off, spot⟩ := x
      have hspot : spot = none := by simpa [Addr.add] using World.cell?_spot h0
      subst hspot
      rw [Addr.add_lit] at h1
      refine ⟨b, off, rfl, World.block_lt_of_cell? W _ h1, ?_⟩
      rw [h1]
      have hjz : j < zs.length := by omega
      simp [hjz]
    · have := hwz r (List.mem_of_mem_take hr)
      have e1 : IntKind.i32.min = -2147483648 := by decide
      have e2 : IntKind.i32.max = 2147483647 := by decide
      simp only [Lit.wf, e1, e2, Bool.and_eq_true, decide_eq_true_eq] at this
      omega
    · rw [hlen]
      rw [bytes21] at hw
      simp only [lits, List.length_map, List.length_take, List.length_drop, reachBytes] at hw
      unfold BIG
      omega

theorem parts3 {H : Type} {d0 d1 d2 : DataW H} (h : (DataW.weightsEach Tryd.prog [26] [.agg [d0, d1, d2]]).all (· ≤ reachBytes) = true) : (∀ n ∈ d0.weights Tryd.prog 22, n ≤ reachBytes) ∧ (∀ n ∈ d1.weights Tryd.prog 23, n ≤ reachBytes) ∧ (∀ n ∈ d2.weights Tryd.prog 24, n ≤ reachBytes) := by
  rw [List.all_eq_true] at h
  simp only [DataW.weightsEach, DataW.weights, Tryd.underlying26, List.map_cons, List.map_nil, List.append_nil, List.mem_append] at h
  exact ⟨fun n hn => by simpa using h n (.inl hn), fun n hn => by simpa using h n (.inr (.inl hn)), fun n hn => by simpa using h n (.inr (.inr hn))⟩
end Go.Proofs.YtppaiajligakpaaDoor
