/- slices.SortFunc at elements -/
import Derived.Test.YthnedehihbploaaGreatDoorPElem
import Derived.Test.YthnedehihbploaaGreatDoorPComp
import Derived.Shelf.SlSortCmp.NoneTotal
namespace Go.Proofs.YthnedehihbploaaGreatDoor
open Go.RowKit Go.Lib Go.Sort

theorem flat_ecs (l : List El) : (flatK El.cs 3 l.toArray).toList = ecs l := by
  apply List.ext_getElem?
  intro t
  by_cases ht : t < l.length * 3
  · have h1 : (flatK El.cs 3 l.toArray)[t]! = (El.cs l.toArray[t / 3]!)[t % 3]! := get_flatK _ _ _ _ (by simpa using ht)
    have hj : t / 3 < l.length := by omega
    have hc : t % 3 < 3 := Nat.mod_lt _ (by decide)
    have h2 := ecs_get l (t / 3) (t % 3) hj hc
    have h3 : t / 3 * 3 + t % 3 = t := by omega
    rw [h3] at h2
    rw [h2]
    have h4 : l.toArray[t / 3]! = l[t / 3] := by rw [getElem!_pos l.toArray (t / 3) (by simpa using hj)]; simp
    rw [h4] at h1
    have h5 : t < (flatK El.cs 3 l.toArray).size := by simpa using ht
    rw [getElem!_pos _ t h5] at h1
    have h6 : t % 3 < (El.cs l[t / 3]).length := hc
    rw [getElem!_pos _ (t % 3) h6] at h1
    rw [List.getElem?_eq_getElem h6, ← h1]
    simp
  · rw [List.getElem?_eq_none (by simp; omega), List.getElem?_eq_none (by rw [ecs_length]; omega)]

theorem ltOf_cmpE : ltOf cmpE = El.lt := by
  funext a b
  exact cmpE_lt a b
theorem lt_irrefl (x : El) : x.lt x = false := decide_eq_false (by omega)
theorem lt_iff (a b : El) : a.lt b = true ↔ (a.s < b.s ∨ (a.s = b.s ∧ (a.q < b.q ∨ (a.q = b.q ∧ a.i < b.i)))) := by unfold El.lt; rw [decide_eq_true_eq]
theorem lt_no (a b : El) : a.lt b = false ↔ ¬ (a.s < b.s ∨ (a.s = b.s ∧ (a.q < b.q ∨ (a.q = b.q ∧ a.i < b.i)))) := by unfold El.lt; rw [decide_eq_false_iff_not]
theorem swoE : SWO (ltOf cmpE) := by
  rw [ltOf_cmpE]
  refine ⟨lt_irrefl, fun x y z h1 h2 => ?_, fun x y z h1 h2 => ?_⟩
  · rw [lt_iff] at *; omega
  · rw [lt_no] at *; omega
theorem lt_total (x y : El) (h1 : ltOf cmpE x y = false) (h2 : ltOf cmpE y x = false) : x = y := by
  rw [ltOf_cmpE, lt_no] at h1 h2
  rw [el_eq]; omega
/-- in order -/
def isort (l : List El) : List El := l.mergeSort fun x y => !(ltOf cmpE) y x
theorem isort_length (l : List El) : (isort l).length = l.length := by simp [isort]

theorem holdsK_own {w : World} {g : Nat} {cur : Array Value} {e : TypeId} {l : List El} (hb : w.heap[g]? = some (.cells cur e (0, 0))) (ht : cur.toList.take (l.length * 3) = ecs l) : HoldsK El.cs 3 w g 0 l.toArray := by
  intro j hj
  have hj' : j < l.length * 3 := by simpa using hj
  refine ⟨?_, by simp [World.frozen?, hb]⟩
  have h1 : (cur.toList.take (l.length * 3))[j]? = (ecs l)[j]? := by rw [ht]
  rw [List.getElem?_take_of_lt hj'] at h1
  simp only [World.cell?, hb, Nat.zero_add]
  simp only [Option.isSome_none, Bool.false_eq_true, if_false]
  rw [← Array.getElem?_toList, h1, ← flat_ecs]
  have h5 : j < (flatK El.cs 3 l.toArray).size := by simpa using hj'
  rw [getElem!_pos _ j h5]
  simp
theorem heap_sortedK {w : World} {g n : Nat} {os : Array Obj} {cur : Array Value} {e : TypeId} {fr : Nat × Nat} (d : Array El) (hb : w.heap[g]? = some (.cells cur e fr)) :
    (sortWorldK El.cs 3 w g 0 n d os).heap[g]? = some (.cells (putCells id 0 (flatK El.cs 3 d) cur) e fr) := by
  have hg : g < w.heap.size := (Array.getElem?_eq_some_iff.1 hb).1
  unfold sortWorldK putRowK
  rw [heap_grow_old _ _ (by simpa using hg)]
  simp [putRow, mapBlock, Sort.ahead, Array.getElem?_modify, hb, onCells]
theorem grownBy_sortedK {w : World} {g n : Nat} {os : Array Obj} (d : Array El) : w.grownBy (sortWorldK El.cs 3 w g 0 n d os) (some g) := by
  refine ⟨rfl, rfl, rfl, by simp [sortWorldK, putRowK], fun k hk hne => ?_⟩
  unfold sortWorldK putRowK
  rw [heap_grow_old _ _ (by simpa using hk)]
  have : g ≠ k := fun e => hne (by rw [e])
  simp [putRow, mapBlock, Sort.ahead, Array.getElem?_modify, this]
theorem take_putCellsK (cur : Array Value) (l : List El) (h : l.length * 3 ≤ cur.size) : (putCells id 0 (flatK El.cs 3 l.toArray) cur).toList.take (l.length * 3) = ecs l := by
  apply List.ext_getElem?
  intro j
  by_cases hj : j < l.length * 3
  · rw [List.getElem?_take_of_lt hj, Array.getElem?_toList, ← flat_ecs]
    have h5 : j < (flatK El.cs 3 l.toArray).size := by simpa using hj
    simp only [putCells, Array.getElem?_mapIdx, Nat.zero_le, Nat.zero_add, h5, and_self, if_true, Nat.sub_zero, id]
    rw [Array.getElem?_eq_getElem (show j < cur.size by omega), getElem!_pos _ j h5]
    simp
  · rw [List.getElem?_take_eq_none (by omega), List.getElem?_eq_none (by rw [ecs_length]; omega)]

/-- sorted, in the row -/
def SortPost (base B : Nat) (w0 : World) (a : Option Addr) (cap n : Nat) (l : List El) (e : Ending) (w' : World) : Prop :=
  e = .returned (.tuple #[]) ∧ w'.ownsRow base 37 3 (.slice a n cap) n (ecs (isort l)) ∧ Below B w0 w'

theorem xSort_any (a : Option Addr) (cap n base B : Nat) (l : List El) (w0 w : World) (hown : w.ownsRow base 37 3 (.slice a n cap) n (ecs l)) (hn : l.length = n) (hB : B ≤ base) (hBw : B ≤ w.heap.size) (hb : Below B w0 w) (hl : n ≤ 1000000) :
    Calls Tryz.prog 162 #[.slice a n cap, .func (.func 129) #[] #[]] w (SortPost base B w0 a cap n l) := by
  subst hn
  rcases hown.2 with ⟨hv, h0⟩ | ⟨g, cap', cur, hv, hg, hh, hnc, hcm, hcs, ht⟩
  · simp only [Value.slice.injEq] at hv
    obtain ⟨rfl, _, rfl⟩ := hv
    have h1 : l = [] := List.eq_nil_of_length_eq_zero h0
    subst h1
    refine Calls.mono (AnyF.slices_SortFunc_none (P := Tryz.prog) (ρ := Tryz.sortEl_ren) { Tryz.sortEl with } none 0 _ w) ?_
    rintro e w' ⟨rfl, rfl⟩
    exact ⟨rfl, by rw [show isort [] = [] from by simp [isort]]; exact hown, hb⟩
  · simp only [Value.slice.injEq] at hv
    obtain ⟨rfl, _, rfl⟩ := hv
    have eg : ∀ args w, (callFunc 129 args).run Tryz.prog w = .ok (.enter 129 args) w := enters_of Tryz.func129 (by kernel_rfl) rfl
    have hcon := AnyQ.slices_SortFunc_total Tryz.sortEl 3 Tryz.isAgg37 Tryz.sizeOf37 El.cs (fun _ => rfl) cs_one cmpE swoE 129 #[] g 0 cap l.toArray w eg (fun _ _ _ _ x y => compare_any x y _) (holdsK_own hh ht) (Array.getElem?_eq_some_iff.1 hh).1 (by simp; omega) lt_total
    rw [List.size_toArray] at hcon
    refine Calls.mono hcon ?_
    rintro e w' ⟨rfl, n, os, rfl⟩
    have hlen := isort_length l
    have ht2 := take_putCellsK cur (isort l) (by rw [hlen]; omega)
    rw [hlen] at ht2
    refine ⟨rfl, ⟨by rw [ecs_length, hlen]; omega, .inr ⟨g, cap, _, rfl, hg, heap_sortedK _ hh, hnc, hcm, by simp [putCells, hcs], ht2⟩⟩, ?_⟩
    exact hb.grown (grownBy_sortedK _) hBw (fun k hk => by cases hk; omega)
end Go.Proofs.YthnedehihbploaaGreatDoor
