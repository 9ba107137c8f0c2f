/- runes: what is of no function: a slice of runes, how far a walk over a text has come -/
import Derived.Test.YtnkinbobnhdpaaaDoorProg
import Derived.Test.YtnkinbobnhdpaaaDoorTPlain
import Derived.WalkKit
import Derived.BigCall
import Derived.Below
import Derived.Lib.Hide
import Derived.Lib.OthersKept
import Derived.Laws.RangeAny
import Derived.Maps.AppendAt
import Derived.Deep.AppendLies
import Derived.WalkLawsBesides
import Derived.Handy
namespace Go.Proofs.YtnkinbobnhdpaaaDoor
open Go.RowKit Go.Lib

theorem ret_int {k : IntKind} {a b : Int} (h : a = b) : Ending.returned (.int k a) = .returned (.int k b) := by rw [h]
/-- the result, behind a name -/
def Boo (b : Bool) (w : World) (e : Ending) (w' : World) : Prop := e = .returned (.bool b) ∧ w = w'

/-- how far a walk over a text has come -/
def Rest (s : ByteArray) (pos fuel : Nat) (pre : List Int) : Prop := rns s = pre ++ rnsFrom s fuel pos ∧ s.size ≤ pos + fuel ∧ pre.all okR = true
theorem Rest.start (s : ByteArray) : Rest s 0 s.size [] := ⟨rfl, by omega, rfl⟩
theorem Rest.next {s : ByteArray} {pos fuel : Nat} {pre : List Int} (h : Rest s pos fuel pre) (hp : pos < s.size) (hk : okR (Utf8.decode s pos).1 = true) :
    Rest s (pos + (Utf8.decode s pos).2) (fuel - 1) (pre ++ [((Utf8.decode s pos).1 : Int)]) := by
  obtain ⟨h1, h2, h3⟩ := h
  have hw := decode_width_pos s pos hp
  obtain ⟨f, rfl⟩ : ∃ f, fuel = f + 1 := ⟨fuel - 1, by omega⟩
  refine ⟨?_, by omega, ?_⟩
  · rw [h1, rnsFrom_step s f pos hp]; simp
  · rw [List.all_append, h3]; simp [hk]
theorem Rest.stop {s : ByteArray} {pos fuel : Nat} {pre : List Int} (h : Rest s pos fuel pre) (hp : pos < s.size) (hk : okR (Utf8.decode s pos).1 = false) : okT s = false := by
  obtain ⟨h1, h2, h3⟩ := h
  obtain ⟨f, rfl⟩ : ∃ f, fuel = f + 1 := ⟨fuel - 1, by omega⟩
  unfold okT
  rw [h1, rnsFrom_step s f pos hp, List.all_append, List.all_cons, hk]
  simp
theorem Rest.done {s : ByteArray} {pos fuel : Nat} {pre : List Int} (h : Rest s pos fuel pre) (hp : ¬ pos < s.size) : rns s = pre ∧ okT s = true := by
  obtain ⟨h1, h2, h3⟩ := h
  rw [rnsFrom_end s fuel pos hp, List.append_nil] at h1
  exact ⟨h1, by unfold okT; rw [h1]; exact h3⟩
theorem Rest.here {s : ByteArray} {pos fuel : Nat} {pre : List Int} (h : Rest s pos fuel pre) (hp : pos < s.size) (hk : okT s = true) : okR (Utf8.decode s pos).1 = true := by
  cases hh : okR (Utf8.decode s pos).1 with
  | true => rfl
  | false => rw [h.stop hp hh] at hk; cases hk

def errOf (s : ByteArray) : Int := if okT s then 0 else 1
theorem errOf_ok {s : ByteArray} (h : okT s = true) : errOf s = 0 := by unfold errOf; rw [h]; rfl
theorem errOf_bad {s : ByteArray} (h : okT s = false) : errOf s = 1 := by unfold errOf; rw [h]; rfl
theorem Tryd.info21 : (Tryd.prog.info? 21).map (fun i => (i.zero, i.size, i.bytes)) = some (some (.int .i32 0), 1, 4) := by kernel_rfl
theorem oneInt (k : IntKind) (n : Int) : ∀ u ∈ [Value.int k n], u.oneCell' = true := ints_oneCell k [n]

/-- runes as cells -/
def rv (l : List Int) : List Value := l.map (Value.int .i32)
theorem rv_length (l : List Int) : (rv l).length = l.length := by simp [rv]
theorem rv_snoc (l : List Int) (r : Int) : rv l ++ [.int .i32 r] = rv (l ++ [r]) := by simp [rv]
theorem rv_get {l : List Int} {j : Nat} (h : j < l.length) : (rv l)[j]? = some (.int .i32 l[j]) := by simp [rv, h]

/-- a slice of runes that may be read -/
structure RunesAt (w : World) (a : Option Addr) (l : List Int) : Prop where
  cell : ∀ j (h : j < l.length), ∃ b off, a = some ⟨b, off, none⟩ ∧ b < w.heap.size ∧ w.cell? ⟨b, off + j, none⟩ = some (.int .i32 l[j])
  i32 : ∀ r ∈ l, -2147483648 ≤ r ∧ r ≤ 2147483647
theorem RunesAt.below {w w' : World} {a : Option Addr} {l : List Int} (h : RunesAt w a l) (hb : Below w.heap.size w w') : RunesAt w' a l :=
  ⟨fun j hj => by obtain ⟨b, off, h1, h2, h3⟩ := h.cell j hj; exact ⟨b, off, h1, Nat.lt_of_lt_of_le h2 hb.size, (hb.cell (p := ⟨b, off + j, none⟩) h2).trans h3⟩, h.i32⟩
theorem RunesAt.drop {w : World} {a : Option Addr} {l : List Int} (h : RunesAt w a l) {k : Nat} (hk : k < l.length) : RunesAt w (a.map (·.add k)) (l.drop k) := by
  refine ⟨fun j hj => ?_, fun r hr => h.i32 r (List.mem_of_mem_drop hr)⟩
  rw [List.length_drop] at hj
  obtain ⟨b, off, rfl, h2, h3⟩ := h.cell (k + j) (by omega)
  refine ⟨b, off + k, by simp [Addr.add_lit], h2, ?_⟩
  rw [Nat.add_assoc, h3, List.getElem_drop]
theorem RunesAt.take {w : World} {a : Option Addr} {l : List Int} (h : RunesAt w a l) (k : Nat) : RunesAt w a (l.take k) := by
  refine ⟨fun j hj => ?_, fun r hr => h.i32 r (List.mem_of_mem_take hr)⟩
  rw [List.length_take] at hj
  obtain ⟨b, off, h1, h2, h3⟩ := h.cell j (by omega)
  refine ⟨b, off, h1, h2, ?_⟩
  rw [h3, List.getElem_take]
theorem RunesAt.nil {w : World} (a : Option Addr) : RunesAt w a [] := ⟨fun j hj => absurd hj (by simp), fun r hr => by cases hr⟩

theorem owns_iterAt {w : World} {base : Nat} {e : TypeId} {v : Value} {n : Nat} {xs : List Value} (h : w.ownsRow base e 1 v n xs) {k : Nat} (hk : k < base) (s : ByteArray) (pos : Nat) : (w.iterAt k s pos).ownsRow base e 1 v n xs := by
  obtain ⟨h1, h2⟩ := h
  refine ⟨h1, ?_⟩
  rcases h2 with h2 | ⟨g, cap, cur, hv, hg, hh, r⟩
  · exact .inl h2
  · exact .inr ⟨g, cap, cur, hv, hg, by rw [Lib.iterAt_other w k g s pos (by omega)]; exact hh, r⟩
theorem own_ge {w : World} {base : Nat} {e : TypeId} {size : Nat} {v : Value} {n : Nat} {xs : List Value} (h : w.ownsRow base e size v n xs) : ∀ k, v.ownBlock = some k → base ≤ k := fun k hk => (h.lt k hk).1
theorem reads_own {w : World} {base : Nat} {v : Value} {l : List Int} (h : w.ownsRow base 21 1 v l.length (rv l)) (hr : ∀ r ∈ l, -2147483648 ≤ r ∧ r ≤ 2147483647) :
    ∃ a cap, v = .slice a l.length cap ∧ RunesAt w a l ∧ l.length ≤ cap ∧ cap ≤ maxLen := by
  rcases h.2 with ⟨hv, h0⟩ | ⟨g, cap, cur, hv, hg, hh, hc, hm, hcs, ht⟩
  · exact ⟨none, 0, by rw [hv, h0], by rw [List.eq_nil_of_length_eq_zero h0]; exact RunesAt.nil none, by omega, by omega⟩
  · refine ⟨_, cap, hv, ⟨fun j hj => ⟨g, 0, rfl, ?_, ?_⟩, hr⟩, hc, hm⟩
    · exact (Array.getElem?_eq_some_iff.1 hh).1
    · subst hv
      rw [Nat.zero_add, h.cellAt j (by omega), rv_get hj]

theorem Rest.len {s : ByteArray} {pos fuel : Nat} {pre : List Int} (h : Rest s pos fuel pre) : pre.length ≤ s.size := by
  have := rns_length s
  rw [h.1, List.length_append] at this
  omega
theorem Rest.lt {s : ByteArray} {pos fuel : Nat} {pre : List Int} (h : Rest s pos fuel pre) (hp : pos < s.size) : pre.length < s.size := by
  obtain ⟨h1, h2, h3⟩ := h
  have := rns_length s
  obtain ⟨f, rfl⟩ : ∃ f, fuel = f + 1 := ⟨fuel - 1, by omega⟩
  rw [h1, rnsFrom_step s f pos hp, List.length_append, List.length_cons] at this
  omega
theorem rns_i32 (s : ByteArray) : ∀ r ∈ rns s, -2147483648 ≤ r ∧ r ≤ 2147483647 := fun r hr => by
  have := rnsFrom_i32 s _ _ r hr; omega

theorem take_snoc' {l : List Int} {k : Nat} (h : k < l.length) : l.take (k + 1) = l.take k ++ [l[k]] := List.take_succ_eq_append_getElem h
theorem all_stop {l : List Int} {k : Nat} (h : k < l.length) (hk : okR l[k] = false) : l.all okR = false := by
  rw [List.all_eq_false]
  exact ⟨l[k], List.getElem_mem h, by rw [hk]; simp⟩
theorem all_take {l : List Int} {k : Nat} (h : k < l.length) (ha : (l.take k).all okR = true) (hk : okR l[k] = true) : (l.take (k + 1)).all okR = true := by
  rw [take_snoc' h, List.all_append, ha]; simp [hk]

end Go.Proofs.YtnkinbobnhdpaaaDoor
