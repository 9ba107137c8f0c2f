/- what is of no function of the page: an element, an op, slices of elements -/
import Derived.Test.YtnkinbobnhdpaaaDoorOPlain
import Derived.Test.YtnkinbobnhdpaaaDoorRBase
import Derived.WalkKit
import Derived.BigCall
import Derived.Below
import Derived.Lib.Hide
import Derived.BigQuiet
import Derived.Deep.QuietTactic
import Derived.Maps.AppendAt
import Derived.WalkLawsBesides
import Derived.Handy
namespace Go.Proofs.YtnkinbobnhdpaaaDoor
open Go.RowKit Go.Lib


theorem ret_bool {a b : Bool} (h : a = b) : Ending.returned (.bool a) = .returned (.bool b) := by rw [h]
def Bo (b : Bool) (w : World) (e : Ending) (w' : World) : Prop := e = .returned (.bool b) ∧ w = w'
def BoB (b : Bool) (w : World) (e : Ending) (w' : World) : Prop := e = .returned (.bool b) ∧ Below w.heap.size w w'


theorem Tryd.infoElem : (Tryd.prog.info? 34).map (fun i => (i.zero, i.size, i.bytes)) = some (some (.agg #[.int .i64 0, .int .i64 0, .int .i64 0]), 3, 24) := by kernel_rfl
/-- elements as cells -/
def ecs (l : List El) : List Value := l.flatMap El.cs
theorem ecs_nil : ecs [] = [] := rfl
theorem ecs_append (a b : List El) : ecs (a ++ b) = ecs a ++ ecs b := by simp [ecs]
theorem ecs_length (l : List El) : (ecs l).length = 3 * l.length := by
  induction l with
  | nil => rfl
  | cons e l ih => show (El.cs e ++ ecs l).length = _; rw [List.length_append, ih, List.length_cons]; show 3 + _ = _; omega
theorem ecs_get (l : List El) (j c : Nat) (h : j < l.length) (hc : c < 3) : (ecs l)[j * 3 + c]? = (El.cs l[j])[c]? := by
  induction l generalizing j with
  | nil => exact absurd h (by simp)
  | cons e l ih =>
    show (El.cs e ++ ecs l)[j * 3 + c]? = _
    cases j with
    | zero =>
      rw [List.getElem?_append_left (by show 0 * 3 + c < 3; omega)]
      simp
    | succ j =>
      rw [List.getElem?_append_right (by show 3 ≤ _; omega)]
      have : (j + 1) * 3 + c - (El.cs e).length = j * 3 + c := by show (j + 1) * 3 + c - 3 = _; omega
      rw [this, ih j (by simpa using h)]
      simp

/-- a slice of elements that may be read -/
structure ElemsAt (w : World) (a : Option Addr) (l : List El) : Prop where
  cell : ∀ j (h : j < l.length), ∃ b off, a = some ⟨b, off, none⟩ ∧ b < w.heap.size ∧ w.cell? ⟨b, off + j * 3, none⟩ = some (.int .i64 l[j].s) ∧ w.cell? ⟨b, off + j * 3 + 1, none⟩ = some (.int .i64 l[j].q) ∧ w.cell? ⟨b, off + j * 3 + 2, none⟩ = some (.int .i64 l[j].i)
theorem ElemsAt.below {w w' : World} {a : Option Addr} {l : List El} (h : ElemsAt w a l) (hb : Below w.heap.size w w') : ElemsAt w' a l :=
  ⟨fun j hj => by
    obtain ⟨b, off, h1, h2, h3, h4, h5⟩ := h.cell j hj
    exact ⟨b, off, h1, Nat.lt_of_lt_of_le h2 hb.size, (hb.cell (p := ⟨b, off + j * 3, none⟩) h2).trans h3, (hb.cell (p := ⟨b, off + j * 3 + 1, none⟩) h2).trans h4, (hb.cell (p := ⟨b, off + j * 3 + 2, none⟩) h2).trans h5⟩⟩
theorem ElemsAt.nil {w : World} (a : Option Addr) : ElemsAt w a [] := ⟨fun j hj => absurd hj (by simp)⟩
theorem below_drewN' {B : Nat} {w wr : World} (h : Below B w wr) (n : Nat) : Below B w (wr.drewN n) := h.trans ⟨rfl, rfl, rfl, Nat.le_refl _, fun _ _ => rfl⟩

theorem cs_one (e : El) : ∀ u ∈ El.cs e, u.oneCell' = true := ints_oneCell .i64 [e.s, e.q, e.i]
theorem cell_three_new (w : World) (e : El) (t : TypeId) : ∀ j u, (El.cs e)[j]? = some u → (w.alloc (.cells #[.int .i64 e.s, .int .i64 e.q, .int .i64 e.i] t)).cell? ((⟨w.heap.size, 0, none⟩ : Addr).add j) = some u := by
  intro j u hu
  rw [Addr.add_lit, Nat.zero_add, World.cell?_alloc_new]
  rw [← hu]
  show (#[Value.int .i64 e.s, .int .i64 e.q, .int .i64 e.i] : Array Value)[j]? = [Value.int .i64 e.s, .int .i64 e.q, .int .i64 e.i][j]?
  simp
theorem owns_belE {w w' : World} {base : Nat} {e : TypeId} {size : Nat} {v : Value} {n : Nat} {xs : List Value} (h : w.ownsRow base e size v n xs) (hb : Below w.heap.size w w') : w'.ownsRow base e size v n xs := by
  obtain ⟨h1, h2⟩ := h
  refine ⟨h1, ?_⟩
  rcases h2 with h2 | ⟨g, cap, cur, hv, hg, hh, r⟩
  · exact .inl h2
  · refine .inr ⟨g, cap, cur, hv, hg, ?_, r⟩
    rw [hb.block g (by by_cases hlt : g < w.heap.size; exact hlt; rw [Array.getElem?_eq_none (by omega)] at hh; cases hh)]
    exact hh
theorem elems_own {w : World} {base : Nat} {v : Value} {l : List El} (h : w.ownsRow base 34 3 v l.length (ecs l)) :
    ∃ a cap, v = .slice a l.length cap ∧ ElemsAt w a l ∧ l.length ≤ cap ∧ cap ≤ maxLen ∧ (a = none → l.length = 0 ∧ cap = 0) := by
  rcases h.2 with ⟨hv, h0⟩ | ⟨g, cap, cur, hv, hg, hh, hc, hm, hcs, ht⟩
  · exact ⟨none, 0, by rw [hv, h0], by rw [List.eq_nil_of_length_eq_zero h0]; exact ElemsAt.nil none, by omega, by omega, fun _ => ⟨h0, rfl⟩⟩
  · refine ⟨_, cap, hv, ⟨fun j hj => ⟨g, 0, rfl, (Array.getElem?_eq_some_iff.1 hh).1, ?_, ?_, ?_⟩⟩, hc, hm, fun h => by cases h⟩
    all_goals subst hv
    · rw [Nat.zero_add, h.cellAt (j * 3) (by omega)]
      exact ecs_get l j 0 hj (by decide)
    · rw [Nat.zero_add, h.cellAt (j * 3 + 1) (by omega)]
      exact ecs_get l j 1 hj (by decide)
    · rw [Nat.zero_add, h.cellAt (j * 3 + 2) (by omega)]
      exact ecs_get l j 2 hj (by decide)
theorem take_snocE {α : Type} {l : List α} {k : Nat} (h : k < l.length) : l.take (k + 1) = l.take k ++ [l[k]] := List.take_succ_eq_append_getElem h

/-- new memory that holds elements -/
def OwnPost (l : List El) (w : World) (e : Ending) (w' : World) : Prop := ∃ v, e = .returned v ∧ w'.ownsRow w.heap.size 34 3 v l.length (ecs l) ∧ Below w.heap.size w w'


/-- an op; its value lies flat: eleven cells -/
structure OpD where
  site : Int
  seq : Int
  kind : Int
  after : El
  text : ByteArray
  gone : List El
  of : Int
  num : Int
  gen : Int
def OpD.v (o : OpD) (a : Option Addr) (cap : Nat) : Value := .agg #[.int .i64 o.site, .int .i64 o.seq, .int .i64 o.kind, .int .i64 o.after.s, .int .i64 o.after.q, .int .i64 o.after.i, .string o.text, .slice a o.gone.length cap, .int .i64 o.of, .int .i64 o.num, .int .i64 o.gen]
def OpD.obj (o : OpD) (a : Option Addr) (cap : Nat) : Obj := .cells #[.int .i64 o.site, .int .i64 o.seq, .int .i64 o.kind, .int .i64 o.after.s, .int .i64 o.after.q, .int .i64 o.after.i, .string o.text, .slice a o.gone.length cap, .int .i64 o.of, .int .i64 o.num, .int .i64 o.gen] 36

theorem owns_base {w : World} {b b' : Nat} {e : TypeId} {size : Nat} {v : Value} {n : Nat} {xs : List Value} (h : w.ownsRow b e size v n xs) (hb : b' ≤ b) : w.ownsRow b' e size v n xs := by
  obtain ⟨h1, h2⟩ := h
  refine ⟨h1, ?_⟩
  rcases h2 with h2 | ⟨g, cap, cur, hv, hg, r⟩
  · exact .inl h2
  · exact .inr ⟨g, cap, cur, hv, Nat.le_trans hb hg, r⟩

/-- how many runes a text has, 0 where it may not be -/
def nR (s : ByteArray) : Nat := if okT s then (rns s).length else 0
theorem nR_le (s : ByteArray) : nR s ≤ s.size := by
  unfold nR
  split
  · exact rns_length s
  · omega
def IntB (n : Int) (w : World) (e : Ending) (w' : World) : Prop := e = .returned (.int .i64 n) ∧ Below w.heap.size w w'

/-- the elements that an op writes -/
def mine (s q : Int) (n : Nat) : List El := (List.range n).map fun (i : Nat) => (⟨s, q, (i : Int)⟩ : El)
theorem mine_length (s q : Int) (n : Nat) : (mine s q n).length = n := by simp [mine]
theorem mine_succ (s q : Int) (n : Nat) : mine s q (n + 1) = mine s q n ++ [⟨s, q, (n : Int)⟩] := by simp [mine, List.range_succ]


theorem bcell {W w1 : World} (hb : Below W.heap.size W w1) : (∀ b o, b < W.heap.size → w1.cell? ⟨b, o, none⟩ = W.cell? ⟨b, o, none⟩) ∧ (∀ b o, b < W.heap.size → w1.frozen? ⟨b, o, none⟩ = W.frozen? ⟨b, o, none⟩) :=
  ⟨fun b o h => hb.cell (p := ⟨b, o, none⟩) h, fun b o h => hb.frozen (p := ⟨b, o, none⟩) h⟩
end Go.Proofs.YtnkinbobnhdpaaaDoor
