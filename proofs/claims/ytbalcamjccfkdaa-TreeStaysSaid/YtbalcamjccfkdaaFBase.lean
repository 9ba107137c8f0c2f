/- the front of package tree: nodes, a row of them, the front's memory -/
import Derived.Test.YtbalcamjccfkdaaOBase
import Derived.Test.YtbalcamjccfkdaaPComp
import Derived.WalkKit
import Derived.Handy
import Derived.Maps.AppendAt
import Derived.Laws.OwnMore
namespace Go.Proofs.Ytbalcamjccfkdaa
open Go.RowKit Go.Lib

/-- a node: an element, and its op's place in the row -/
structure Nd where
  e : El
  op : Int
instance : Inhabited Nd := ⟨⟨⟨0, 0, 0⟩, 0⟩⟩
def Nd.cs (n : Nd) : List Value := [.int .i64 n.e.s, .int .i64 n.e.q, .int .i64 n.e.i, .int .i64 n.op]
def Nd.v (n : Nd) : Value := .agg #[.int .i64 n.e.s, .int .i64 n.e.q, .int .i64 n.e.i, .int .i64 n.op]
def ncs (l : List Nd) : List Value := l.flatMap Nd.cs
theorem ncs_append (a b : List Nd) : ncs (a ++ b) = ncs a ++ ncs b := by simp [ncs]
theorem ncs_length (l : List Nd) : (ncs l).length = l.length * 4 := by
  induction l with
  | nil => rfl
  | cons e l ih => show (Nd.cs e ++ ncs l).length = _; rw [List.length_append, ih, List.length_cons]; show 4 + _ = _; omega
theorem ncs_get (l : List Nd) (j c : Nat) (h : j < l.length) (hc : c < 4) : (ncs l)[j * 4 + c]? = (Nd.cs l[j])[c]? := by
  induction l generalizing j with
  | nil => exact absurd h (by simp)
  | cons e l ih =>
    show (Nd.cs e ++ ncs l)[j * 4 + c]? = _
    cases j with
    | zero =>
      rw [List.getElem?_append_left (by show 0 * 4 + c < 4; omega)]
      simp
    | succ j =>
      rw [List.getElem?_append_right (by show 4 ≤ _; omega)]
      have : (j + 1) * 4 + c - (Nd.cs e).length = j * 4 + c := by show (j + 1) * 4 + c - 4 = _; omega
      rw [this, ih j (by simpa using h)]
      simp
theorem ncs_take (l : List Nd) (k : Nat) : (ncs l).take (k * 4) = ncs (l.take k) := by
  induction l generalizing k with
  | nil => simp [ncs]
  | cons x r ih =>
    cases k with
    | zero => simp [ncs]
    | succ k =>
      show (Nd.cs x ++ ncs r).take _ = Nd.cs x ++ ncs (r.take k)
      rw [← ih k, List.take_append]
      have h3 : (Nd.cs x).length = 4 := rfl
      rw [h3, List.take_of_length_le (by rw [h3]; omega), show (k + 1) * 4 - 4 = k * 4 from by omega]
theorem ncs_set (l : List Nd) (k : Nat) (n : Nd) (h : k < l.length) : ((((ncs l).set (k * 4) (.int .i64 n.e.s)).set (k * 4 + 1) (.int .i64 n.e.q)).set (k * 4 + 2) (.int .i64 n.e.i)).set (k * 4 + 3) (.int .i64 n.op) = ncs (l.set k n) := by
  induction l generalizing k with
  | nil => exact absurd h (by simp)
  | cons x r ih =>
    cases k with
    | zero => rfl
    | succ k =>
      have := ih k (by simpa using h)
      show ((((Nd.cs x ++ ncs r).set _ _).set _ _).set _ _).set _ _ = Nd.cs x ++ ncs (r.set k n)
      rw [← this]
      have h3 : (Nd.cs x).length = 4 := rfl
      rw [List.set_append_right _ _ (by rw [h3]; omega), List.set_append_right _ _ (by rw [h3]; omega), List.set_append_right _ _ (by rw [h3]; omega), List.set_append_right _ _ (by rw [h3]; omega), h3]
      rw [show (k + 1) * 4 - 4 = k * 4 from by omega, show (k + 1) * 4 + 1 - 4 = k * 4 + 1 from by omega, show (k + 1) * 4 + 2 - 4 = k * 4 + 2 from by omega, show (k + 1) * 4 + 3 - 4 = k * 4 + 3 from by omega]

/-- nothing has turned but what block F holds, and the row's block r; new blocks may lie behind -/
structure Kept (F : Nat) (r : Option Nat) (w w' : World) : Prop where
  os : w'.os = w.os
  tape : w'.tape = w.tape
  output : w'.output = w.output
  size : w.heap.size ≤ w'.heap.size
  block : ∀ k, k < w.heap.size → k ≠ F → some k ≠ r → w'.heap[k]? = w.heap[k]?
theorem Kept.refl (F : Nat) (r : Option Nat) (w : World) : Kept F r w w := ⟨rfl, rfl, rfl, Nat.le_refl _, fun _ _ _ _ => rfl⟩
/-- r' is r, or a block that is new over w -/
def NewRow (w : World) (r r' : Option Nat) : Prop := r' = r ∨ ∃ g, r' = some g ∧ w.heap.size ≤ g
theorem Kept.trans {F : Nat} {r r1 : Option Nat} {w w1 w2 : World} (h : Kept F r w w1) (hr : NewRow w r r1) (h2 : Kept F r1 w1 w2) : Kept F r w w2 :=
  ⟨h2.os.trans h.os, h2.tape.trans h.tape, h2.output.trans h.output, Nat.le_trans h.size h2.size, fun k hk hF hkr => by
    rw [h2.block k (Nat.lt_of_lt_of_le hk h.size) hF (by
      rcases hr with rfl | ⟨g, rfl, hg⟩
      · exact hkr
      · intro e; cases e; omega), h.block k hk hF hkr]⟩
theorem NewRow.trans {w w1 : World} {r r1 r2 : Option Nat} (h : NewRow w r r1) (hs : w.heap.size ≤ w1.heap.size) (h2 : NewRow w1 r1 r2) : NewRow w r r2 := by
  rcases h2 with rfl | ⟨g, rfl, hg⟩
  · exact h
  · exact .inr ⟨g, rfl, by omega⟩
/-- the same memory: only draws lie between -/
structure Same (w w' : World) : Prop where
  os : w'.os = w.os
  tape : w'.tape = w.tape
  output : w'.output = w.output
  heap : w'.heap = w.heap
theorem Same.refl (w : World) : Same w w := ⟨rfl, rfl, rfl, rfl⟩
theorem Same.drewN (w : World) (q : Nat) : Same w (w.drewN q) := ⟨rfl, rfl, rfl, rfl⟩
theorem Same.kept {w w' : World} (h : Same w w') (F : Nat) (r : Option Nat) : Kept F r w w' := ⟨h.os, h.tape, h.output, by rw [h.heap]; exact Nat.le_refl _, fun _ _ _ _ => by rw [h.heap]⟩
theorem Same.cell {w w' : World} (h : Same w w') (a : Addr) : w'.cell? a = w.cell? a := by unfold World.cell?; rw [h.heap]
theorem Same.frozen {w w' : World} (h : Same w w') (a : Addr) : w'.frozen? a = w.frozen? a := by unfold World.frozen?; rw [h.heap]
theorem Same.below {w w' : World} (h : Same w w') (B : Nat) : Below B w w' := ⟨h.os, h.tape, h.output, by rw [h.heap]; exact Nat.le_refl _, fun _ _ => by rw [h.heap]⟩
theorem Same.owns {w w' : World} (h : Same w w') {base : Nat} {e : TypeId} {size : Nat} {v : Value} {n : Nat} {xs : List Value} (ho : w.ownsRow base e size v n xs) : w'.ownsRow base e size v n xs := by
  refine ⟨ho.1, ?_⟩
  rw [h.heap]
  exact ho.2

/-- the front's box F of the call's own, its slice v, and what that holds -/
structure Fr (w : World) (base F : Nat) (v : Value) (L : List Nd) : Prop where
  box : w.heap[F]? = some (.cells #[v] 58 (0, 0))
  own : w.ownsRow base 63 4 v L.length (ncs L)
  ge : base ≤ F
  ne : v.ownBlock ≠ some F
theorem Fr.cell {w : World} {base F : Nat} {v : Value} {L : List Nd} (h : Fr w base F v L) : w.cell? ⟨F, 0, none⟩ = some v := by
  simp [World.cell?, h.box]
theorem Fr.lt {w : World} {base F : Nat} {v : Value} {L : List Nd} (h : Fr w base F v L) : F < w.heap.size := (Array.getElem?_eq_some_iff.1 h.box).1
theorem Fr.same {w w' : World} {base F : Nat} {v : Value} {L : List Nd} (h : Fr w base F v L) (hs : Same w w') : Fr w' base F v L :=
  ⟨by rw [hs.heap]; exact h.box, hs.owns h.own, h.ge, h.ne⟩
theorem Fr.form {w : World} {base F : Nat} {v : Value} {L : List Nd} (h : Fr w base F v L) : ∃ a cap, v = .slice a L.length cap ∧ L.length ≤ cap ∧ cap ≤ maxLen ∧ (0 < L.length → ∃ g, a = some ⟨g, 0, none⟩) := by
  rcases h.own.2 with ⟨hv, h0⟩ | ⟨g, cap, cur, hv, hg, hh, hc, hm, hcs, ht⟩
  · exact ⟨none, 0, by rw [hv, h0], by omega, by omega, fun h => absurd h (by omega)⟩
  · exact ⟨_, cap, hv, hc, hm, fun _ => ⟨g, rfl⟩⟩
/-- what a method leaves: the front holds L' -/
def FrTo (base F : Nat) (w : World) (v : Value) (L' : List Nd) (w' : World) : Prop := ∃ v', Fr w' base F v' L' ∧ Kept F v.ownBlock w w' ∧ NewRow w v.ownBlock v'.ownBlock
theorem FrTo.refl {base F : Nat} {w : World} {v : Value} {L : List Nd} (h : Fr w base F v L) : FrTo base F w v L w := ⟨v, h, Kept.refl _ _ _, .inl rfl⟩
theorem FrTo.trans {base F : Nat} {w w1 w2 : World} {v v1 : Value} {L2 : List Nd} (hk : Kept F v.ownBlock w w1) (hn : NewRow w v.ownBlock v1.ownBlock) (h : FrTo base F w1 v1 L2 w2) : FrTo base F w v L2 w2 := by
  obtain ⟨v2, h1, h2, h3⟩ := h
  exact ⟨v2, h1, hk.trans hn h2, hn.trans hk.size h3⟩

theorem row_nd {w : World} {base g cap n : Nat} {l : List Nd} (h : w.ownsRow base 63 4 (.slice (some ⟨g, 0, none⟩) n cap) n (ncs l)) (hl : l.length = n) (j : Nat) (hj : j < n) :
    w.cell? ⟨g, j * 4, none⟩ = some (.int .i64 l[j]!.e.s) ∧ w.cell? ⟨g, j * 4 + 1, none⟩ = some (.int .i64 l[j]!.e.q) ∧ w.cell? ⟨g, j * 4 + 2, none⟩ = some (.int .i64 l[j]!.e.i) ∧ w.cell? ⟨g, j * 4 + 3, none⟩ = some (.int .i64 l[j]!.op) := by
  have h0 : l[j]! = l[j] := getElem!_pos l j (by omega)
  rw [h0]
  refine ⟨?_, ?_, ?_, ?_⟩
  · rw [h.cellAt (j * 4) (by omega)]; exact ncs_get l j 0 (by omega) (by decide)
  · rw [h.cellAt (j * 4 + 1) (by omega)]; exact ncs_get l j 1 (by omega) (by decide)
  · rw [h.cellAt (j * 4 + 2) (by omega)]; exact ncs_get l j 2 (by omega) (by decide)
  · rw [h.cellAt (j * 4 + 3) (by omega)]; exact ncs_get l j 3 (by omega) (by decide)

/-- the two at i and k change their places -/
def swp (l : List Nd) (i k : Nat) : List Nd := (l.set i l[k]!).set k l[i]!
theorem swp_length (l : List Nd) (i k : Nat) : (swp l i k).length = l.length := by simp [swp]

theorem mLen (k : Nat) (w : World) (F : Nat) (v : Value) (h : w.cell? ⟨F, 0, none⟩ = some v) :
    (method (k + 1) 71 (.pointer (some ⟨F, 0, none⟩)) "Len").run Try.prog w = .ok (22, v) w := by
  have e : ∀ w, (method (k + 1) 71 (.pointer (some ⟨F, 0, none⟩)) "Len").run Try.prog w = (do let v ← load ⟨F,0,none⟩; pure (22, v) : Sem (FuncId × Value)).run Try.prog w := fun w => by kernel_rfl
  rw [e]
  simp [h, go_sem]
theorem mLess (k : Nat) (w : World) (F : Nat) (v : Value) (h : w.cell? ⟨F, 0, none⟩ = some v) :
    (method (k + 1) 71 (.pointer (some ⟨F, 0, none⟩)) "Less").run Try.prog w = .ok (86, v) w := by
  have e : ∀ w, (method (k + 1) 71 (.pointer (some ⟨F, 0, none⟩)) "Less").run Try.prog w = (do let v ← load ⟨F,0,none⟩; pure (86, v) : Sem (FuncId × Value)).run Try.prog w := fun w => by kernel_rfl
  rw [e]
  simp [h, go_sem]
theorem mSwap (k : Nat) (w : World) (F : Nat) (v : Value) (h : w.cell? ⟨F, 0, none⟩ = some v) :
    (method (k + 1) 71 (.pointer (some ⟨F, 0, none⟩)) "Swap").run Try.prog w = .ok (87, v) w := by
  have e : ∀ w, (method (k + 1) 71 (.pointer (some ⟨F, 0, none⟩)) "Swap").run Try.prog w = (do let v ← load ⟨F,0,none⟩; pure (87, v) : Sem (FuncId × Value)).run Try.prog w := fun w => by kernel_rfl
  rw [e]
  simp [h, go_sem]
theorem mPush (k : Nat) (w : World) (F : Nat) : (method (k + 1) 71 (.pointer (some ⟨F, 0, none⟩)) "Push").run Try.prog w = .ok (89, .pointer (some ⟨F, 0, none⟩)) w := by kernel_rfl
theorem mPop (k : Nat) (w : World) (F : Nat) : (method (k + 1) 71 (.pointer (some ⟨F, 0, none⟩)) "Pop").run Try.prog w = .ok (88, .pointer (some ⟨F, 0, none⟩)) w := by kernel_rfl

/-- the number of what is handed back -/
def NumS (n : Int) (w : World) (e : Ending) (w' : World) : Prop := e = .returned (.int .i64 n) ∧ Same w w'
def BoolS (b : Bool) (w : World) (e : Ending) (w' : World) : Prop := e = .returned (.bool b) ∧ Same w w'
theorem fLen_any (a : Option Addr) (n cap : Nat) (w : World) : Calls Try.prog 22 #[.slice a n cap] w (NumS n w) := by
  go_enter Try.func22, Try.ntmps22
  go_wp2
  go_ret
  exact ⟨rfl, Same.refl _⟩
end Go.Proofs.Ytbalcamjccfkdaa
