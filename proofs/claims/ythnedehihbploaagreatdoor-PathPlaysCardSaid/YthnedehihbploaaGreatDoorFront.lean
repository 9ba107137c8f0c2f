/- the front of package tree: nodes, a row of them, the front's memory -/
import Derived.Test.YthnedehihbploaaGreatDoorOBase
import Derived.Test.YthnedehihbploaaGreatDoorPComp
import Derived.WalkKit
import Derived.Handy
import Derived.Maps.AppendAt
import Derived.Laws.OwnMore
import Derived.BigQuiet
import Derived.Deep.QuietTactic
import Derived.WalkLawsBesides
import Derived.Sort.AtCall
import Derived.Deep.AppendLies
import Derived.Deep.RegionLaw
import Derived.StillTailTactics
namespace Go.Proofs.YthnedehihbploaaGreatDoor
open Go.RowKit Go.Lib

/-- a node: an element, and its op's place in the row -/
structure Nd where
  e : El
  op : Int
instance : Inhabited Nd := ⟨⟨⟨0, 0, 0⟩, 0⟩⟩
def Nd.cs (n : Nd) : List Value := [.int .i64 n.e.s, .int .i64 n.e.q, .int .i64 n.e.i, .int .i64 n.op]
def Nd.v (n : Nd) : Value := .agg #[.int .i64 n.e.s, .int .i64 n.e.q, .int .i64 n.e.i, .int .i64 n.op]
def ncs (l : List Nd) : List Value := l.flatMap Nd.cs
theorem ncs_append (a b : List Nd) : ncs (a ++ b) = ncs a ++ ncs b := by simp [ncs]
theorem ncs_length (l : List Nd) : (ncs l).length = l.length * 4 := by
  induction l with
  | nil => rfl
  | cons e l ih => show (Nd.cs e ++ ncs l).length = _; rw [List.length_append, ih, List.length_cons]; show 4 + _ = _; omega
theorem ncs_get (l : List Nd) (j c : Nat) (h : j < l.length) (hc : c < 4) : (ncs l)[j * 4 + c]? = (Nd.cs l[j])[c]? := by
  induction l generalizing j with
  | nil => exact absurd h (by simp)
  | cons e l ih =>
    show (Nd.cs e ++ ncs l)[j * 4 + c]? = _
    cases j with
    | zero =>
      rw [List.getElem?_append_left (by show 0 * 4 + c < 4; omega)]
      simp
    | succ j =>
      rw [List.getElem?_append_right (by show 4 ≤ _; omega)]
      have : (j + 1) * 4 + c - (Nd.cs e).length = j * 4 + c := by show (j + 1) * 4 + c - 4 = _; omega
      rw [this, ih j (by simpa using h)]
      simp
theorem ncs_take (l : List Nd) (k : Nat) : (ncs l).take (k * 4) = ncs (l.take k) := by
  induction l generalizing k with
  | nil => simp [ncs]
  | cons x r ih =>
    cases k with
    | zero => simp [ncs]
    | succ k =>
      show (Nd.cs x ++ ncs r).take _ = Nd.cs x ++ ncs (r.take k)
      rw [← ih k, List.take_append]
      have h3 : (Nd.cs x).length = 4 := rfl
      rw [h3, List.take_of_length_le (by rw [h3]; omega), show (k + 1) * 4 - 4 = k * 4 from by omega]
theorem ncs_set (l : List Nd) (k : Nat) (n : Nd) (h : k < l.length) : ((((ncs l).set (k * 4) (.int .i64 n.e.s)).set (k * 4 + 1) (.int .i64 n.e.q)).set (k * 4 + 2) (.int .i64 n.e.i)).set (k * 4 + 3) (.int .i64 n.op) = ncs (l.set k n) := by
  induction l generalizing k with
  | nil => exact absurd h (by simp)
  | cons x r ih =>
    cases k with
    | zero => rfl
    | succ k =>
      have := ih k (by simpa using h)
      show ((((Nd.cs x ++ ncs r).set _ _).set _ _).set _ _).set _ _ = Nd.cs x ++ ncs (r.set k n)
      rw [← this]
      have h3 : (Nd.cs x).length = 4 := rfl
      rw [List.set_append_right _ _ (by rw [h3]; omega), List.set_append_right _ _ (by rw [h3]; omega), List.set_append_right _ _ (by rw [h3]; omega), List.set_append_right _ _ (by rw [h3]; omega), h3]
      rw [show (k + 1) * 4 - 4 = k * 4 from by omega, show (k + 1) * 4 + 1 - 4 = k * 4 + 1 from by omega, show (k + 1) * 4 + 2 - 4 = k * 4 + 2 from by omega, show (k + 1) * 4 + 3 - 4 = k * 4 + 3 from by omega]

/-- nothing has turned but what block F holds, and the row's block r; new blocks may lie behind -/
structure Kept (F : Nat) (r : Option Nat) (w w' : World) : Prop where
  os : w'.os = w.os
  tape : w'.tape = w.tape
  output : w'.output = w.output
  size : w.heap.size ≤ w'.heap.size
  block : ∀ k, k < w.heap.size → k ≠ F → some k ≠ r → w'.heap[k]? = w.heap[k]?
theorem Kept.refl (F : Nat) (r : Option Nat) (w : World) : Kept F r w w := ⟨rfl, rfl, rfl, Nat.le_refl _, fun _ _ _ _ => rfl⟩
/-- r' is r, or a block that is new over w -/
def NewRow (w : World) (r r' : Option Nat) : Prop := r' = r ∨ ∃ g, r' = some g ∧ w.heap.size ≤ g
theorem Kept.trans {F : Nat} {r r1 : Option Nat} {w w1 w2 : World} (h : Kept F r w w1) (hr : NewRow w r r1) (h2 : Kept F r1 w1 w2) : Kept F r w w2 :=
  ⟨h2.os.trans h.os, h2.tape.trans h.tape, h2.output.trans h.output, Nat.le_trans h.size h2.size, fun k hk hF hkr => by
    rw [h2.block k (Nat.lt_of_lt_of_le hk h.size) hF (by
      rcases hr with rfl | ⟨g, rfl, hg⟩
      · exact hkr
      · intro e; cases e; omega), h.block k hk hF hkr]⟩
theorem NewRow.trans {w w1 : World} {r r1 r2 : Option Nat} (h : NewRow w r r1) (hs : w.heap.size ≤ w1.heap.size) (h2 : NewRow w1 r1 r2) : NewRow w r r2 := by
  rcases h2 with rfl | ⟨g, rfl, hg⟩
  · exact h
  · exact .inr ⟨g, rfl, by omega⟩
/-- the same memory: only draws lie between -/
structure Same (w w' : World) : Prop where
  os : w'.os = w.os
  tape : w'.tape = w.tape
  output : w'.output = w.output
  heap : w'.heap = w.heap
theorem Same.refl (w : World) : Same w w := ⟨rfl, rfl, rfl, rfl⟩
theorem Same.drewN (w : World) (q : Nat) : Same w (w.drewN q) := ⟨rfl, rfl, rfl, rfl⟩
theorem Same.kept {w w' : World} (h : Same w w') (F : Nat) (r : Option Nat) : Kept F r w w' := ⟨h.os, h.tape, h.output, by rw [h.heap]; exact Nat.le_refl _, fun _ _ _ _ => by rw [h.heap]⟩
theorem Same.cell {w w' : World} (h : Same w w') (a : Addr) : w'.cell? a = w.cell? a := by unfold World.cell?; rw [h.heap]
theorem Same.frozen {w w' : World} (h : Same w w') (a : Addr) : w'.frozen? a = w.frozen? a := by unfold World.frozen?; rw [h.heap]
theorem Same.below {w w' : World} (h : Same w w') (B : Nat) : Below B w w' := ⟨h.os, h.tape, h.output, by rw [h.heap]; exact Nat.le_refl _, fun _ _ => by rw [h.heap]⟩
theorem Same.owns {w w' : World} (h : Same w w') {base : Nat} {e : TypeId} {size : Nat} {v : Value} {n : Nat} {xs : List Value} (ho : w.ownsRow base e size v n xs) : w'.ownsRow base e size v n xs := by
  refine ⟨ho.1, ?_⟩
  rw [h.heap]
  exact ho.2

/-- the front's box F of the call's own, its slice v, and what that holds -/
structure Fr (w : World) (base F : Nat) (v : Value) (L : List Nd) : Prop where
  box : w.heap[F]? = some (.cells #[v] 160 (0, 0))
  own : w.ownsRow base 166 4 v L.length (ncs L)
  ge : base ≤ F
  ne : v.ownBlock ≠ some F
theorem Fr.cell {w : World} {base F : Nat} {v : Value} {L : List Nd} (h : Fr w base F v L) : w.cell? ⟨F, 0, none⟩ = some v := by
  simp [World.cell?, h.box]
theorem Fr.lt {w : World} {base F : Nat} {v : Value} {L : List Nd} (h : Fr w base F v L) : F < w.heap.size := (Array.getElem?_eq_some_iff.1 h.box).1
theorem Fr.same {w w' : World} {base F : Nat} {v : Value} {L : List Nd} (h : Fr w base F v L) (hs : Same w w') : Fr w' base F v L :=
  ⟨by rw [hs.heap]; exact h.box, hs.owns h.own, h.ge, h.ne⟩
theorem Fr.form {w : World} {base F : Nat} {v : Value} {L : List Nd} (h : Fr w base F v L) : ∃ a cap, v = .slice a L.length cap ∧ L.length ≤ cap ∧ cap ≤ maxLen ∧ (0 < L.length → ∃ g, a = some ⟨g, 0, none⟩) := by
  rcases h.own.2 with ⟨hv, h0⟩ | ⟨g, cap, cur, hv, hg, hh, hc, hm, hcs, ht⟩
  · exact ⟨none, 0, by rw [hv, h0], by omega, by omega, fun h => absurd h (by omega)⟩
  · exact ⟨_, cap, hv, hc, hm, fun _ => ⟨g, rfl⟩⟩
/-- what a method leaves: the front holds L' -/
def FrTo (base F : Nat) (w : World) (v : Value) (L' : List Nd) (w' : World) : Prop := ∃ v', Fr w' base F v' L' ∧ Kept F v.ownBlock w w' ∧ NewRow w v.ownBlock v'.ownBlock
theorem FrTo.refl {base F : Nat} {w : World} {v : Value} {L : List Nd} (h : Fr w base F v L) : FrTo base F w v L w := ⟨v, h, Kept.refl _ _ _, .inl rfl⟩
theorem FrTo.trans {base F : Nat} {w w1 w2 : World} {v v1 : Value} {L2 : List Nd} (hk : Kept F v.ownBlock w w1) (hn : NewRow w v.ownBlock v1.ownBlock) (h : FrTo base F w1 v1 L2 w2) : FrTo base F w v L2 w2 := by
  obtain ⟨v2, h1, h2, h3⟩ := h
  exact ⟨v2, h1, hk.trans hn h2, hn.trans hk.size h3⟩

theorem row_nd {w : World} {base g cap n : Nat} {l : List Nd} (h : w.ownsRow base 166 4 (.slice (some ⟨g, 0, none⟩) n cap) n (ncs l)) (hl : l.length = n) (j : Nat) (hj : j < n) :
    w.cell? ⟨g, j * 4, none⟩ = some (.int .i64 l[j]!.e.s) ∧ w.cell? ⟨g, j * 4 + 1, none⟩ = some (.int .i64 l[j]!.e.q) ∧ w.cell? ⟨g, j * 4 + 2, none⟩ = some (.int .i64 l[j]!.e.i) ∧ w.cell? ⟨g, j * 4 + 3, none⟩ = some (.int .i64 l[j]!.op) := by
  have h0 : l[j]! = l[j] := getElem!_pos l j (by omega)
  rw [h0]
  refine ⟨?_, ?_, ?_, ?_⟩
  · rw [h.cellAt (j * 4) (by omega)]; exact ncs_get l j 0 (by omega) (by decide)
  · rw [h.cellAt (j * 4 + 1) (by omega)]; exact ncs_get l j 1 (by omega) (by decide)
  · rw [h.cellAt (j * 4 + 2) (by omega)]; exact ncs_get l j 2 (by omega) (by decide)
  · rw [h.cellAt (j * 4 + 3) (by omega)]; exact ncs_get l j 3 (by omega) (by decide)

/-- the two at i and k change their places -/
def swp (l : List Nd) (i k : Nat) : List Nd := (l.set i l[k]!).set k l[i]!
theorem swp_length (l : List Nd) (i k : Nat) : (swp l i k).length = l.length := by simp [swp]

theorem mLen (k : Nat) (w : World) (F : Nat) (v : Value) (h : w.cell? ⟨F, 0, none⟩ = some v) :
    (method (k + 1) 184 (.pointer (some ⟨F, 0, none⟩)) "Len").run Tryz.prog w = .ok (117, v) w := by
  have e : ∀ w, (method (k + 1) 184 (.pointer (some ⟨F, 0, none⟩)) "Len").run Tryz.prog w = (do let v ← load ⟨F,0,none⟩; pure (117, v) : Sem (FuncId × Value)).run Tryz.prog w := fun w => by kernel_rfl
  rw [e]
  simp [h, go_sem]
theorem mLess (k : Nat) (w : World) (F : Nat) (v : Value) (h : w.cell? ⟨F, 0, none⟩ = some v) :
    (method (k + 1) 184 (.pointer (some ⟨F, 0, none⟩)) "Less").run Tryz.prog w = .ok (218, v) w := by
  have e : ∀ w, (method (k + 1) 184 (.pointer (some ⟨F, 0, none⟩)) "Less").run Tryz.prog w = (do let v ← load ⟨F,0,none⟩; pure (218, v) : Sem (FuncId × Value)).run Tryz.prog w := fun w => by kernel_rfl
  rw [e]
  simp [h, go_sem]
theorem mSwap (k : Nat) (w : World) (F : Nat) (v : Value) (h : w.cell? ⟨F, 0, none⟩ = some v) :
    (method (k + 1) 184 (.pointer (some ⟨F, 0, none⟩)) "Swap").run Tryz.prog w = .ok (219, v) w := by
  have e : ∀ w, (method (k + 1) 184 (.pointer (some ⟨F, 0, none⟩)) "Swap").run Tryz.prog w = (do let v ← load ⟨F,0,none⟩; pure (219, v) : Sem (FuncId × Value)).run Tryz.prog w := fun w => by kernel_rfl
  rw [e]
  simp [h, go_sem]
theorem mPush (k : Nat) (w : World) (F : Nat) : (method (k + 1) 184 (.pointer (some ⟨F, 0, none⟩)) "Push").run Tryz.prog w = .ok (222, .pointer (some ⟨F, 0, none⟩)) w := by kernel_rfl
theorem mPop (k : Nat) (w : World) (F : Nat) : (method (k + 1) 184 (.pointer (some ⟨F, 0, none⟩)) "Pop").run Tryz.prog w = .ok (221, .pointer (some ⟨F, 0, none⟩)) w := by kernel_rfl

/-- the number of what is handed back -/
def NumS (n : Int) (w : World) (e : Ending) (w' : World) : Prop := e = .returned (.int .i64 n) ∧ Same w w'
def BoolS (b : Bool) (w : World) (e : Ending) (w' : World) : Prop := e = .returned (.bool b) ∧ Same w w'
theorem fLen_any (a : Option Addr) (n cap : Nat) (w : World) : Calls Tryz.prog 117 #[.slice a n cap] w (NumS n w) := by
  go_enter Tryz.func117, Tryz.ntmps117
  go_wp2
  go_ret
  exact ⟨rfl, Same.refl _⟩
end Go.Proofs.YthnedehihbploaaGreatDoor
/- a binary heap as a list: what goes up, what goes down -/
namespace Go.Proofs.YthnedehihbploaaGreatDoor
open Go.RowKit Go.Lib

theorem swp_perm (l : List Nd) (i k : Nat) (hi : i < l.length) (hk : k < l.length) : (swp l i k).Perm l := by
  unfold swp
  rw [getElem!_pos l i hi, getElem!_pos l k hk]
  exact List.set_set_perm hi hk
theorem set_get (l : List Nd) (i j : Nat) (x : Nd) (hi : i < l.length) : (l.set i x)[j]! = if i = j then x else l[j]! := by
  by_cases h : i = j
  · subst h
    rw [if_pos rfl, getElem!_pos (l.set i x) i (by rw [List.length_set]; exact hi)]
    simp
  · rw [if_neg h]
    by_cases hj : j < l.length
    · rw [getElem!_pos (l.set i x) j (by rw [List.length_set]; exact hj), getElem!_pos l j hj]
      simp [h]
    · rw [getElem!_neg (l.set i x) j (by rw [List.length_set]; exact hj), getElem!_neg l j hj]
theorem swp_get (l : List Nd) (i k j : Nat) (hi : i < l.length) (hk : k < l.length) : (swp l i k)[j]! = if k = j then l[i]! else if i = j then l[k]! else l[j]! := by
  unfold swp
  rw [set_get _ k j _ (by rw [List.length_set]; exact hk)]
  by_cases h : k = j
  · rw [if_pos h, if_pos h]
  · rw [if_neg h, if_neg h, set_get _ i j _ hi]

def HeapN (l : List Nd) (n : Nat) : Prop := ∀ i, 0 < i → i < n → l[i]!.op ≤ l[(i - 1) / 2]!.op
/-- a heap but for what stands at j, which may be too great -/
def HUp (l : List Nd) (j : Nat) : Prop := (∀ i, 0 < i → i < l.length → i ≠ j → l[i]!.op ≤ l[(i - 1) / 2]!.op) ∧ ∀ c, 0 < c → c < l.length → (c - 1) / 2 = j → 0 < j → l[c]!.op ≤ l[(j - 1) / 2]!.op
/-- a heap of n but for what stands at i, which may be too small -/
def HDn (l : List Nd) (n i : Nat) : Prop := (∀ k, 0 < k → k < n → (k - 1) / 2 ≠ i → l[k]!.op ≤ l[(k - 1) / 2]!.op) ∧ ∀ c, 0 < c → c < n → (c - 1) / 2 = i → 0 < i → l[c]!.op ≤ l[(i - 1) / 2]!.op

theorem HUp.done0 {l : List Nd} (h : HUp l 0) : HeapN l l.length := fun i h0 hi => h.1 i h0 hi (by omega)
theorem HUp.done {l : List Nd} {j : Nat} (h : HUp l j) (hj : l[j]!.op ≤ l[(j - 1) / 2]!.op) : HeapN l l.length := fun i h0 hi => by
  by_cases e : i = j
  · subst e; exact hj
  · exact h.1 i h0 hi e
theorem HUp.step {l : List Nd} {i j : Nat} (h : HUp l j) (hj : j < l.length) (h0 : 0 < j) (hi : i = (j - 1) / 2) (hgt : l[i]!.op < l[j]!.op) : HUp (swp l i j) i := by
  have hil : i < l.length := by omega
  have hij : i < j := by omega
  refine ⟨fun k hk0 hk hki => ?_, fun c hc0 hc hci hi0 => ?_⟩
  · rw [swp_length] at hk
    rw [swp_get l i j k hil hj, swp_get l i j _ hil hj]
    by_cases e : k = j
    · subst e
      rw [if_pos rfl, if_neg (by omega), if_pos hi]
      omega
    · rw [if_neg (Ne.symm e), if_neg (Ne.symm hki)]
      by_cases e1 : j = (k - 1) / 2
      · rw [if_pos e1]
        have := h.2 k hk0 hk e1.symm h0
        rw [← hi] at this
        exact this
      · rw [if_neg e1]
        have h1 := h.1 k hk0 hk e
        by_cases e2 : i = (k - 1) / 2
        · rw [if_pos e2]
          rw [← e2] at h1
          omega
        · rw [if_neg e2]
          exact h1
  · rw [swp_length] at hc
    rw [swp_get l i j c hil hj, swp_get l i j _ hil hj, if_neg (by omega : ¬ j = (i - 1) / 2), if_neg (by omega : ¬ i = (i - 1) / 2)]
    have hii := h.1 i hi0 hil (by omega)
    by_cases e : c = j
    · subst e
      rw [if_pos rfl]
      exact hii
    · rw [if_neg (Ne.symm e), if_neg (by omega)]
      have h1 := h.1 c hc0 hc e
      rw [hci] at h1
      omega
theorem HUp.start {l : List Nd} (h : HeapN l l.length) (n : Nd) : HUp (l ++ [n]) l.length := by
  have hget : ∀ i, i < l.length → (l ++ [n])[i]! = l[i]! := fun i hi => by
    rw [getElem!_pos (l ++ [n]) i (by rw [List.length_append]; omega), getElem!_pos l i hi, List.getElem_append_left hi]
  refine ⟨fun i h0 hi hne => ?_, fun c h0 hc hcj hj => ?_⟩
  · rw [List.length_append, List.length_singleton] at hi
    rw [hget i (by omega), hget _ (by omega)]
    exact h i h0 (by omega)
  · rw [List.length_append, List.length_singleton] at hc
    omega

theorem HDn.leaf {l : List Nd} {n i : Nat} (h : HDn l n i) (hi : n ≤ 2 * i + 1) : HeapN l n := fun k h0 hk => h.1 k h0 hk (by omega)
theorem HDn.done {l : List Nd} {n i j : Nat} (h : HDn l n i) (hji : l[j]!.op ≤ l[i]!.op) (hmax : ∀ c, 0 < c → c < n → (c - 1) / 2 = i → l[c]!.op ≤ l[j]!.op) : HeapN l n := fun k h0 hk => by
  by_cases e : (k - 1) / 2 = i
  · have := hmax k h0 hk e
    rw [e]
    omega
  · exact h.1 k h0 hk e
theorem HDn.step {l : List Nd} {n i j : Nat} (h : HDn l n i) (hn : n ≤ l.length) (hj : j < n) (hj0 : 0 < j) (hij : (j - 1) / 2 = i) (hgt : l[i]!.op < l[j]!.op) (hmax : ∀ c, 0 < c → c < n → (c - 1) / 2 = i → l[c]!.op ≤ l[j]!.op) : HDn (swp l i j) n j := by
  have hil : i < l.length := by omega
  have hjl : j < l.length := by omega
  refine ⟨fun k hk0 hk hkj => ?_, fun c hc0 hc hcj hj1 => ?_⟩
  · rw [swp_get l i j k hil hjl, swp_get l i j _ hil hjl]
    by_cases e : k = j
    · subst e
      rw [if_pos rfl, if_neg (by omega), if_pos hij.symm]
      omega
    · rw [if_neg (Ne.symm e), if_neg (Ne.symm hkj)]
      by_cases e1 : i = k
      · subst e1
        rw [if_pos rfl, if_neg (by omega)]
        have := h.2 j hj0 hj hij hk0
        exact this
      · rw [if_neg e1]
        by_cases e2 : i = (k - 1) / 2
        · rw [if_pos e2]
          exact hmax k hk0 hk e2.symm
        · rw [if_neg e2]
          exact h.1 k hk0 hk (Ne.symm e2)
  · rw [swp_get l i j c hil hjl, swp_get l i j _ hil hjl, if_neg (by omega : ¬ j = c), if_neg (by omega : ¬ i = c), if_neg (by omega : ¬ j = (j - 1) / 2), if_pos hij.symm]
    have := h.1 c hc0 hc (by omega)
    rw [hcj] at this
    exact this
/-- the children of i: the greater is j -/
theorem max_one {l : List Nd} {n i : Nat} (hn : n ≤ 2 * i + 2) : ∀ c, 0 < c → c < n → (c - 1) / 2 = i → l[c]!.op ≤ l[2 * i + 1]!.op := fun c h0 hc hi => by
  have : c = 2 * i + 1 := by omega
  rw [this]; exact Int.le_refl _
theorem max_left {l : List Nd} {n i : Nat} (h : l[2 * i + 2]!.op ≤ l[2 * i + 1]!.op) : ∀ c, 0 < c → c < n → (c - 1) / 2 = i → l[c]!.op ≤ l[2 * i + 1]!.op := fun c h0 hc hi => by
  have : c = 2 * i + 1 ∨ c = 2 * i + 2 := by omega
  rcases this with e | e
  · rw [e]; exact Int.le_refl _
  · rw [e]; exact h
theorem max_right {l : List Nd} {n i : Nat} (h : l[2 * i + 1]!.op < l[2 * i + 2]!.op) : ∀ c, 0 < c → c < n → (c - 1) / 2 = i → l[c]!.op ≤ l[2 * i + 2]!.op := fun c h0 hc hi => by
  have : c = 2 * i + 1 ∨ c = 2 * i + 2 := by omega
  rcases this with e | e
  · rw [e]; omega
  · rw [e]; exact Int.le_refl _
theorem HeapN.top {l : List Nd} {n : Nat} (h : HeapN l n) : ∀ i, i < n → l[i]!.op ≤ l[0]!.op := by
  intro i
  induction i using Nat.strongRecOn with
  | _ i ih =>
    intro hi
    by_cases e : i = 0
    · rw [e]; exact Int.le_refl _
    · have h1 := h i (by omega) hi
      have h2 := ih ((i - 1) / 2) (by omega) (by omega)
      omega
theorem HDn.start {l : List Nd} {n : Nat} (h : HeapN l l.length) (hl : l.length = n + 1) : HDn (swp l 0 n) n 0 := by
  refine ⟨fun k h0 hk hne => ?_, fun c _ _ _ h => absurd h (by omega)⟩
  rw [swp_get l 0 n k (by omega) (by omega), swp_get l 0 n _ (by omega) (by omega), if_neg (by omega), if_neg (by omega), if_neg (by omega), if_neg (by omega)]
  exact h k h0 (by omega)
theorem HeapN.take {l : List Nd} {n : Nat} (h : HeapN l n) (hn : n ≤ l.length) : HeapN (l.take n) (l.take n).length := by
  have hget : ∀ i, i < n → (l.take n)[i]! = l[i]! := fun i hi => by
    rw [getElem!_pos (l.take n) i (by rw [List.length_take]; omega), getElem!_pos l i (by omega), List.getElem_take]
  intro i h0 hi
  rw [List.length_take] at hi
  rw [hget i (by omega), hget _ (by omega)]
  exact h i h0 (by omega)
/-- behind a pop: what came, and what is left -/
theorem pop_parts {l l2 : List Nd} {n : Nat} (h : HeapN l l.length) (hl : l.length = n + 1) (hp : l2.Perm (swp l 0 n)) (hlast : l2[n]! = (swp l 0 n)[n]!) (h2 : HeapN l2 n) :
    (l2[n]! :: l2.take n).Perm l ∧ (∀ y ∈ l2.take n, y.op ≤ l2[n]!.op) ∧ HeapN (l2.take n) (l2.take n).length := by
  have hpl : l2.Perm l := hp.trans (swp_perm l 0 n (by omega) (by omega))
  have hlen : l2.length = n + 1 := by rw [hpl.length_eq]; exact hl
  have hx : l2[n]! = l[0]! := by rw [hlast, swp_get l 0 n n (by omega) (by omega), if_pos rfl]
  refine ⟨?_, fun y hy => ?_, h2.take (by omega)⟩
  · have e : l2 = l2.take n ++ [l2[n]!] := by
      have h3 := List.take_append_drop n l2
      rw [getElem!_pos l2 n (by omega)]
      conv => lhs; rw [← h3]
      congr 1
      rw [List.drop_eq_getElem_cons (by omega), List.drop_eq_nil_of_le (by omega)]
    refine List.Perm.trans ?_ hpl
    have e2 : (l2.take n ++ [l2[n]!]).Perm l2 := by rw [← e]
    exact ((List.perm_append_comm (l₁ := [l2[n]!]) (l₂ := l2.take n)).trans e2)
  · rw [hx]
    have hm : y ∈ l := hpl.subset (List.mem_of_mem_take hy)
    obtain ⟨i, hi, rfl⟩ := List.getElem_of_mem hm
    have := h.top i hi
    rw [getElem!_pos l i hi] at this
    exact this
end Go.Proofs.YthnedehihbploaaGreatDoor
/- the front: Less, Swap -/
namespace Go.Proofs.YthnedehihbploaaGreatDoor
open Go.RowKit Go.Lib

theorem fLess_any (base g cap n : Nat) (L : List Nd) (i j : Nat) (w : World) (hown : w.ownsRow base 166 4 (.slice (some ⟨g, 0, none⟩) n cap) n (ncs L)) (hl : L.length = n) (hi : i < n) (hj : j < n) :
    Calls Tryz.prog 218 #[.slice (some ⟨g, 0, none⟩) n cap, .int .i64 i, .int .i64 j] w (BoolS (decide (L[j]!.op < L[i]!.op)) w) := by
  have x0 := (row_nd hown hl i hi).2.2.2
  have y0 := (row_nd hown hl j hj).2.2.2
  generalize L[i]!.op = x at *
  generalize L[j]!.op = y at *
  clear hown hl
  go_enter Tryz.func218, Tryz.ntmps218
  go_wp2_with fail
  go_quiet (fail)
  go_wp2
  go_ret
  exact ⟨rfl, Same.drewN _ _⟩

def SwapPost (base g n cap : Nat) (L : List Nd) (w : World) (e : Ending) (w' : World) : Prop :=
  e = .returned (.tuple #[]) ∧ w'.ownsRow base 166 4 (.slice (some ⟨g, 0, none⟩) n cap) n (ncs L) ∧ w.grownBy w' (some g)
theorem four {w W : World} {base g n cap : Nat} {xs : List Value} (h : w.ownsRow base 166 4 (.slice (some ⟨g, 0, none⟩) n cap) n xs) (hg : W.grownBy w (some g)) (o : Nat) (a b c d : Value) :
    ((((w.setCell ⟨g, o, none⟩ a).setCell ⟨g, o + 1, none⟩ b).setCell ⟨g, o + 2, none⟩ c).setCell ⟨g, o + 3, none⟩ d).ownsRow base 166 4 (.slice (some ⟨g, 0, none⟩) n cap) n ((((xs.set o a).set (o + 1) b).set (o + 2) c).set (o + 3) d) ∧
    W.grownBy ((((w.setCell ⟨g, o, none⟩ a).setCell ⟨g, o + 1, none⟩ b).setCell ⟨g, o + 2, none⟩ c).setCell ⟨g, o + 3, none⟩ d) (some g) := by
  obtain ⟨h1, g1⟩ := h.stored o a
  obtain ⟨h2, g2⟩ := h1.stored (o + 1) b
  obtain ⟨h3, g3⟩ := h2.stored (o + 2) c
  obtain ⟨h4, g4⟩ := h3.stored (o + 3) d
  exact ⟨h4, (((hg.trans g1).trans g2).trans g3).trans g4⟩
theorem World.grownBy_refl (w : World) (r : Option Nat) : w.grownBy w r := ⟨rfl, rfl, rfl, Nat.le_refl _, fun _ _ _ => rfl⟩
theorem swap_end {w W : World} {base g n cap : Nat} {L : List Nd} (h : W.ownsRow base 166 4 (.slice (some ⟨g, 0, none⟩) n cap) n (ncs L)) (hq : w.grownBy W (some g)) : SwapPost base g n cap L w (.returned (.tuple #[])) W.drew :=
  ⟨rfl, h, ⟨hq.os, hq.tape, hq.output, hq.size, hq.block⟩⟩
set_option maxHeartbeats 1000000 in
theorem fSwap_any (base g cap n : Nat) (L : List Nd) (i k : Nat) (w : World) (hown : w.ownsRow base 166 4 (.slice (some ⟨g, 0, none⟩) n cap) n (ncs L)) (hl : L.length = n) (hi : i < n) (hk : k < n) :
    Calls Tryz.prog 219 #[.slice (some ⟨g, 0, none⟩) n cap, .int .i64 i, .int .i64 k] w (SwapPost base g n cap (swp L i k) w) := by
  obtain ⟨x0, x1, x2, x3⟩ := row_nd hown hl i hi
  obtain ⟨y0, y1, y2, y3⟩ := row_nd hown hl k hk
  have f0 := hown.frozenAt (i * 4)
  have f1 := hown.frozenAt (i * 4 + 1)
  have f2 := hown.frozenAt (i * 4 + 2)
  have f3 := hown.frozenAt (i * 4 + 3)
  have g0 := hown.frozenAt (k * 4)
  have g1 := hown.frozenAt (k * 4 + 1)
  have g2 := hown.frozenAt (k * 4 + 2)
  have g3 := hown.frozenAt (k * 4 + 3)
  have HE : RowKit.Hid (((((ncs L).set (i * 4) (.int .i64 L[k]!.e.s)).set (i * 4 + 1) (.int .i64 L[k]!.e.q)).set (i * 4 + 2) (.int .i64 L[k]!.e.i)).set (i * 4 + 3) (.int .i64 L[k]!.op) = ncs (L.set i L[k]!)) := Lib.hid (ncs_set L i L[k]! (by omega))
  have HE2 : RowKit.Hid (((((ncs (L.set i L[k]!)).set (k * 4) (.int .i64 L[i]!.e.s)).set (k * 4 + 1) (.int .i64 L[i]!.e.q)).set (k * 4 + 2) (.int .i64 L[i]!.e.i)).set (k * 4 + 3) (.int .i64 L[i]!.op) = ncs (swp L i k)) := Lib.hid (ncs_set _ k L[i]! (by rw [List.length_set]; omega))
  have HO := Lib.hid hown
  clear hown hl
  generalize swp L i k = E2 at *
  generalize (L.set i L[k]!) = E1 at *
  rcases Nat.lt_trichotomy i k with h | rfl | h
  · generalize L[i]! = x at *
    generalize L[k]! = y at *
    obtain ⟨⟨xs, xq, xi⟩, xp⟩ := x
    obtain ⟨⟨ys, yq, yi⟩, yp⟩ := y
    simp only at x0 x1 x2 x3 y0 y1 y2 y3 HE HE2
    go_enter Tryz.func219, Tryz.ntmps219
    go_wp2_with fail
    go_region
    go_wp2
    obtain ⟨o1, q1⟩ := four HO.out (World.grownBy_refl w (some g)) (i * 4) (.int .i64 ys) (.int .i64 yq) (.int .i64 yi) (.int .i64 yp)
    rw [HE.out] at o1
    obtain ⟨o2, q2⟩ := four o1 q1 (k * 4) (.int .i64 xs) (.int .i64 xq) (.int .i64 xi) (.int .i64 xp)
    rw [HE2.out] at o2
    go_end0
    exact swap_end o2 q2
  · clear y0 y1 y2 y3 g0 g1 g2 g3 hk
    generalize L[i]! = x at *
    obtain ⟨⟨xs, xq, xi⟩, xp⟩ := x
    simp only at x0 x1 x2 x3 HE HE2
    go_enter Tryz.func219, Tryz.ntmps219
    go_wp2_with fail
    go_region
    go_wp2
    obtain ⟨o1, q1⟩ := four HO.out (World.grownBy_refl w (some g)) (i * 4) (.int .i64 xs) (.int .i64 xq) (.int .i64 xi) (.int .i64 xp)
    rw [HE.out] at o1
    obtain ⟨o2, q2⟩ := four o1 q1 (i * 4) (.int .i64 xs) (.int .i64 xq) (.int .i64 xi) (.int .i64 xp)
    rw [HE2.out] at o2
    go_end0
    exact swap_end o2 q2
  · generalize L[i]! = x at *
    generalize L[k]! = y at *
    obtain ⟨⟨xs, xq, xi⟩, xp⟩ := x
    obtain ⟨⟨ys, yq, yi⟩, yp⟩ := y
    simp only at x0 x1 x2 x3 y0 y1 y2 y3 HE HE2
    go_enter Tryz.func219, Tryz.ntmps219
    go_wp2_with fail
    go_region
    go_wp2
    obtain ⟨o1, q1⟩ := four HO.out (World.grownBy_refl w (some g)) (i * 4) (.int .i64 ys) (.int .i64 yq) (.int .i64 yi) (.int .i64 yp)
    rw [HE.out] at o1
    obtain ⟨o2, q2⟩ := four o1 q1 (k * 4) (.int .i64 xs) (.int .i64 xq) (.int .i64 xi) (.int .i64 xp)
    rw [HE2.out] at o2
    go_end0
    exact swap_end o2 q2
end Go.Proofs.YthnedehihbploaaGreatDoor
/- container/heap at the front: up, down, Push, Pop -/
namespace Go.Proofs.YthnedehihbploaaGreatDoor
open Go.RowKit Go.Lib

theorem Fr.swap {w w' : World} {base F g cap n : Nat} {L L' : List Nd} (h : Fr w base F (.slice (some ⟨g, 0, none⟩) n cap) L) (hl : L'.length = n) (ho : w'.ownsRow base 166 4 (.slice (some ⟨g, 0, none⟩) n cap) n (ncs L')) (hg : w.grownBy w' (some g)) : Fr w' base F (.slice (some ⟨g, 0, none⟩) n cap) L' := by
  refine ⟨?_, by rw [hl]; exact ho, h.ge, h.ne⟩
  rw [hg.block F h.lt (fun e => h.ne (by rw [e]; rfl))]
  exact h.box
theorem kept_of_grown {F : Nat} {r : Option Nat} {w w' : World} (hg : w.grownBy w' r) : Kept F r w w' := ⟨hg.os, hg.tape, hg.output, hg.size, fun k hk _ h => hg.block k hk h⟩
theorem Kept.then {F : Nat} {r : Option Nat} {w w1 w2 : World} (h : Kept F r w w1) (h2 : Kept F r w1 w2) : Kept F r w w2 := h.trans (.inl rfl) h2

theorem Fr.own2 {w : World} {base F g cap n : Nat} {L : List Nd} (h : Fr w base F (.slice (some ⟨g, 0, none⟩) n cap) L) (hl : L.length = n) : w.ownsRow base 166 4 (.slice (some ⟨g, 0, none⟩) n cap) n (ncs L) := by
  have := h.own
  rw [hl] at this
  exact this
/-- the same front, its row in another order, a heap of n -/
def UpPost (base F n : Nat) (v : Value) (L : List Nd) (w : World) (r : Value) (e : Ending) (w' : World) : Prop :=
  (∃ u, e = .returned u ∧ (r = u ∨ r = undef)) ∧ ∃ L', Fr w' base F v L' ∧ Kept F v.ownBlock w w' ∧ L'.Perm L ∧ HeapN L' n ∧ ∀ k, n ≤ k → L'[k]! = L[k]!
set_option maxRecDepth 100000 in
set_option maxHeartbeats 1000000 in
theorem hUp_any (base F g cap n : Nat) (L : List Nd) (j : Nat) (w : World) (h : Fr w base F (.slice (some ⟨g, 0, none⟩) n cap) L) (hl : L.length = n) (hj : j < n) (hu : HUp L j) (hn : n ≤ 1001) :
    Calls Tryz.prog 164 #[.iface 184 (.pointer (some ⟨F, 0, none⟩)), .int .i64 j] w (UpPost base F n (.slice (some ⟨g, 0, none⟩) n cap) L w (.tuple #[])) := by
  have HL := Lib.hid hl
  have HH := Lib.hid h
  have HU := Lib.hid hu
  clear h hl hu
  go_enter Tryz.func164, Tryz.ntmps164
  go_wp2_with fail
  go_loopw [1] (fun s1 wr => ∃ (j : Nat) (L' : List Nd), s1 = .int .i64 j ∧ j < n ∧ Fr wr base F (.slice (some ⟨g, 0, none⟩) n cap) L' ∧ Kept F (some g) w wr ∧ L'.Perm L ∧ HUp L' j ∧ L'.length = n) (fun s1 _ => (RowKit.intOf s1).toNat)
  case atStart => exact ⟨j, L, rfl, hj, HH.out, Kept.refl _ _ _, List.Perm.refl _, HU.out, HL.out⟩
  case round =>
    clear HL HH HU hj
    obtain ⟨j, L', rfl, hj, hfr, hk, hp, hu, hl⟩ := hrel
    have HFR := Lib.hid hfr
    have HK := Lib.hid hk
    have HP := Lib.hid hp
    have HU := Lib.hid hu
    have HL := Lib.hid hl
    by_cases h0 : j = 0
    · subst h0
      clear hfr hk hp hu hl
      go_wp2
      go_end0
      exact ⟨⟨_, rfl, .inl rfl⟩, L', HFR.out, HK.out, HP.out, by have h1 := HU.out.done0; rw [HL.out] at h1; exact h1, fun k hk => by rw [getElem!_neg _ _ (by have := HL.out; omega), getElem!_neg _ _ (by have := HL.out; have := HP.out.length_eq; omega)]⟩
    · have hi : (j - 1) / 2 < n := by omega
      have e1 : ((j : Int) - 1) / 2 = (((j - 1) / 2 : Nat) : Int) := by omega
      have hne : ¬ ((((j - 1) / 2 : Nat) : Int) = (j : Int)) := by omega
      have m1 := fun k => mLess k wr F _ hfr.cell
      have hc := fLess_any base g cap n L' j ((j - 1) / 2) wr (hfr.own2 hl) hl hj hi
      have HI2 := Lib.hid (show ((j - 1) / 2 < j ∧ 0 < j) from by omega)
      clear hfr hk hp hu hl
      by_cases hgt : L'[(j - 1) / 2]!.op < L'[j]!.op
      · rw [decide_eq_true hgt] at hc
        have HST := Lib.hid (HU.out.step (by rw [HL.out]; exact hj) (by omega) rfl hgt)
        have HC := Lib.hid hc
        clear hc hgt
        generalize (j - 1) / 2 = i at *
        go_wp2_with (first
          | (go_at_call 218; refine HC.out.mono ?_; rintro x1 w1 ⟨rfl, hs1⟩; have HS1 := Lib.hid hs1; have m2 := fun k => mSwap k w1 F _ (HFR.out.same hs1).cell; clear hs1)
          | (go_at_call 219; refine (fSwap_any base g cap n L' i j w1 ((HFR.out.same HS1.out).own2 HL.out) HL.out hi hj).mono ?_; rintro x2 w2 ⟨rfl, ho2, hg2⟩; have HO2 := Lib.hid ho2; have HG2 := Lib.hid hg2; clear ho2 hg2))
        go_roundw
        case rel =>
          have hl2 : (swp L' i j).length = n := by rw [swp_length]; exact HL.out
          exact ⟨i, swp L' i j, rfl, hi, (HFR.out.same HS1.out).swap hl2 HO2.out HG2.out, (HK.out.then (HS1.out.kept _ _)).then (kept_of_grown HG2.out), (swp_perm L' i j (by rw [HL.out]; exact hi) (by rw [HL.out]; exact hj)).trans HP.out, HST.out, hl2⟩
        case measure => have := HI2.out; simp [RowKit.intOf]; omega
      · rw [decide_eq_false hgt] at hc
        have HD := Lib.hid (HU.out.done (by omega))
        have HC := Lib.hid hc
        clear hc hgt
        generalize (j - 1) / 2 = i at *
        go_wp2_with (first | (go_at_call 218; refine HC.out.mono ?_; rintro x1 w1 ⟨rfl, hs1⟩; have HS1 := Lib.hid hs1; clear hs1))
        go_end0
        exact ⟨⟨_, rfl, .inl rfl⟩, L', HFR.out.same HS1.out, HK.out.then (HS1.out.kept _ _), HP.out, by have h1 := HD.out; rw [HL.out] at h1; exact h1, fun k hk => by rw [getElem!_neg _ _ (by have := HL.out; omega), getElem!_neg _ _ (by have := HL.out; have := HP.out.length_eq; omega)]⟩
end Go.Proofs.YthnedehihbploaaGreatDoor
/- container/heap at the front: down -/
namespace Go.Proofs.YthnedehihbploaaGreatDoor
open Go.RowKit Go.Lib

theorem Same.trans {w w1 w2 : World} (h : Same w w1) (h2 : Same w1 w2) : Same w w2 := ⟨h2.os.trans h.os, h2.tape.trans h.tape, h2.output.trans h.output, h2.heap.trans h.heap⟩
set_option maxRecDepth 100000 in
set_option maxHeartbeats 4000000 in
theorem hDown_any (base F g cap m n : Nat) (L : List Nd) (w : World) (h : Fr w base F (.slice (some ⟨g, 0, none⟩) m cap) L) (hl : L.length = m) (hnm : n ≤ m) (hu : HDn L n 0) (hm : m ≤ 1001) :
    Calls Tryz.prog 165 #[.iface 184 (.pointer (some ⟨F, 0, none⟩)), .int .i64 0, .int .i64 n] w (UpPost base F n (.slice (some ⟨g, 0, none⟩) m cap) L w undef) := by
  have HL := Lib.hid hl
  have HH := Lib.hid h
  have HU := Lib.hid hu
  clear h hl hu
  go_enter Tryz.func165, Tryz.ntmps165
  go_wp2_with fail
  go_loopw [7] (fun s7 wr => ∃ (i : Nat) (L' : List Nd), s7 = .int .i64 i ∧ (i < n ∨ i = 0) ∧ Fr wr base F (.slice (some ⟨g, 0, none⟩) m cap) L' ∧ Kept F (some g) w wr ∧ L'.Perm L ∧ HDn L' n i ∧ L'.length = m ∧ ∀ k, n ≤ k → L'[k]! = L[k]!) (fun s7 _ => n - (RowKit.intOf s7).toNat)
  case atStart => exact ⟨0, L, rfl, .inr rfl, HH.out, Kept.refl _ _ _, List.Perm.refl _, HU.out, HL.out, fun _ _ => rfl⟩
  case round =>
    clear HL HH HU
    obtain ⟨i, L', rfl, hi, hfr, hk, hp, hu, hl, hq⟩ := hrel
    have HFR := Lib.hid hfr
    have HK := Lib.hid hk
    have HP := Lib.hid hp
    have HU := Lib.hid hu
    have HL := Lib.hid hl
    have HQ := Lib.hid hq
    clear hq
    have hi2 : i ≤ 1001 := by omega
    by_cases h1 : n ≤ 2 * i + 1
    · have HD := Lib.hid (HU.out.leaf h1)
      clear hfr hk hp hu hl
      go_wp2
      go_ret
      exact ⟨⟨_, rfl, .inr rfl⟩, L', HFR.out, HK.out, HP.out, HD.out, HQ.out⟩
    · have hb : (2 * (i : Int) + 1 < (n : Int)) := by omega
      have hb2 : ¬ ((2 * (i : Int) + 1) < 0) := by omega
      have m1 := fun k => mLess k wr F _ hfr.cell
      clear hfr hk hp hu hl
      by_cases h2 : n ≤ 2 * i + 2
      · have hb3 : ¬ (2 * (i : Int) + 1 + 1 < (n : Int)) := by omega
        have HJ := Lib.hid (show 2 * i + 1 < n ∧ 0 < 2 * i + 1 ∧ (2 * i + 1 - 1) / 2 = i ∧ i < 2 * i + 1 ∧ i < m ∧ 2 * i + 1 < m from by omega)
        have hji : ((2 * i + 1 : Nat) : Int) = 2 * (i : Int) + 1 := by omega
        have HMAX := Lib.hid (max_one (l := L') (n := n) h2)
        have hcl := fun wx hsx => fLess_any base g cap m L' (2 * i + 1) i wx ((HFR.out.same (w' := wx) hsx).own2 HL.out) HL.out (by omega) (by omega)
        by_cases hgt : L'[i]!.op < L'[2 * i + 1]!.op
        · rw [decide_eq_true hgt] at hcl
          have HST := Lib.hid (HU.out.step (by rw [HL.out]; exact hnm) HJ.out.1 HJ.out.2.1 HJ.out.2.2.1 hgt HMAX.out)
          have hcs := fun wx hsx => fSwap_any base g cap m L' i (2 * i + 1) wx ((HFR.out.same (w' := wx) hsx).own2 HL.out) HL.out (by omega) (by omega)
          rw [hji] at hcl hcs
          have HCL := Lib.hid hcl
          have HCS := Lib.hid hcs
          clear hcl hcs hgt
          go_wp2_with (first
            | (go_at_call_has 218 (Value.int IntKind.i64 (i : Int)); refine (HCL.out wr (Same.refl wr)).mono ?_; rintro x2 w2 ⟨rfl, hs2⟩; have HS2 := Lib.hid (Same.trans (Same.refl wr) hs2); have m2 := fun k => mSwap k w2 F _ (HFR.out.same HS2.out).cell; clear hs2)
            | (go_at_call 219; refine (HCS.out w2 HS2.out).mono ?_; rintro x3 w3 ⟨rfl, ho3, hg3⟩; have HO3 := Lib.hid ho3; have HG3 := Lib.hid hg3; clear ho3 hg3))
          go_roundw
          case rel =>
            have hl2 : (swp L' i (2 * i + 1)).length = m := by rw [swp_length]; exact HL.out
            exact ⟨2 * i + 1, swp L' i (2 * i + 1), by rw [hji], .inl HJ.out.1, (HFR.out.same HS2.out).swap hl2 HO3.out HG3.out, (HK.out.then (HS2.out.kept _ _)).then (kept_of_grown HG3.out), (swp_perm L' i (2 * i + 1) (by rw [HL.out]; exact HJ.out.2.2.2.2.1) (by rw [HL.out]; exact HJ.out.2.2.2.2.2)).trans HP.out, HST.out, hl2, fun k hk => by rw [swp_get L' i (2 * i + 1) k (by rw [HL.out]; exact HJ.out.2.2.2.2.1) (by rw [HL.out]; exact HJ.out.2.2.2.2.2), if_neg (by have := HJ.out.1; omega), if_neg (by have := HJ.out.1; have := HJ.out.2.2.2.1; omega)]; exact HQ.out k hk⟩
          case measure => have := HJ.out; simp [RowKit.intOf]; omega
        · rw [decide_eq_false hgt] at hcl
          have HD := Lib.hid (HU.out.done (Int.not_lt.1 hgt) HMAX.out)
          rw [hji] at hcl
          have HCL := Lib.hid hcl
          clear hcl hgt
          go_wp2_with (first
            | (go_at_call_has 218 (Value.int IntKind.i64 (i : Int)); refine (HCL.out wr (Same.refl wr)).mono ?_; rintro x2 w2 ⟨rfl, hs2⟩; have HS2 := Lib.hid (Same.trans (Same.refl wr) hs2); clear hs2)
            | fail)
          go_ret
          exact ⟨⟨_, rfl, .inr rfl⟩, L', HFR.out.same HS2.out, HK.out.then (HS2.out.kept _ _), HP.out, HD.out, HQ.out⟩
      · have hb3 : (2 * (i : Int) + 1 + 1 < (n : Int)) := by omega
        have hc0 := fLess_any base g cap m L' (2 * i + 2) (2 * i + 1) wr (HFR.out.own2 HL.out) HL.out (by omega) (by omega)
        rw [show ((2 * i + 2 : Nat) : Int) = 2 * (i : Int) + 1 + 1 from by omega, show ((2 * i + 1 : Nat) : Int) = 2 * (i : Int) + 1 from by omega] at hc0
        by_cases h3 : L'[2 * i + 1]!.op < L'[2 * i + 2]!.op
        · rw [decide_eq_true h3] at hc0
          have HC0 := Lib.hid hc0
          have HB3 := Lib.hid h3
          clear hc0 h3
          have HJ := Lib.hid (show 2 * i + 2 < n ∧ 0 < 2 * i + 2 ∧ (2 * i + 2 - 1) / 2 = i ∧ i < 2 * i + 2 ∧ i < m ∧ 2 * i + 2 < m from by omega)
          have hji : ((2 * i + 2 : Nat) : Int) = 2 * (i : Int) + 1 + 1 := by omega
          have HMAX := Lib.hid (max_right (n := n) HB3.out)
          have hcl := fun wx hsx => fLess_any base g cap m L' (2 * i + 2) i wx ((HFR.out.same (w' := wx) hsx).own2 HL.out) HL.out (by omega) (by omega)
          by_cases hgt : L'[i]!.op < L'[2 * i + 2]!.op
          · rw [decide_eq_true hgt] at hcl
            have HST := Lib.hid (HU.out.step (by rw [HL.out]; exact hnm) HJ.out.1 HJ.out.2.1 HJ.out.2.2.1 hgt HMAX.out)
            have hcs := fun wx hsx => fSwap_any base g cap m L' i (2 * i + 2) wx ((HFR.out.same (w' := wx) hsx).own2 HL.out) HL.out (by omega) (by omega)
            rw [hji] at hcl hcs
            have HCL := Lib.hid hcl
            have HCS := Lib.hid hcs
            clear hcl hcs hgt
            go_wp2_with (first
              | (go_at_call_has 218 (Value.int IntKind.i64 (i : Int)); refine (HCL.out w1 HS1.out).mono ?_; rintro x2 w2 ⟨rfl, hs2⟩; have HS2 := Lib.hid (Same.trans HS1.out hs2); have m2 := fun k => mSwap k w2 F _ (HFR.out.same HS2.out).cell; clear hs2)
              | (go_at_call 218; refine HC0.out.mono ?_; rintro x1 w1 ⟨rfl, hs1⟩; have HS1 := Lib.hid hs1; have m3 := fun k => mLess k w1 F _ (HFR.out.same HS1.out).cell; clear hs1)
              | (go_at_call 219; refine (HCS.out w2 HS2.out).mono ?_; rintro x3 w3 ⟨rfl, ho3, hg3⟩; have HO3 := Lib.hid ho3; have HG3 := Lib.hid hg3; clear ho3 hg3))
            go_roundw
            case rel =>
              have hl2 : (swp L' i (2 * i + 2)).length = m := by rw [swp_length]; exact HL.out
              exact ⟨2 * i + 2, swp L' i (2 * i + 2), by rw [hji], .inl HJ.out.1, (HFR.out.same HS2.out).swap hl2 HO3.out HG3.out, (HK.out.then (HS2.out.kept _ _)).then (kept_of_grown HG3.out), (swp_perm L' i (2 * i + 2) (by rw [HL.out]; exact HJ.out.2.2.2.2.1) (by rw [HL.out]; exact HJ.out.2.2.2.2.2)).trans HP.out, HST.out, hl2, fun k hk => by rw [swp_get L' i (2 * i + 2) k (by rw [HL.out]; exact HJ.out.2.2.2.2.1) (by rw [HL.out]; exact HJ.out.2.2.2.2.2), if_neg (by have := HJ.out.1; omega), if_neg (by have := HJ.out.1; have := HJ.out.2.2.2.1; omega)]; exact HQ.out k hk⟩
            case measure => have := HJ.out; simp [RowKit.intOf]; omega
          · rw [decide_eq_false hgt] at hcl
            have HD := Lib.hid (HU.out.done (Int.not_lt.1 hgt) HMAX.out)
            rw [hji] at hcl
            have HCL := Lib.hid hcl
            clear hcl hgt
            go_wp2_with (first
              | (go_at_call_has 218 (Value.int IntKind.i64 (i : Int)); refine (HCL.out w1 HS1.out).mono ?_; rintro x2 w2 ⟨rfl, hs2⟩; have HS2 := Lib.hid (Same.trans HS1.out hs2); clear hs2)
              | (go_at_call 218; refine HC0.out.mono ?_; rintro x1 w1 ⟨rfl, hs1⟩; have HS1 := Lib.hid hs1; have m3 := fun k => mLess k w1 F _ (HFR.out.same HS1.out).cell; clear hs1)
              | fail)
            go_ret
            exact ⟨⟨_, rfl, .inr rfl⟩, L', HFR.out.same HS2.out, HK.out.then (HS2.out.kept _ _), HP.out, HD.out, HQ.out⟩
        · rw [decide_eq_false h3] at hc0
          have HC0 := Lib.hid hc0
          have HB3 := Lib.hid (Int.not_lt.1 h3)
          clear hc0 h3
          have HJ := Lib.hid (show 2 * i + 1 < n ∧ 0 < 2 * i + 1 ∧ (2 * i + 1 - 1) / 2 = i ∧ i < 2 * i + 1 ∧ i < m ∧ 2 * i + 1 < m from by omega)
          have hji : ((2 * i + 1 : Nat) : Int) = 2 * (i : Int) + 1 := by omega
          have HMAX := Lib.hid (max_left (n := n) HB3.out)
          have hcl := fun wx hsx => fLess_any base g cap m L' (2 * i + 1) i wx ((HFR.out.same (w' := wx) hsx).own2 HL.out) HL.out (by omega) (by omega)
          by_cases hgt : L'[i]!.op < L'[2 * i + 1]!.op
          · rw [decide_eq_true hgt] at hcl
            have HST := Lib.hid (HU.out.step (by rw [HL.out]; exact hnm) HJ.out.1 HJ.out.2.1 HJ.out.2.2.1 hgt HMAX.out)
            have hcs := fun wx hsx => fSwap_any base g cap m L' i (2 * i + 1) wx ((HFR.out.same (w' := wx) hsx).own2 HL.out) HL.out (by omega) (by omega)
            rw [hji] at hcl hcs
            have HCL := Lib.hid hcl
            have HCS := Lib.hid hcs
            clear hcl hcs hgt
            go_wp2_with (first
              | (go_at_call_has 218 (Value.int IntKind.i64 (i : Int)); refine (HCL.out w1 HS1.out).mono ?_; rintro x2 w2 ⟨rfl, hs2⟩; have HS2 := Lib.hid (Same.trans HS1.out hs2); have m2 := fun k => mSwap k w2 F _ (HFR.out.same HS2.out).cell; clear hs2)
              | (go_at_call 218; refine HC0.out.mono ?_; rintro x1 w1 ⟨rfl, hs1⟩; have HS1 := Lib.hid hs1; have m3 := fun k => mLess k w1 F _ (HFR.out.same HS1.out).cell; clear hs1)
              | (go_at_call 219; refine (HCS.out w2 HS2.out).mono ?_; rintro x3 w3 ⟨rfl, ho3, hg3⟩; have HO3 := Lib.hid ho3; have HG3 := Lib.hid hg3; clear ho3 hg3))
            go_roundw
            case rel =>
              have hl2 : (swp L' i (2 * i + 1)).length = m := by rw [swp_length]; exact HL.out
              exact ⟨2 * i + 1, swp L' i (2 * i + 1), by rw [hji], .inl HJ.out.1, (HFR.out.same HS2.out).swap hl2 HO3.out HG3.out, (HK.out.then (HS2.out.kept _ _)).then (kept_of_grown HG3.out), (swp_perm L' i (2 * i + 1) (by rw [HL.out]; exact HJ.out.2.2.2.2.1) (by rw [HL.out]; exact HJ.out.2.2.2.2.2)).trans HP.out, HST.out, hl2, fun k hk => by rw [swp_get L' i (2 * i + 1) k (by rw [HL.out]; exact HJ.out.2.2.2.2.1) (by rw [HL.out]; exact HJ.out.2.2.2.2.2), if_neg (by have := HJ.out.1; omega), if_neg (by have := HJ.out.1; have := HJ.out.2.2.2.1; omega)]; exact HQ.out k hk⟩
            case measure => have := HJ.out; simp [RowKit.intOf]; omega
          · rw [decide_eq_false hgt] at hcl
            have HD := Lib.hid (HU.out.done (Int.not_lt.1 hgt) HMAX.out)
            rw [hji] at hcl
            have HCL := Lib.hid hcl
            clear hcl hgt
            go_wp2_with (first
              | (go_at_call_has 218 (Value.int IntKind.i64 (i : Int)); refine (HCL.out w1 HS1.out).mono ?_; rintro x2 w2 ⟨rfl, hs2⟩; have HS2 := Lib.hid (Same.trans HS1.out hs2); clear hs2)
              | (go_at_call 218; refine HC0.out.mono ?_; rintro x1 w1 ⟨rfl, hs1⟩; have HS1 := Lib.hid hs1; have m3 := fun k => mLess k w1 F _ (HFR.out.same HS1.out).cell; clear hs1)
              | fail)
            go_ret
            exact ⟨⟨_, rfl, .inr rfl⟩, L', HFR.out.same HS2.out, HK.out.then (HS2.out.kept _ _), HP.out, HD.out, HQ.out⟩
end Go.Proofs.YthnedehihbploaaGreatDoor
/- the front: Push, Pop -/
namespace Go.Proofs.YthnedehihbploaaGreatDoor
open Go.RowKit Go.Lib

theorem Tryz.infoNode : (Tryz.prog.info? 166).map (fun i => (i.zero, i.size, i.bytes)) = some (some (.agg #[.int .i64 0, .int .i64 0, .int .i64 0, .int .i64 0]), 4, 32) := by kernel_rfl
theorem cs_oneN (n : Nd) : ∀ u ∈ Nd.cs n, u.oneCell' = true := ints_oneCell .i64 [n.e.s, n.e.q, n.e.i, n.op]
theorem cell_four_new (w : World) (n : Nd) (t : TypeId) : ∀ j u, (Nd.cs n)[j]? = some u → (w.alloc (.cells #[.int .i64 n.e.s, .int .i64 n.e.q, .int .i64 n.e.i, .int .i64 n.op] t)).cell? ((⟨w.heap.size, 0, none⟩ : Addr).add j) = some u := by
  intro j u hu
  rw [Addr.add_lit, Nat.zero_add, World.cell?_alloc_new]
  rw [← hu]
  show (#[Value.int .i64 n.e.s, .int .i64 n.e.q, .int .i64 n.e.i, .int .i64 n.op] : Array Value)[j]? = [Value.int .i64 n.e.s, .int .i64 n.e.q, .int .i64 n.e.i, .int .i64 n.op][j]?
  simp

def PushPost (base F : Nat) (v : Value) (L : List Nd) (w : World) (e : Ending) (w' : World) : Prop := e = .returned (.tuple #[]) ∧ FrTo base F w v L w'

theorem kept_alloc {F : Nat} {r : Option Nat} {w w1 : World} (h : Kept F r w w1) (o : Obj) : Kept F r w (w1.alloc o) :=
  ⟨h.os, h.tape, h.output, by rw [World.size_alloc]; have := h.size; omega, fun k hk h1 h2 => by
    rw [← h.block k hk h1 h2]
    exact heap_alloc_old w1 o (Nat.lt_of_lt_of_le hk h.size)⟩
theorem kept_grown {F : Nat} {r r1 : Option Nat} {w w1 w2 : World} (h : Kept F r w w1) (hr : NewRow w r r1) (hg : w1.grownBy w2 r1) : Kept F r w w2 :=
  h.trans hr ⟨hg.os, hg.tape, hg.output, hg.size, fun k hk _ h2 => hg.block k hk h2⟩
theorem box_set {w : World} {F : Nat} {v u : Value} {t : TypeId} (h : w.heap[F]? = some (.cells #[v] t (0, 0))) : (w.setCell ⟨F, 0, none⟩ u).heap[F]? = some (.cells #[u] t (0, 0)) := by
  unfold World.setCell
  simp [Array.getElem?_modify, h]
theorem set_other {w : World} {F k : Nat} {o : Nat} {u : Value} (h : k ≠ F) : (w.setCell ⟨F, o, none⟩ u).heap[k]? = w.heap[k]? := by
  unfold World.setCell
  simp [Array.getElem?_modify, Ne.symm h]
theorem kept_set {F : Nat} {r : Option Nat} {w w1 : World} (h : Kept F r w w1) (u : Value) : Kept F r w (w1.setCell ⟨F, 0, none⟩ u) :=
  ⟨h.os, h.tape, h.output, by rw [World.size_setCell]; exact h.size, fun k hk h1 h2 => by
    rw [set_other h1]
    exact h.block k hk h1 h2⟩
theorem owns_set {w : World} {base F : Nat} {e : TypeId} {size : Nat} {v : Value} {n : Nat} {xs : List Value} (h : w.ownsRow base e size v n xs) (hne : v.ownBlock ≠ some F) (u : Value) : (w.setCell ⟨F, 0, none⟩ u).ownsRow base e size v n xs := by
  refine ⟨h.1, ?_⟩
  rcases h.2 with h2 | ⟨g, cap, cur, hv, hg, hh, r⟩
  · exact .inl h2
  · refine .inr ⟨g, cap, cur, hv, hg, ?_, r⟩
    rw [set_other (by intro e; subst hv; exact hne (by simp [Value.ownBlock, e]))]
    exact hh
theorem push_fin {w w2 w3 : World} {base F : Nat} {v : Value} {L : List Nd} {n : Nd} {g cap : Nat} (h : Fr w base F v L) (hk : Kept F v.ownBlock w w2) (ho : w3.ownsRow base 166 4 (.slice (some ⟨g, 0, none⟩) (L.length + 1) cap) (L.length + 1) (ncs L ++ Nd.cs n))
    (hg : w2.grownBy w3 v.ownBlock) (hat : v.ownBlock = some g ∨ g = w2.heap.size) (hF : w2.heap[F]? = w.heap[F]?) : FrTo base F w v (L ++ [n]) (w3.setCell ⟨F, 0, none⟩ (.slice (some ⟨g, 0, none⟩) (L.length + 1) cap)) := by
  have hlt := h.lt
  have hsz := hk.size
  have hgF : g ≠ F := by
    rcases hat with e | e
    · intro e2; exact h.ne (by rw [e, e2])
    · omega
  refine ⟨.slice (some ⟨g, 0, none⟩) (L.length + 1) cap, ⟨box_set (v := v) ?_, ?_, h.ge, by simp [Value.ownBlock, hgF]⟩, kept_set (kept_grown hk (.inl rfl) hg) _, ?_⟩
  · rw [hg.block F (by omega) (fun e => h.ne e.symm), hF]
    exact h.box
  · have := owns_set (F := F) ho (by simp [Value.ownBlock, hgF]) (.slice (some ⟨g, 0, none⟩) (L.length + 1) cap)
    rw [List.length_append, List.length_singleton, ncs_append]
    have e : ncs [n] = Nd.cs n := by simp [ncs]
    rw [e]
    exact this
  · rcases hat with e | e
    · exact .inl (by rw [e]; rfl)
    · exact .inr ⟨g, rfl, by omega⟩
theorem push_fin2 {w wu w3 : World} {base F : Nat} {a : Option Addr} {cap : Nat} {L : List Nd} {es eq ei op : Int} {g cap8 : Nat} {o : Obj} (h : Fr w base F (.slice a L.length cap) L) (hk : Kept F (Value.slice a L.length cap).ownBlock w wu) (hu : Fr wu base F (.slice a L.length cap) L) (hb : wu.heap[F]? = w.heap[F]?) (ho : w3.ownsRow base 166 4 (.slice (some ⟨g, 0, none⟩) (L.length + 1) cap8) (L.length + 1) (ncs L ++ Nd.cs ⟨⟨es, eq, ei⟩, op⟩))
    (hg : (wu.alloc o).drew.grownBy w3 (Value.slice a L.length cap).ownBlock) (hat : (Value.slice a L.length cap).ownBlock = some g ∨ g = (wu.alloc o).drew.heap.size) : FrTo base F w (.slice a L.length cap) (L ++ [⟨⟨es, eq, ei⟩, op⟩]) (w3.setCell ⟨F, 0, none⟩ (.slice (some ⟨g, 0, none⟩) (L.length + 1) cap8)) := by
  have hk2 := kept_alloc hk o
  have hd : (wu.alloc o).grownBy w3 (Value.slice a L.length cap).ownBlock := ⟨hg.os, hg.tape, hg.output, hg.size, hg.block⟩
  exact push_fin h hk2 ho hd hat ((heap_alloc_old wu o hu.lt).trans hb)
theorem push_box {wu w3 : World} {base F : Nat} {v : Value} {L : List Nd} {o : Obj} (hu : Fr wu base F v L) (hg : (wu.alloc o).drew.grownBy w3 v.ownBlock) : w3.cell? ⟨F, 0, none⟩ = some v ∧ w3.frozen? ⟨F, 0, none⟩ = false := by
  have h := hg.block F (by have := hu.lt; show F < (wu.alloc o).heap.size; simp; omega) (fun e => hu.ne e.symm)
  have h2 : w3.heap[F]? = some (.cells #[v] 160 (0, 0)) := h.trans ((heap_alloc_old wu o hu.lt).trans hu.box)
  constructor
  · simp [World.cell?, h2]
  · simp [World.frozen?, h2]
@[go_sem] theorem asNode (v : Value) (w : World) : (Instr.typeAssert (.iface 166 v) 20 166 true).run Tryz.prog w = .ok (.tuple #[v, .bool true]) w := by kernel_rfl
theorem front_frozen {w : World} {base F : Nat} {v : Value} {L : List Nd} (h : Fr w base F v L) : w.frozen? ⟨F, 0, none⟩ = false := by
  simp [World.frozen?, h.box]
theorem owns_drew {w : World} {base : Nat} {e : TypeId} {size : Nat} {v : Value} {n : Nat} {xs : List Value} (h : w.ownsRow base e size v n xs) : w.drew.ownsRow base e size v n xs := h
theorem cell_four_drew (w : World) (n : Nd) (t : TypeId) : ∀ j u, (Nd.cs n)[j]? = some u → (w.alloc (.cells #[.int .i64 n.e.s, .int .i64 n.e.q, .int .i64 n.e.i, .int .i64 n.op] t)).drew.cell? ((⟨w.heap.size, 0, none⟩ : Addr).add j) = some u := cell_four_new w n t
theorem Fr.alloc {w : World} {base F : Nat} {v : Value} {L : List Nd} (h : Fr w base F v L) (o : Obj) : Fr (w.alloc o) base F v L :=
  ⟨by rw [heap_alloc_old w o h.lt]; exact h.box, h.own.alloc o, h.ge, h.ne⟩
set_option maxRecDepth 100000 in
set_option maxHeartbeats 1000000 in
theorem fPush_any (base F : Nat) (v : Value) (L : List Nd) (n : Nd) (w : World) (h : Fr w base F v L) (hl : L.length ≤ 1000) :
    Calls Tryz.prog 222 #[.pointer (some ⟨F, 0, none⟩), .iface 166 n.v] w (PushPost base F v (L ++ [n]) w) := by
  obtain ⟨i0, hi0, hz0, hz1, hz2⟩ := info_parts Tryz.infoNode
  obtain ⟨a, cap, hv, hcap, hm, hsome⟩ := h.form
  have c0 := h.cell
  have hlt := h.lt
  have hge := h.ge
  have z0 := front_frozen h
  have HM1 := Lib.hid (show L.length + 1 ≤ maxLen from by simp only [maxLen]; omega)
  have HM2 := Lib.hid (show (L.length + 1) * 32 ≤ 140737488355328 from by omega)
  have HF := Lib.hid h
  have HO := Lib.hid h.own
  have HNE := Lib.hid h.ne
  clear h hsome hl hm
  subst hv
  obtain ⟨⟨es, eq, ei⟩, op⟩ := n
  unfold Nd.v
  simp only
  go_enter Tryz.func222, Tryz.ntmps222
  go_wp2_with fail
  have hK := kept_alloc (Kept.refl F (Value.slice a L.length cap).ownBlock w) (.cells #[.int .i64 es, .int .i64 eq, .int .i64 ei, .int .i64 op] 166)
  obtain ⟨d0, d1, d2, d3⟩ : (w.alloc (.cells #[.int .i64 es, .int .i64 eq, .int .i64 ei, .int .i64 op] 166)).cell? ⟨w.heap.size, 0, none⟩ = some (.int .i64 es) ∧ (w.alloc (.cells #[.int .i64 es, .int .i64 eq, .int .i64 ei, .int .i64 op] 166)).cell? ⟨w.heap.size, 1, none⟩ = some (.int .i64 eq) ∧ (w.alloc (.cells #[.int .i64 es, .int .i64 eq, .int .i64 ei, .int .i64 op] 166)).cell? ⟨w.heap.size, 2, none⟩ = some (.int .i64 ei) ∧ (w.alloc (.cells #[.int .i64 es, .int .i64 eq, .int .i64 ei, .int .i64 op] 166)).cell? ⟨w.heap.size, 3, none⟩ = some (.int .i64 op) := by
    refine ⟨?_, ?_, ?_, ?_⟩ <;> (rw [World.cell?_alloc_new]; rfl)
  have HFu : RowKit.Hid (Fr (w.alloc (.cells #[.int .i64 es, .int .i64 eq, .int .i64 ei, .int .i64 op] 166)) base F (.slice a L.length cap) L) := Lib.hid (HF.out.alloc _)
  have HBX : RowKit.Hid ((w.alloc (.cells #[.int .i64 es, .int .i64 eq, .int .i64 ei, .int .i64 op] 166)).heap[F]? = w.heap[F]?) := Lib.hid (heap_alloc_old w _ hlt)
  have hsz : w.heap.size < (w.alloc (.cells #[.int .i64 es, .int .i64 eq, .int .i64 ei, .int .i64 op] 166)).heap.size := by simp
  have HK := Lib.hid hK
  clear hK c0 z0 HO
  generalize (w.alloc (.cells #[.int .i64 es, .int .i64 eq, .int .i64 ei, .int .i64 op] 166)) = wu at *
  have HNS := Lib.hid (show base ≤ w.heap.size from by omega)
  generalize hnb : w.heap.size = nb at *
  have c0 := HFu.out.cell
  have z0 := front_frozen HFu.out
  have HO := Lib.hid HFu.out.own
  have hlt2 : F < wu.heap.size := HFu.out.lt
  clear hlt hnb
  go_region_law (first
    | (refine step_append_lies _ (by rfl) _ _ _ (by rfl) base 166 i0 (.agg #[.int .i64 0, .int .i64 0, .int .i64 0, .int .i64 0]) 4 32 Tryz.underlying160 hi0 hz0 hz1 hz2 (by rfl) (by decide) (.slice a L.length cap) L.length (ncs L) (by rfl) (owns_drew (HO.out.alloc _)) ⟨wu.heap.size, 0, none⟩ 1 1 (Nd.cs ⟨⟨es, eq, ei⟩, op⟩) (by rfl) (by rfl) (cell_four_drew _ ⟨⟨es, eq, ei⟩, op⟩ _) (cs_oneN ⟨⟨es, eq, ei⟩, op⟩) (by omega) HM1.out HM2.out (by have := HNS.out; simp; omega) _ rfl ?_; intro g8 cap8 w8 hown8 hgrow8 hat8 hlt8; have HFIN := push_fin2 HF.out HK.out HFu.out HBX.out hown8 hgrow8 hat8; obtain ⟨c8, z8⟩ := push_box HFu.out hgrow8))
  all_goals
    go_end0
    exact ⟨rfl, HFIN⟩

theorem owns_cutN {w : World} {base g n cap k : Nat} {t : TypeId} {xs : List Value} (h : w.ownsRow base t 4 (.slice (some ⟨g, 0, none⟩) n cap) n xs) (hk : k ≤ n) : w.ownsRow base t 4 (.slice (some ⟨g, 0, none⟩) k cap) k (xs.take (k * 4)) := by
  have hl := h.1
  rcases h.2 with ⟨h', _⟩ | ⟨g', cap', cur, h', hb, hg, hnc, hcm, hcs, ht⟩
  · simp at h'
  · simp only [Value.slice.injEq, Option.some.injEq, Addr.mk.injEq, and_true, true_and] at h'
    obtain ⟨rfl, rfl⟩ := h'
    refine ⟨by rw [List.length_take]; omega, .inr ⟨g, cap, cur, rfl, hb, hg, by omega, hcm, hcs, ?_⟩⟩
    rw [← ht, List.take_take, Nat.min_eq_left (by omega)]
/-- what is handed back, boxed -/
def PopPost (base F : Nat) (v : Value) (x : Nd) (L : List Nd) (w : World) (e : Ending) (w' : World) : Prop := e = .returned (.iface 166 x.v) ∧ FrTo base F w v L w'
theorem pop_fin {w : World} {base F g cap m : Nat} {L : List Nd} (h : Fr w base F (.slice (some ⟨g, 0, none⟩) (m + 1) cap) L) (hl : L.length = m + 1) (o : Obj) : FrTo base F w (.slice (some ⟨g, 0, none⟩) (m + 1) cap) (L.take m) ((w.setCell ⟨F, 0, none⟩ (.slice (some ⟨g, 0, none⟩) m cap)).alloc o) := by
  have hne : g ≠ F := fun e => h.ne (by rw [e]; rfl)
  have ho := h.own
  rw [hl] at ho
  have hc := owns_cutN ho (k := m) (by omega)
  rw [ncs_take] at hc
  have hlm : (L.take m).length = m := by rw [List.length_take]; omega
  have hfr : Fr (w.setCell ⟨F, 0, none⟩ (.slice (some ⟨g, 0, none⟩) m cap)) base F (.slice (some ⟨g, 0, none⟩) m cap) (L.take m) := by
    refine ⟨box_set h.box, ?_, h.ge, by simp [Value.ownBlock, hne]⟩
    rw [hlm]
    exact owns_set hc (by simp [Value.ownBlock, hne]) _
  exact ⟨_, hfr.alloc o, kept_alloc (kept_set (Kept.refl _ _ _) _) o, .inl rfl⟩
set_option maxRecDepth 100000 in
set_option maxHeartbeats 1000000 in
theorem fPop_any (base F : Nat) (v : Value) (L : List Nd) (m : Nat) (w : World) (h : Fr w base F v L) (hl : L.length = m + 1) :
    Calls Tryz.prog 221 #[.pointer (some ⟨F, 0, none⟩)] w (PopPost base F v L[m]! (L.take m) w) := by
  obtain ⟨a, cap, hv, hcap, hm, hsome⟩ := h.form
  obtain ⟨g, rfl⟩ := hsome (by omega)
  subst hv
  have hl2 := hl
  rw [hl] at h hcap ⊢
  have c0 := h.cell
  have hlt := h.lt
  have z0 := front_frozen h
  have ho := h.own
  rw [hl] at ho
  obtain ⟨x0, x1, x2, x3⟩ := row_nd ho hl m (by omega)
  have hgl := (ho.lt g rfl).2
  have HF := Lib.hid (pop_fin h hl)
  have hm63 : (m : Int) + 1 ≤ 9223372036854775807 := by simp only [maxLen] at hm; omega
  have hw1 : wrap64 ((m : Int) + 1 - 1) = (m : Int) := by rw [IntWalk.wrap64_in _ ⟨by omega, by omega⟩]; omega
  clear h ho hm hl hl2 hsome
  generalize L[m]! = x at *
  obtain ⟨⟨es, eq, ei⟩, op⟩ := x
  simp only at x0 x1 x2 x3
  unfold PopPost Nd.v
  simp only
  go_enter Tryz.func221, Tryz.ntmps221
  go_wp2
  go_ret
  exact ⟨rfl, HF.out _⟩
end Go.Proofs.YthnedehihbploaaGreatDoor
/- container/heap at the front: Push, Pop; hold, first -/
namespace Go.Proofs.YthnedehihbploaaGreatDoor
open Go.RowKit Go.Lib

def HPushPost (base F : Nat) (v : Value) (L : List Nd) (w : World) (e : Ending) (w' : World) : Prop :=
  e = .returned (.tuple #[]) ∧ ∃ L', FrTo base F w v L' w' ∧ L'.Perm L ∧ HeapN L' L'.length
set_option maxRecDepth 100000 in
set_option maxHeartbeats 1000000 in
theorem hPush_any (base F : Nat) (v : Value) (L : List Nd) (n : Nd) (w : World) (h : Fr w base F v L) (hh : HeapN L L.length) (hl : L.length ≤ 1000) :
    Calls Tryz.prog 134 #[.iface 184 (.pointer (some ⟨F, 0, none⟩)), .iface 166 n.v] w (HPushPost base F v (L ++ [n]) w) := by
  have m1 := fun k => mPush k w F
  have HC := Lib.hid (fPush_any base F v L n w h hl)
  have HU := Lib.hid (HUp.start hh n)
  have HL := Lib.hid (show (L ++ [n]).length = L.length + 1 from by simp)
  clear h hh
  generalize n.v = nv at *
  generalize hL1 : L ++ [n] = L1 at *
  generalize hk : L.length = k at *
  clear hL1 hk
  go_enter Tryz.func134, Tryz.ntmps134
  go_wp2_with (first
    | (go_at_call 222; refine HC.out.mono ?_; rintro x1 w1 ⟨rfl, v1, hfr1, hk1, hn1⟩; obtain ⟨a1, cap1, rfl, hc1, _, hs1⟩ := hfr1.form; obtain ⟨g1, rfl⟩ := hs1 (by rw [HL.out]; omega); rw [HL.out] at hfr1 hn1; have HF1 := Lib.hid hfr1; have HK1 := Lib.hid hk1; have HN1 := Lib.hid hn1; have m2 := fun j => mLen j w1 F _ hfr1.cell; clear hfr1 hk1 hn1 hc1 hs1)
    | (go_at_call 117; refine (fLen_any _ (k + 1) cap1 w1).mono ?_; rintro x2 w2 ⟨rfl, hs2⟩; have HS2 := Lib.hid hs2; clear hs2)
    | (go_at_call 164; refine (hUp_any base F g1 cap1 (k + 1) L1 k w2 (HF1.out.same HS2.out) HL.out (by omega) HU.out (by omega)).mono ?_; rintro x3 w3 ⟨⟨u3, rfl, hu3⟩, L3, hfr3, hk3, hp3, hh3, _⟩; have HF3 := Lib.hid hfr3; have HK3 := Lib.hid hk3; have HP3 := Lib.hid hp3; have HH3 := Lib.hid hh3; clear hfr3 hk3 hp3 hh3))
  go_end0
  refine ⟨rfl, L3, ⟨_, HF3.out, (HK1.out.trans HN1.out ((HS2.out.kept _ _).then HK3.out)), HN1.out⟩, HP3.out, ?_⟩
  rw [HP3.out.length_eq, HL.out]
  exact HH3.out

theorem fPop_x (base F : Nat) (v : Value) (L : List Nd) (m : Nat) (x : Nd) (w : World) (h : Fr w base F v L) (hl : L.length = m + 1) (hx : L[m]! = x) :
    Calls Tryz.prog 221 #[.pointer (some ⟨F, 0, none⟩)] w (PopPost base F v x (L.take m) w) := by
  rw [← hx]
  exact fPop_any base F v L m w h hl
def HPopPost (base F : Nat) (v : Value) (L : List Nd) (w : World) (e : Ending) (w' : World) : Prop :=
  ∃ x L', e = .returned (.iface 166 (Nd.v x)) ∧ FrTo base F w v L' w' ∧ (x :: L').Perm L ∧ (∀ y ∈ L', y.op ≤ x.op) ∧ HeapN L' L'.length
set_option maxRecDepth 100000 in
set_option maxHeartbeats 1000000 in
theorem hPop_any (base F : Nat) (v : Value) (L : List Nd) (w : World) (h : Fr w base F v L) (hh : HeapN L L.length) (h0 : 0 < L.length) (hl : L.length ≤ 1000) :
    Calls Tryz.prog 135 #[.iface 184 (.pointer (some ⟨F, 0, none⟩))] w (HPopPost base F v L w) := by
  obtain ⟨a, cap, rfl, hc, _, hs⟩ := h.form
  obtain ⟨g, rfl⟩ := hs h0
  obtain ⟨n, hn⟩ : ∃ n, L.length = n + 1 := ⟨L.length - 1, by omega⟩
  rw [hn] at h
  have HN := Lib.hid hn
  have HF := Lib.hid h
  have HH := Lib.hid hh
  have m1 := fun k => mLen k w F _ h.cell
  have hn2 : n ≤ 1000 := by omega
  rw [hn]
  clear h hh hs hc h0 hl hn
  go_enter Tryz.func135, Tryz.ntmps135
  go_wp2_with (first
    | (go_at_call 117; refine (fLen_any _ (n + 1) cap w).mono ?_; rintro x1 w1 ⟨rfl, hs1⟩; have HS1 := Lib.hid hs1; have m2 := fun k => mSwap k w1 F _ (HF.out.same hs1).cell; clear hs1)
    | (go_at_call 219; refine (fSwap_any base g cap (n + 1) L 0 n w1 ((HF.out.same HS1.out).own2 HN.out) HN.out (by omega) (by omega)).mono ?_; rintro x2 w2 ⟨rfl, ho2, hg2⟩; have HF2 := Lib.hid ((HF.out.same HS1.out).swap (L' := swp L 0 n) (by rw [swp_length]; exact HN.out) ho2 hg2); have HK2 := Lib.hid ((HS1.out.kept F (some g)).then (kept_of_grown hg2)); clear ho2 hg2)
    | (go_at_call 165; refine (hDown_any base F g cap (n + 1) n (swp L 0 n) w2 HF2.out (by rw [swp_length]; exact HN.out) (by omega) (HDn.start HH.out HN.out) (by omega)).mono ?_; rintro x3 w3 ⟨⟨u3, rfl, hu3⟩, L3, hfr3, hk3, hp3, hh3, hq3⟩; have HF3 := Lib.hid hfr3; have HK3 := Lib.hid (HK2.out.then hk3); have hpp := pop_parts HH.out HN.out hp3 (hq3 n (Nat.le_refl _)) hh3; obtain ⟨x, hx⟩ : ∃ x, L3[n]! = x := ⟨_, rfl⟩; rw [hx] at hpp; have HP3 := Lib.hid hpp; have HX := Lib.hid hx; have HL3 := Lib.hid (show L3.length = n + 1 from by rw [hp3.length_eq, swp_length]; exact HN.out); have m4 := fun k => mPop k w3 F; clear hfr3 hk3 hp3 hh3 hq3 hpp hx)
    | (go_at_call 221; refine (fPop_x base F _ L3 n x w3 HF3.out HL3.out HX.out).mono ?_; rintro x4 w4 ⟨rfl, hto⟩; have HTO := Lib.hid hto; clear hto))
  go_ret
  exact ⟨_, _, rfl, FrTo.trans HK3.out (.inl rfl) HTO.out, HP3.out.1, HP3.out.2.1, HP3.out.2.2⟩
end Go.Proofs.YthnedehihbploaaGreatDoor
/- the front: hold, first -/
namespace Go.Proofs.YthnedehihbploaaGreatDoor
open Go.RowKit Go.Lib

/-- a slice of nodes that may be read, from blocks below base on -/
structure NodesAt (w : World) (base : Nat) (a : Option Addr) (l : List Nd) : Prop where
  cell : ∀ j (h : j < l.length), ∃ b off, a = some ⟨b, off, none⟩ ∧ b < base ∧ b < w.heap.size ∧ w.cell? ⟨b, off + j * 4, none⟩ = some (.int .i64 l[j].e.s) ∧ w.cell? ⟨b, off + j * 4 + 1, none⟩ = some (.int .i64 l[j].e.q) ∧ w.cell? ⟨b, off + j * 4 + 2, none⟩ = some (.int .i64 l[j].e.i) ∧ w.cell? ⟨b, off + j * 4 + 3, none⟩ = some (.int .i64 l[j].op)
theorem NodesAt.below {w w' : World} {base : Nat} {a : Option Addr} {l : List Nd} (h : NodesAt w base a l) (hb : Below base w w') : NodesAt w' base a l :=
  ⟨fun j hj => by
    obtain ⟨b, off, h1, h2, h2', h3, h4, h5, h6⟩ := h.cell j hj
    exact ⟨b, off, h1, h2, Nat.lt_of_lt_of_le h2' hb.size, (hb.cell (p := ⟨b, off + j * 4, none⟩) h2).trans h3, (hb.cell (p := ⟨b, off + j * 4 + 1, none⟩) h2).trans h4, (hb.cell (p := ⟨b, off + j * 4 + 2, none⟩) h2).trans h5, (hb.cell (p := ⟨b, off + j * 4 + 3, none⟩) h2).trans h6⟩⟩
theorem Kept.below {F base : Nat} {r : Option Nat} {w w' : World} (h : Kept F r w w') (hF : base ≤ F) (hr : ∀ g, r = some g → base ≤ g) (hs : base ≤ w.heap.size) : Below base w w' :=
  ⟨h.os, h.tape, h.output, h.size, fun k hk => h.block k (by omega) (by omega) (fun e => by have := hr k e.symm; omega)⟩
theorem Fr.base {w : World} {base F : Nat} {v : Value} {L : List Nd} (h : Fr w base F v L) : ∀ g, v.ownBlock = some g → base ≤ g := fun g hg => (h.own.lt g hg).1

def HoldPost (base F : Nat) (v : Value) (L : List Nd) (w : World) (e : Ending) (w' : World) : Prop :=
  e = .returned (.tuple #[]) ∧ ∃ L', FrTo base F w v L' w' ∧ L'.Perm L ∧ HeapN L' L'.length
set_option maxRecDepth 100000 in
set_option maxHeartbeats 1000000 in
theorem fHold_any (base F : Nat) (v : Value) (L ns : List Nd) (a : Option Addr) (cap : Nat) (w : World) (h : Fr w base F v L) (hh : HeapN L L.length) (hn : NodesAt w base a ns) (hl : L.length + ns.length ≤ 1000) :
    Calls Tryz.prog 116 #[.pointer (some ⟨F, 0, none⟩), .slice a ns.length cap] w (HoldPost base F v (L ++ ns) w) := by
  have HF := Lib.hid h
  have HH := Lib.hid hh
  have HN := Lib.hid hn
  have HNL := Lib.hid (show L.length + ns.length ≤ 1000 from hl)
  have hm : ns.length ≤ 1000 := by omega
  obtain ⟨m, hmm⟩ : ∃ m, ns.length = m := ⟨_, rfl⟩
  rw [hmm] at hm ⊢
  have HM := Lib.hid hmm
  clear h hh hn hl hmm
  go_enter Tryz.func116, Tryz.ntmps116
  go_wp2_with fail
  go_loopw [8] (fun s8 wr => ∃ (k : Nat) (L' : List Nd), s8 = .int .i64 k ∧ k ≤ m ∧ FrTo base F w v L' wr ∧ L'.Perm (L ++ ns.take k) ∧ HeapN L' L'.length) (fun s8 _ => m - (RowKit.intOf s8).toNat)
  case atStart => exact ⟨0, L, rfl, Nat.zero_le _, FrTo.refl HF.out, by simp, HH.out⟩
  case round =>
    obtain ⟨k, L', rfl, hk, hfr, hp, hh⟩ := hrel
    by_cases hlt : k < m
    · obtain ⟨v1, hf1, hk1, hn1⟩ := hfr
      have hns := HN.out.below (hk1.below HF.out.ge HF.out.base (by have := HF.out.ge; have := HF.out.lt; omega))
      obtain ⟨b, off, rfl, hbb, hbs, x0, x1, x2, x3⟩ := hns.cell k (by rw [HM.out]; exact hlt)
      have hLen := hp.length_eq
      rw [List.length_append, List.length_take] at hLen
      have HC := Lib.hid (fun wx (hx : Fr wx base F v1 L') => hPush_any base F v1 L' (ns[k]'(by rw [HM.out]; exact hlt)) wx hx hh (by have := HNL.out; omega))
      have HT := Lib.hid (show (L' ++ [ns[k]'(by rw [HM.out]; exact hlt)]).Perm (L ++ ns.take (k + 1)) from by
        rw [List.take_succ_eq_append_getElem (by rw [HM.out]; exact hlt), ← List.append_assoc]
        exact hp.append_right _)
      have HF1 := Lib.hid hf1
      have HK1 := Lib.hid hk1
      have HN1 := Lib.hid hn1
      clear hf1 hk1 hn1 hp hh hns hLen
      generalize ns[k]'(by rw [HM.out]; exact hlt) = nd at *
      obtain ⟨⟨es, eq, ei⟩, op⟩ := nd
      unfold Nd.v at HC
      simp only at x0 x1 x2 x3 HC
      go_wp2_with (first | (go_at_call 134; refine (HC.out _ (HF1.out.alloc _)).mono ?_; rintro x5 w5 ⟨rfl, L5, hto5, hp5, hh5⟩; have HTO5 := Lib.hid hto5; have HP5 := Lib.hid hp5; have HH5 := Lib.hid hh5; clear hto5 hp5 hh5))
      go_roundw
      case rel => exact ⟨k + 1, L5, by go_num, by omega, FrTo.trans (kept_alloc HK1.out _) HN1.out HTO5.out, HP5.out.trans HT.out, HH5.out⟩
      case measure => simp [RowKit.intOf]; omega
    · have h0 : k = m := by omega
      have HFIN : RowKit.Hid (HoldPost base F v (L ++ ns) w (.returned (.tuple #[])) wr) := Lib.hid ⟨rfl, L', hfr, by rw [h0, ← HM.out, List.take_length] at hp; exact hp, hh⟩
      clear hfr hp hh
      go_wp2
      go_end0
      exact HFIN.out

/-- the first node's element; the front without it -/
def FirstPost (base F : Nat) (v : Value) (L : List Nd) (w : World) (e : Ending) (w' : World) : Prop :=
  ∃ x L', e = .returned (El.v (Nd.e x)) ∧ FrTo base F w v L' w' ∧ (x :: L').Perm L ∧ (∀ y ∈ L', y.op ≤ x.op) ∧ HeapN L' L'.length
theorem FrTo.alloc {base F : Nat} {w w' : World} {v : Value} {L : List Nd} (h : FrTo base F w v L w') (o : Obj) : FrTo base F w v L (w'.alloc o) := by
  obtain ⟨v', h1, h2, h3⟩ := h
  exact ⟨v', h1.alloc o, kept_alloc h2 o, h3⟩
theorem fr_set_other {w : World} {base F : Nat} {v : Value} {L : List Nd} (h : Fr w base F v L) {k : Nat} (hF : k ≠ F) (hk : v.ownBlock ≠ some k) (o : Nat) (u : Value) : Fr (w.setCell ⟨k, o, none⟩ u) base F v L := by
  refine ⟨by rw [set_other (Ne.symm hF)]; exact h.box, ?_, h.ge, h.ne⟩
  refine ⟨h.own.1, ?_⟩
  rcases h.own.2 with h2 | ⟨g, cap, cur, hv, hg, hh, r⟩
  · exact .inl h2
  · refine .inr ⟨g, cap, cur, hv, hg, ?_, r⟩
    rw [set_other (by intro e; subst hv; exact hk (by simp [Value.ownBlock, e]))]
    exact hh
theorem kept_setNew {F : Nat} {r : Option Nat} {w w1 : World} (h : Kept F r w w1) {k : Nat} (hk : w.heap.size ≤ k) (o : Nat) (u : Value) : Kept F r w (w1.setCell ⟨k, o, none⟩ u) :=
  ⟨h.os, h.tape, h.output, by rw [World.size_setCell]; exact h.size, fun j hj h1 h2 => by
    rw [set_other (by omega)]
    exact h.block j hj h1 h2⟩
theorem first_fin {w w5 : World} {base F : Nat} {v : Value} {L L5 : List Nd} {o : Obj} (h : Fr w base F v L) (hto : FrTo base F (w.alloc o) v L5 w5) (a b c : Value) (o2 : Obj) :
    FrTo base F w v L5 ((((w5.setCell ⟨w.heap.size, 0, none⟩ a).setCell ⟨w.heap.size, 1, none⟩ b).setCell ⟨w.heap.size, 2, none⟩ c).alloc o2) := by
  obtain ⟨v5, h5, hk5, hn5⟩ := hto
  have hF : w.heap.size ≠ F := by have := h.lt; omega
  have hs1 : (w.alloc o).heap.size = w.heap.size + 1 := by simp
  have hr : v5.ownBlock ≠ some w.heap.size := by
    intro e
    rcases hn5 with e2 | ⟨g, e2, hg⟩
    · have := (h.own.lt w.heap.size (by rw [← e2, e])).2
      omega
    · rw [e] at e2
      cases e2
      omega
  have hk : Kept F v.ownBlock w w5 := (kept_alloc (Kept.refl F v.ownBlock w) o).then hk5
  refine FrTo.alloc ⟨v5, fr_set_other (fr_set_other (fr_set_other h5 hF hr _ _) hF hr _ _) hF hr _ _, kept_setNew (kept_setNew (kept_setNew hk (Nat.le_refl _) _ _) (Nat.le_refl _) _ _) (Nat.le_refl _) _ _, ?_⟩ o2
  rcases hn5 with e | ⟨g, e, hg⟩
  · exact .inl e
  · exact .inr ⟨g, e, by omega⟩
theorem first_cells {w w5 : World} {base F : Nat} {v : Value} {L L5 : List Nd} {c0 c1 c2 : Value} {t : TypeId} (h : Fr w base F v L) (hto : FrTo base F (w.alloc (.cells #[c0, c1, c2] t)) v L5 w5) :
    (w5.cell? ⟨w.heap.size, 0, none⟩ = some c0 ∧ w5.cell? ⟨w.heap.size, 1, none⟩ = some c1 ∧ w5.cell? ⟨w.heap.size, 2, none⟩ = some c2) ∧ (∀ o, w5.frozen? ⟨w.heap.size, o, none⟩ = false) ∧ w.heap.size < w5.heap.size := by
  obtain ⟨v5, h5, hk5, hn5⟩ := hto
  have hF : w.heap.size ≠ F := by have := h.lt; omega
  have hs1 : (w.alloc (.cells #[c0, c1, c2] t)).heap.size = w.heap.size + 1 := by simp
  have hb : w5.heap[w.heap.size]? = some (.cells #[c0, c1, c2] t (0, 0)) := by
    rw [hk5.block w.heap.size (by omega) hF (fun e => by have := (h.own.lt w.heap.size e.symm).2; omega)]
    exact heap_alloc_new w _
  refine ⟨⟨?_, ?_, ?_⟩, fun o => ?_, by have := hk5.size; omega⟩
  all_goals first | (simp [World.cell?, hb]; done) | (simp [World.frozen?, hb])
set_option maxRecDepth 100000 in
set_option maxHeartbeats 1000000 in
theorem fFirst_any (base F : Nat) (v : Value) (L : List Nd) (w : World) (h : Fr w base F v L) (hh : HeapN L L.length) (h0 : 0 < L.length) (hl : L.length ≤ 1000) :
    Calls Tryz.prog 118 #[.pointer (some ⟨F, 0, none⟩)] w (FirstPost base F v L w) := by
  have HC := Lib.hid (fun wx (hx : Fr wx base F v L) => hPop_any base F v L wx hx hh h0 hl)
  have HF := Lib.hid h
  clear h hh h0 hl
  go_enter Tryz.func118, Tryz.ntmps118
  go_wp2_with (first | (go_at_call 135; refine (HC.out _ (HF.out.alloc _)).mono ?_; rintro x5 w5 ⟨⟨⟨es, eq, ei⟩, op⟩, L5, rfl, hto5, hp5⟩; have HTO5 := Lib.hid (first_fin HF.out hto5); have HP5 := Lib.hid hp5; obtain ⟨⟨p0, p1, p2⟩, hfz, hlt5⟩ := first_cells HF.out hto5; have f0 := hfz 0; have f1 := hfz 1; have f2 := hfz 2; clear hto5 hp5 hfz; unfold Nd.v; simp only))
  refine bodyPost_ret (v := .agg #[.int .i64 es, .int .i64 eq, .int .i64 ei]) (by simp [results, Tryz.results118, go_sem, p0, p1, p2, hlt5]) rfl ?_
  exact ⟨⟨⟨es, eq, ei⟩, op⟩, L5, rfl, HTO5.out _ _ _ _, HP5.out⟩
end Go.Proofs.YthnedehihbploaaGreatDoor
