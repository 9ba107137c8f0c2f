/- what a reader's box holds, what else stays -/
import Derived.Test.YtnkinbobnhdpaaaDoorKPure
import Derived.Test.YtnkinbobnhdpaaaDoorOBox
namespace Go.Proofs.YtnkinbobnhdpaaaDoor
open Go.RowKit Go.Lib

theorem kset_other {w : World} {b c : Nat} {v : Value} {k : Nat} (h : k ≠ b) : (w.setCell ⟨b, c, none⟩ v).heap[k]? = w.heap[k]? := Below.heap_setCell w _ v k h
/-- nothing but one block has turned -/
structure Kb (bx : Nat) (w w' : World) : Prop where
  os : w'.os = w.os
  tape : w'.tape = w.tape
  output : w'.output = w.output
  size : w.heap.size ≤ w'.heap.size
  block : ∀ b, b < w.heap.size → b ≠ bx → w'.heap[b]? = w.heap[b]?
theorem Kb.refl (bx : Nat) (w : World) : Kb bx w w := ⟨rfl, rfl, rfl, Nat.le_refl _, fun _ _ _ => rfl⟩
theorem Kb.trans {bx : Nat} {w w1 w2 : World} (h : Kb bx w w1) (k : Kb bx w1 w2) : Kb bx w w2 :=
  ⟨k.os.trans h.os, k.tape.trans h.tape, k.output.trans h.output, Nat.le_trans h.size k.size, fun b hb hne => (k.block b (Nat.lt_of_lt_of_le hb h.size) hne).trans (h.block b hb hne)⟩
theorem Kb.set {bx : Nat} {w w' : World} (h : Kb bx w w') (c : Nat) (v : Value) : Kb bx w (w'.setCell ⟨bx, c, none⟩ v) :=
  ⟨h.os, h.tape, h.output, by rw [World.size_setCell]; exact h.size, fun b hb hne => (kset_other hne).trans (h.block b hb hne)⟩
theorem Kb.below {bx : Nat} {w w' w2 : World} (h : Kb bx w w') (hb : Below w.heap.size w' w2) : Kb bx w w2 :=
  ⟨hb.os.trans h.os, hb.tape.trans h.tape, hb.output.trans h.output, Nat.le_trans h.size hb.size, fun b h1 h2 => (hb.block b h1).trans (h.block b h1 h2)⟩
theorem Kb.next {bx : Nat} {w w' w2 : World} (h : Kb bx w w') (hb : Below w'.heap.size w' w2) : Kb bx w w2 := h.below (hb.mono h.size)
theorem Kb.grown {bx : Nat} {w w' w2 : World} {row : Option Nat} (h : Kb bx w w') (hg : w'.grownBy w2 row) (hr : ∀ k, row = some k → w.heap.size ≤ k) : Kb bx w w2 := h.below ((Below.refl _ _).grown hg h.size hr)
theorem Kb.alloc {bx : Nat} {w w' : World} (h : Kb bx w w') (o : Obj) : Kb bx w (w'.alloc o) := h.next ((Below.refl _ _).alloc (Nat.le_refl _) o)
theorem Kb.far {bx : Nat} {w w' : World} (h : Kb bx w w') {p : Addr} (hp : w.heap.size ≤ p.block) (v : Value) : Kb bx w (w'.setCell p v) := h.below ((Below.refl _ _).setCell hp v)
theorem Kb.cell {bx : Nat} {w w' : World} (h : Kb bx w w') {k : Nat} (o : Nat) (hk : k < w.heap.size) (hne : k ≠ bx) : w'.cell? ⟨k, o, none⟩ = w.cell? ⟨k, o, none⟩ := by
  unfold World.cell?; simp only [h.block k hk hne]
theorem Kb.fro {bx : Nat} {w w' : World} (h : Kb bx w w') {k : Nat} (o : Nat) (hk : k < w.heap.size) (hne : k ≠ bx) : w'.frozen? ⟨k, o, none⟩ = w.frozen? ⟨k, o, none⟩ := by
  unfold World.frozen?; simp only [h.block k hk hne]
theorem Kb.of {bx : Nat} {w w' : World} (hb : Below w.heap.size w w') : Kb bx w w' := (Kb.refl bx w).below hb
theorem Kb.drewN {bx : Nat} {w w' : World} (h : Kb bx w w') (n : Nat) : Kb bx w (w'.drewN n) := h.below ⟨rfl, rfl, rfl, Nat.le_refl _, fun _ _ => rfl⟩
theorem Kb.to {bx s : Nat} {w0 w w' : World} (h : Kb bx w w') (hb : Below s w0 w) (hs : s ≤ bx) (hz : s ≤ w.heap.size) : Below s w0 w' :=
  ⟨h.os.trans hb.os, h.tape.trans hb.tape, h.output.trans hb.output, Nat.le_trans hb.size h.size, fun k hk => (h.block k (by omega) (by omega)).trans (hb.block k hk)⟩
theorem Kb.owns {bx : Nat} {w w' : World} (h : Kb bx w w') {base : Nat} {t : TypeId} {size : Nat} {v : Value} {n : Nat} {xs : List Value} (ho : w.ownsRow base t size v n xs) (hne : bx < base) : w'.ownsRow base t size v n xs := by
  obtain ⟨h1, h2⟩ := ho
  refine ⟨h1, ?_⟩
  rcases h2 with h2 | ⟨g, cap, cur, hv, hg, hh, r⟩
  · exact .inl h2
  · refine .inr ⟨g, cap, cur, hv, hg, ?_, r⟩
    rw [h.block g (by by_cases hlt : g < w.heap.size; exact hlt; rw [Array.getElem?_eq_none (by omega)] at hh; cases hh) (by omega)]
    exact hh
theorem Kb.elems {bx : Nat} {w w' : World} (h : Kb bx w w') {a : Option Addr} {l : List El} (hE : ElemsAt w a l) (hne : ∀ ad, a = some ad → ad.block ≠ bx) : ElemsAt w' a l :=
  ⟨fun j hj => by
    obtain ⟨b, off, h1, h2, h3, h4, h5⟩ := hE.cell j hj
    have hb := h.block b h2 (hne _ h1)
    have hc : ∀ o, w'.cell? ⟨b, o, none⟩ = w.cell? ⟨b, o, none⟩ := fun o => by unfold World.cell?; simp only [hb]
    exact ⟨b, off, h1, Nat.lt_of_lt_of_le h2 h.size, (hc _).trans h3, (hc _).trans h4, (hc _).trans h5⟩⟩

theorem new_heap (w : World) (cs : Array Value) (t : TypeId) : (w.alloc (.cells cs t)).heap[w.heap.size]? = some (.cells cs t (0, 0)) := by
  show (w.heap.push _)[w.heap.size]? = _
  rw [Array.getElem?_push, if_pos rfl]
theorem new_fro (w : World) (cs : Array Value) (t : TypeId) (o : Nat) : (w.alloc (.cells cs t)).frozen? ⟨w.heap.size, o, none⟩ = false := by
  unfold World.frozen?
  rw [show (w.alloc (.cells cs t)).heap[(⟨w.heap.size, o, none⟩ : Addr).block]? = some (.cells cs t (0, 0)) from new_heap w cs t]
  simp
/-- a block of cells -/
structure Hp (t : TypeId) (w : World) (b : Nat) (cs : Array Value) : Prop where
  heap : w.heap[b]? = some (.cells cs t (0, 0))
theorem Hp.lt {t : TypeId} {w : World} {b : Nat} {cs : Array Value} (h : Hp t w b cs) : b < w.heap.size := (Array.getElem?_eq_some_iff.1 h.heap).1
theorem Hp.cell {t : TypeId} {w : World} {b : Nat} {cs : Array Value} (h : Hp t w b cs) (j : Nat) {u : Value} (hu : cs[j]? = some u) : w.cell? ⟨b, j, none⟩ = some u := by rw [cell_of_row w b j _ _ _ h.heap]; exact hu
theorem Hp.fr {t : TypeId} {w : World} {b : Nat} {cs : Array Value} (h : Hp t w b cs) (j : Nat) : w.frozen? ⟨b, j, none⟩ = false := by simp [World.frozen?, h.heap]
theorem Hp.new (w : World) (cs : Array Value) (t : TypeId) : Hp t (w.alloc (.cells cs t)) w.heap.size cs := ⟨new_heap w cs t⟩
theorem Hp.kb {t : TypeId} {w w' : World} {b bx : Nat} {cs : Array Value} (h : Hp t w b cs) (hk : Kb bx w w') (hne : b ≠ bx) : Hp t w' b cs := ⟨(hk.block b h.lt hne).trans h.heap⟩
theorem Hp.below {t : TypeId} {w w' : World} {b B : Nat} {cs : Array Value} (h : Hp t w b cs) (hb : Below B w w') (hlt : b < B) : Hp t w' b cs := ⟨(hb.block b hlt).trans h.heap⟩
theorem Hp.step {t : TypeId} {w w' : World} {b : Nat} {cs : Array Value} (h : Hp t w b cs) (hb : Below w.heap.size w w') : Hp t w' b cs := h.below hb h.lt
theorem Hp.far {t : TypeId} {w : World} {b k c : Nat} {cs : Array Value} (h : Hp t w b cs) (hne : b ≠ k) (v : Value) : Hp t (w.setCell ⟨k, c, none⟩ v) b cs := ⟨(kset_other hne).trans h.heap⟩
theorem Hp.set {t : TypeId} {w : World} {b : Nat} {cs : Array Value} (h : Hp t w b cs) (c : Nat) (v : Value) : Hp t (w.setCell ⟨b, c, none⟩ v) b (cs.setIfInBounds c v) := ⟨heap_setCell_same w b c _ _ v h.heap⟩
/-- an op's cells, in a row -/
def opA (o : OpD) (a : Option Addr) (n cap : Nat) : Array Value := #[.int .i64 o.site, .int .i64 o.seq, .int .i64 o.kind, .int .i64 o.after.s, .int .i64 o.after.q, .int .i64 o.after.i, .string o.text, .slice a n cap, .int .i64 o.of, .int .i64 o.num, .int .i64 o.gen]
/-- what is left -/
def lft : St → List UInt8
  | some l => l
  | none => []
/-- the reader's box -/
structure RdAt (w : World) (b : Nat) (st : St) : Prop where
  heap : w.heap[b]? = some (.cells #[Nb.S (lft st), .bool st.isNone] 99 (0, 0))
theorem RdAt.lt {w : World} {b : Nat} {st : St} (h : RdAt w b st) : b < w.heap.size := (Array.getElem?_eq_some_iff.1 h.heap).1
theorem RdAt.c0 {w : World} {b : Nat} {st : St} (h : RdAt w b st) : w.cell? ⟨b, 0, none⟩ = some (Nb.S (lft st)) := by rw [cell_of_row w b 0 _ _ _ h.heap]; rfl
theorem RdAt.c1 {w : World} {b : Nat} {st : St} (h : RdAt w b st) : w.cell? ⟨b, 1, none⟩ = some (.bool st.isNone) := by rw [cell_of_row w b 1 _ _ _ h.heap]; rfl
theorem RdAt.fr {w : World} {b : Nat} {st : St} (h : RdAt w b st) (j : Nat) : w.frozen? ⟨b, j, none⟩ = false := by simp [World.frozen?, h.heap]
theorem RdAt.below {w w' : World} {b : Nat} {st : St} (h : RdAt w b st) (hb : Below w.heap.size w w') : RdAt w' b st := ⟨(hb.block b h.lt).trans h.heap⟩
theorem RdAt.belowB {w w' : World} {b B : Nat} {st : St} (h : RdAt w b st) (hb : Below B w w') (hlt : b < B) : RdAt w' b st := ⟨(hb.block b hlt).trans h.heap⟩
theorem RdAt.alloc {w : World} {b : Nat} {st : St} (h : RdAt w b st) (o : Obj) : RdAt (w.alloc o) b st := h.below ((Below.refl _ _).alloc (Nat.le_refl _) o)
theorem RdAt.far {w : World} {b : Nat} {st : St} (h : RdAt w b st) {k c : Nat} (hne : b ≠ k) (v : Value) : RdAt (w.setCell ⟨k, c, none⟩ v) b st := ⟨(kset_other hne).trans h.heap⟩
theorem RdAt.set {w : World} {b : Nat} {st : St} (h : RdAt w b st) (st' : St) : RdAt ((w.setCell ⟨b, 0, none⟩ (Nb.S (lft st'))).setCell ⟨b, 1, none⟩ (.bool st'.isNone)) b st' := by
  have h1 := heap_setCell_same w b 0 _ _ (Nb.S (lft st')) h.heap
  have h2 := heap_setCell_same _ b 1 _ _ (.bool st'.isNone) h1
  exact ⟨h2⟩
theorem RdAt.new (w : World) (l : List UInt8) : RdAt (w.alloc (.cells #[Nb.S l, .bool false] 99)) w.heap.size (some l) := by
  refine ⟨?_⟩
  show (w.heap.push _)[w.heap.size]? = _
  rw [Array.getElem?_push, if_pos rfl]
  rfl
/-- what a method of the reader tells: a value, and the state behind it -/
def RdInt (b : Nat) (n : Int) (st' : St) (w : World) (e : Ending) (w' : World) : Prop := e = .returned (.int .i64 n) ∧ RdAt w' b st' ∧ Kb b w w'
def RdStr (b : Nat) (s : ByteArray) (st' : St) (w : World) (e : Ending) (w' : World) : Prop := e = .returned (.string s) ∧ RdAt w' b st' ∧ Kb b w w'
def RdEl (b : Nat) (x : El) (st' : St) (w : World) (e : Ending) (w' : World) : Prop := e = .returned x.v ∧ RdAt w' b st' ∧ Kb b w w'
def RdPost (b : Nat) (st' : St) (V : World → Value → Prop) (w : World) (e : Ending) (w' : World) : Prop := ∃ v, e = .returned v ∧ V w' v ∧ RdAt w' b st' ∧ Kb b w w'
end Go.Proofs.YtnkinbobnhdpaaaDoor
