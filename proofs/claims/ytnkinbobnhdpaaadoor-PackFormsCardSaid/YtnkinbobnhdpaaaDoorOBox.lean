/- an op, an element, in a block of its own -/
import Derived.Test.YtnkinbobnhdpaaaDoorOPure
import Derived.Lib.QuietBelow
namespace Go.Proofs.YtnkinbobnhdpaaaDoor
open Go.RowKit Go.Lib

structure BoxO (w : World) (b : Nat) (o : OpD) (a : Option Addr) (cap : Nat) : Prop where
  lt : b < w.heap.size
  c0 : w.cell? ⟨b, 0, none⟩ = some (.int .i64 o.site)
  c1 : w.cell? ⟨b, 1, none⟩ = some (.int .i64 o.seq)
  c2 : w.cell? ⟨b, 2, none⟩ = some (.int .i64 o.kind)
  c3 : w.cell? ⟨b, 3, none⟩ = some (.int .i64 o.after.s)
  c4 : w.cell? ⟨b, 4, none⟩ = some (.int .i64 o.after.q)
  c5 : w.cell? ⟨b, 5, none⟩ = some (.int .i64 o.after.i)
  c6 : w.cell? ⟨b, 6, none⟩ = some (.string o.text)
  c7 : w.cell? ⟨b, 7, none⟩ = some (.slice a o.gone.length cap)
  c8 : w.cell? ⟨b, 8, none⟩ = some (.int .i64 o.of)
  c9 : w.cell? ⟨b, 9, none⟩ = some (.int .i64 o.num)
  ca : w.cell? ⟨b, 10, none⟩ = some (.int .i64 o.gen)
theorem BoxO.next {w w' : World} {b : Nat} {o : OpD} {a : Option Addr} {cap B : Nat} (h : BoxO w b o a cap) (hb : Below B w w') (hB : b < B) : BoxO w' b o a cap :=
  ⟨Nat.lt_of_lt_of_le h.lt hb.size, (hb.cell (p := ⟨b, 0, none⟩) hB).trans h.c0, (hb.cell (p := ⟨b, 1, none⟩) hB).trans h.c1, (hb.cell (p := ⟨b, 2, none⟩) hB).trans h.c2, (hb.cell (p := ⟨b, 3, none⟩) hB).trans h.c3, (hb.cell (p := ⟨b, 4, none⟩) hB).trans h.c4, (hb.cell (p := ⟨b, 5, none⟩) hB).trans h.c5, (hb.cell (p := ⟨b, 6, none⟩) hB).trans h.c6, (hb.cell (p := ⟨b, 7, none⟩) hB).trans h.c7, (hb.cell (p := ⟨b, 8, none⟩) hB).trans h.c8, (hb.cell (p := ⟨b, 9, none⟩) hB).trans h.c9, (hb.cell (p := ⟨b, 10, none⟩) hB).trans h.ca⟩
theorem BoxO.step {w w' : World} {b : Nat} {o : OpD} {a : Option Addr} {cap : Nat} (h : BoxO w b o a cap) (hb : Below w.heap.size w w') : BoxO w' b o a cap := h.next hb h.lt
theorem BoxO.new (w : World) (o : OpD) (a : Option Addr) (cap : Nat) : BoxO (w.alloc (o.obj a cap)) w.heap.size o a cap := by
  unfold OpD.obj
  refine ⟨by simp, ?_, ?_, ?_, ?_, ?_, ?_, ?_, ?_, ?_, ?_, ?_⟩
  all_goals
    rw [World.cell?_alloc_new]
    rfl
theorem BoxO.alloc {w : World} {b : Nat} {o : OpD} {a : Option Addr} {cap : Nat} (h : BoxO w b o a cap) (x : Obj) : BoxO (w.alloc x) b o a cap := h.step ((Below.refl _ _).alloc (Nat.le_refl _) _)
structure BoxE (w : World) (b : Nat) (e : El) : Prop where
  lt : b < w.heap.size
  c0 : w.cell? ⟨b, 0, none⟩ = some (.int .i64 e.s)
  c1 : w.cell? ⟨b, 1, none⟩ = some (.int .i64 e.q)
  c2 : w.cell? ⟨b, 2, none⟩ = some (.int .i64 e.i)
theorem BoxE.next {w w' : World} {b B : Nat} {e : El} (h : BoxE w b e) (hb : Below B w w') (hB : b < B) : BoxE w' b e :=
  ⟨Nat.lt_of_lt_of_le h.lt hb.size, (hb.cell (p := ⟨b, 0, none⟩) hB).trans h.c0, (hb.cell (p := ⟨b, 1, none⟩) hB).trans h.c1, (hb.cell (p := ⟨b, 2, none⟩) hB).trans h.c2⟩
theorem BoxE.step {w w' : World} {b : Nat} {e : El} (h : BoxE w b e) (hb : Below w.heap.size w w') : BoxE w' b e := h.next hb h.lt
theorem BoxE.new (w : World) (e : El) : BoxE (w.alloc (.cells #[.int .i64 e.s, .int .i64 e.q, .int .i64 e.i] 34)) w.heap.size e := by
  refine ⟨by simp, ?_, ?_, ?_⟩
  all_goals
    rw [World.cell?_alloc_new]
    rfl
end Go.Proofs.YtnkinbobnhdpaaaDoor
