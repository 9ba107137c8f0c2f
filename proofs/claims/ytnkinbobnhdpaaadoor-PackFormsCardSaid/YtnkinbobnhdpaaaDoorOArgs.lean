/- What an argument with elements and ops holds, out of the form's own reading. -/
import Derived.Test.YtnkinbobnhdpaaaDoorOBase
import Derived.ProofKit
import Derived.OpenShut
import Derived.SizedLaws
import Derived.SliceStrings
import Derived.Lib.SmallJoins
import Derived.Deep.Slices
namespace Go.Proofs.YtnkinbobnhdpaaaDoor
open Go.ChangeShapes Go.WideShapes Go.ChangeAt Go.RowKit Go.Deep

def BIG : Nat := 140737488351232
theorem bytesElem : Tryd.prog.bytesOf 34 = 24 := by kernel_rfl
theorem cellsElem : Tryd.prog.cellsOf 34 = 3 := by kernel_rfl
theorem cellsInt : Tryd.prog.cellsOf 3 = 1 := by kernel_rfl
theorem cellsStr : Tryd.prog.cellsOf 9 = 1 := by kernel_rfl
theorem cellsOp : Tryd.prog.cellsOf 36 = 11 := by kernel_rfl
theorem cellsElems : Tryd.prog.cellsOf 23 = 1 := by kernel_rfl

section
variable {H : Type} {enc : TypeId × Value → H} {W : World}

set_option maxRecDepth 100000 in
theorem elem_open {y : DataW H × List MemPlace} {m : Nat} {cs : List Value} (h : DataW.trod enc Tryd.prog W 0 (fun _ => true) true m 34 cs = some y) : ∃ e : El, cs = e.cs := by
  obtain ⟨xs, n, rfl, _, hl, hxl, hf⟩ := DataW.trod_struct Tryd.underlying34 h
  rw [cellsElem] at hl
  obtain ⟨c0, c1, c2, rfl⟩ : ∃ c0 c1 c2, cs = [c0, c1, c2] := by
    match cs, hl with
    | [c0, c1, c2], _ => exact ⟨c0, c1, c2, rfl⟩
  match xs, hxl with
  | [x0, x1, x2], _ =>
    have f0 : DataW.trod enc Tryd.prog W 0 (fun _ => true) true n 3 [c0] = some x0 := by simpa [cellsInt] using hf 0 _ rfl
    have f1 : DataW.trod enc Tryd.prog W 0 (fun _ => true) true n 3 [c1] = some x1 := by simpa [cellsInt] using hf 1 _ rfl
    have f2 : DataW.trod enc Tryd.prog W 0 (fun _ => true) true n 3 [c2] = some x2 := by simpa [cellsInt] using hf 2 _ rfl
    obtain ⟨s, hs, _, _⟩ := DataW.trod_int Tryd.underlying3 f0
    obtain ⟨q, hq, _, _⟩ := DataW.trod_int Tryd.underlying3 f1
    obtain ⟨i, hi, _, _⟩ := DataW.trod_int Tryd.underlying3 f2
    simp at hs hq hi
    exact ⟨⟨s, q, i⟩, by rw [hs, hq, hi]; rfl⟩

theorem elems_at {c0 : Value} {y : DataW H × List MemPlace} {m : Nat}
    (hy : DataW.trod enc Tryd.prog W 0 (fun _ => true) true m 23 [c0] = some y) (hsz : ∀ n ∈ y.1.weights Tryd.prog 23, n ≤ reachBytes) :
    ∃ (a : Option Addr) (cap : Nat) (l : List El), c0 = .slice a l.length cap ∧ ElemsAt W a l ∧ l.length ≤ BIG ∧ (a = none → l.length = 0 ∧ cap = 0) := by
  rcases open_slice Tryd.underlying23 hy with ⟨hcs, _⟩ | ⟨x, len, cap, mm, n, D, Pl, hcs, _, hl, hm, hmm, hx, hi⟩
  · exact ⟨none, 0, [], by simpa using hcs, ElemsAt.nil _, Nat.zero_le _, fun _ => ⟨rfl, rfl⟩⟩
  · simp only [if_true] at hmm
    subst hmm
    rw [cellsElem] at hi hx
    have each : ∀ i, i < len → ∃ e : El, W.cell? (x.add (i * 3)) = some (.int .i64 e.s) ∧ W.cell? (x.add (i * 3 + 1)) = some (.int .i64 e.q) ∧ W.cell? (x.add (i * 3 + 2)) = some (.int .i64 e.i) := by
      intro i hil
      obtain ⟨cs', hc, ht⟩ := hi i (by omega)
      obtain ⟨e, rfl⟩ := elem_open ht
      obtain ⟨_, _, hat⟩ := World.cells?_some hc
      have a0 := hat 0 (by decide)
      have a1 := hat 1 (by decide)
      have a2 := hat 2 (by decide)
      rw [Go.Deep.add_add] at a0 a1 a2
      exact ⟨e, a0, a1, a2⟩
    obtain ⟨l, hll, hle⟩ : ∃ l : List El, l.length = len ∧ ∀ i (h : i < l.length), W.cell? (x.add (i * 3)) = some (.int .i64 l[i].s) ∧ W.cell? (x.add (i * 3 + 1)) = some (.int .i64 l[i].q) ∧ W.cell? (x.add (i * 3 + 2)) = some (.int .i64 l[i].i) := by
      clear hcs hl hm hx hi
      induction len with
      | zero => exact ⟨[], rfl, fun i h => absurd h (by simp)⟩
      | succ k ih =>
        obtain ⟨l, h1, h2⟩ := ih (fun i hi => each i (by omega))
        obtain ⟨e, he⟩ := each k (by omega)
        refine ⟨l ++ [e], by simp [h1], fun i hi => ?_⟩
        by_cases hik : i < l.length
        · rw [List.getElem_append_left hik]; exact h2 i hik
        · have : i = l.length := by simp at hi; omega
          subst this
          rw [List.getElem_append_right (Nat.le_refl _)]
          simpa [h1] using he
    refine ⟨some x, mm, l, by rw [hll]; simpa using hcs, ⟨fun j hj => ?_⟩, ?_, fun h => by cases h⟩
    · obtain ⟨b0, b1, b2⟩ := hle j hj
      have z0 := (hle 0 (by omega)).1
      obtain ⟨b, off, spot⟩ := x
      have hspot : spot = none := by simpa [Addr.add] using World.cell?_spot z0
      subst hspot
      rw [Addr.add_lit] at b0 b1 b2
      exact ⟨b, off, rfl, World.block_lt_of_cell? W _ b0, b0, b1, b2⟩
    · have hw := hsz ((len + (mm - len)) * Tryd.prog.bytesOf 34) (by rw [hx]; simp [DataW.weights, Tryd.underlying23])
      rw [bytesElem] at hw
      simp only [reachBytes] at hw
      unfold BIG
      omega

theorem weights_mem (P : Program) (e : TypeId) : ∀ (ds : List (DataW H)) (d : DataW H) (n : Nat), d ∈ ds → n ∈ d.weights P e → n ∈ DataW.weightsAll P e ds := by
  intro ds
  induction ds with
  | nil => intro d n h; cases h
  | cons x r ih =>
    intro d n h hn
    rw [DataW.weightsAll, List.mem_append]
    rcases List.mem_cons.1 h with rfl | h
    · exact .inl hn
    · exact .inr (ih d n h hn)

/-- an op's cells -/
def OpD.cs (o : OpD) (a : Option Addr) (cap : Nat) : List Value := [.int .i64 o.site, .int .i64 o.seq, .int .i64 o.kind, .int .i64 o.after.s, .int .i64 o.after.q, .int .i64 o.after.i, .string o.text, .slice a o.gone.length cap, .int .i64 o.of, .int .i64 o.num, .int .i64 o.gen]
/-- an op that may be read -/
structure OpAt (w : World) (o : OpD) (a : Option Addr) (cap : Nat) : Prop where
  gone : ElemsAt w a o.gone
  len : o.gone.length ≤ BIG
  size : o.text.size ≤ BIG
  none : a = none → o.gone.length = 0 ∧ cap = 0
theorem OpAt.below {w w' : World} {o : OpD} {a : Option Addr} {cap : Nat} (h : OpAt w o a cap) (hb : Below w.heap.size w w') : OpAt w' o a cap := ⟨h.gone.below hb, h.len, h.size, h.none⟩

set_option maxRecDepth 100000 in
theorem op_open {y : DataW H × List MemPlace} {m : Nat} {cs : List Value} (h : DataW.trod enc Tryd.prog W 0 (fun _ => true) true m 36 cs = some y) (hsz : ∀ n ∈ y.1.weights Tryd.prog 36, n ≤ reachBytes) :
    ∃ (o : OpD) (a : Option Addr) (cap : Nat), cs = o.cs a cap ∧ OpAt W o a cap := by
  obtain ⟨xs, n, rfl, hy, hl, hxl, hf⟩ := DataW.trod_struct Tryd.underlying36 h
  rw [cellsOp] at hl
  obtain ⟨c0, c1, c2, c3, c4, c5, c6, c7, c8, c9, ca, rfl⟩ : ∃ c0 c1 c2 c3 c4 c5 c6 c7 c8 c9 ca, cs = [c0, c1, c2, c3, c4, c5, c6, c7, c8, c9, ca] := by
    match cs, hl with
    | [c0, c1, c2, c3, c4, c5, c6, c7, c8, c9, ca], _ => exact ⟨c0, c1, c2, c3, c4, c5, c6, c7, c8, c9, ca, rfl⟩
  match xs, hxl with
  | [x0, x1, x2, x3, x4, x5, x6, x7, x8], _ =>
    have f0 : DataW.trod enc Tryd.prog W 0 (fun _ => true) true n 3 [c0] = some x0 := by simpa [cellsInt] using hf 0 _ rfl
    have f1 : DataW.trod enc Tryd.prog W 0 (fun _ => true) true n 3 [c1] = some x1 := by simpa [cellsInt] using hf 1 _ rfl
    have f2 : DataW.trod enc Tryd.prog W 0 (fun _ => true) true n 3 [c2] = some x2 := by simpa [cellsInt] using hf 2 _ rfl
    have f3 : DataW.trod enc Tryd.prog W 0 (fun _ => true) true n 34 [c3, c4, c5] = some x3 := by simpa [cellsElem] using hf 3 _ rfl
    have f4 : DataW.trod enc Tryd.prog W 0 (fun _ => true) true n 9 [c6] = some x4 := by simpa [cellsStr] using hf 4 _ rfl
    have f5 : DataW.trod enc Tryd.prog W 0 (fun _ => true) true n 23 [c7] = some x5 := by simpa [cellsElems] using hf 5 _ rfl
    have f6 : DataW.trod enc Tryd.prog W 0 (fun _ => true) true n 3 [c8] = some x6 := by simpa [cellsInt] using hf 6 _ rfl
    have f7 : DataW.trod enc Tryd.prog W 0 (fun _ => true) true n 3 [c9] = some x7 := by simpa [cellsInt] using hf 7 _ rfl
    have f8 : DataW.trod enc Tryd.prog W 0 (fun _ => true) true n 3 [ca] = some x8 := by simpa [cellsInt] using hf 8 _ rfl
    have hw4 : ∀ k ∈ x4.1.weights Tryd.prog 9, k ≤ reachBytes := fun k hk => hsz k (by rw [hy]; simp [DataW.weights, DataW.weightsEach, Tryd.underlying36, hk])
    have hw5 : ∀ k ∈ x5.1.weights Tryd.prog 23, k ≤ reachBytes := fun k hk => hsz k (by rw [hy]; simp [DataW.weights, DataW.weightsEach, Tryd.underlying36, hk])
    obtain ⟨z0, h0, _, _⟩ := DataW.trod_int Tryd.underlying3 f0
    obtain ⟨z1, h1, _, _⟩ := DataW.trod_int Tryd.underlying3 f1
    obtain ⟨z2, h2, _, _⟩ := DataW.trod_int Tryd.underlying3 f2
    obtain ⟨e3, h3⟩ := elem_open f3
    obtain ⟨t4, h4, g4, _⟩ := DataW.trod_string Tryd.underlying9 f4
    obtain ⟨a, cap, l, h5, k5, m5, n5⟩ := elems_at f5 hw5
    obtain ⟨z6, h6, _, _⟩ := DataW.trod_int Tryd.underlying3 f6
    obtain ⟨z7, h7, _, _⟩ := DataW.trod_int Tryd.underlying3 f7
    obtain ⟨z8, h8, _, _⟩ := DataW.trod_int Tryd.underlying3 f8
    simp only [List.cons.injEq, and_true] at h0 h1 h2 h4 h6 h7 h8
    simp only [El.cs, List.cons.injEq, and_true] at h3
    obtain ⟨h3a, h3b, h3c⟩ := h3
    subst h0 h1 h2 h3a h3b h3c h4 h5 h6 h7 h8
    refine ⟨⟨z0, z1, z2, e3, t4, l, z6, z7, z8⟩, a, cap, rfl, k5, m5, ?_, n5⟩
    have := hw4 t4.size (by rw [g4]; simp [DataW.weights])
    unfold reachBytes at this
    exact this
end
end Go.Proofs.YtnkinbobnhdpaaaDoor
