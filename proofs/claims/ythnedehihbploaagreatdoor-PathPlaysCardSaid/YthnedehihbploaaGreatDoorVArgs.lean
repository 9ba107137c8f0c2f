/- What the argument of the laws of layer 5 holds; Heavy, num. -/
import Derived.Test.YthnedehihbploaaGreatDoorOArgs2
import Derived.BigCall
import Derived.BigQuiet
import Derived.Lib.Hide
import Derived.Lib.QuietBelow
namespace Go.Proofs.YthnedehihbploaaGreatDoor
open Go.ChangeShapes Go.WideShapes Go.ChangeAt Go.RowKit Go.Deep

theorem bytesInt : Tryz.prog.bytesOf 3 = 8 := by kernel_rfl
theorem bytesOps : Tryz.prog.bytesOf 24 = 24 := by kernel_rfl
theorem cellsOps : Tryz.prog.cellsOf 24 = 1 := by kernel_rfl
/-- a row of ops, and where it lies -/
structure RowR where
  l : List OpR
  a : Option Addr
  cap : Nat
def RowR.v (r : RowR) : Value := .slice r.a r.l.length r.cap
structure RowsAt (w : World) (a : Option Addr) (l : List RowR) : Prop where
  cell : ∀ j (h : j < l.length), ∃ b off, a = some ⟨b, off, none⟩ ∧ b < w.heap.size ∧ w.cell? ⟨b, off + j, none⟩ = some (.slice l[j].a l[j].l.length l[j].cap)
  row : ∀ j (h : j < l.length), OpsAt w l[j].a l[j].l ∧ l[j].l.length ≤ l[j].cap
  len : l.length ≤ BIG
theorem RowsAt.below {w w' : World} {a : Option Addr} {l : List RowR} (h : RowsAt w a l) (hb : Below w.heap.size w w') : RowsAt w' a l :=
  ⟨fun j hj => by obtain ⟨b, off, h1, h2, h3⟩ := h.cell j hj; exact ⟨b, off, h1, Nat.lt_of_lt_of_le h2 hb.size, (hb.cell (p := ⟨b, off + j, none⟩) h2).trans h3⟩, fun j hj => ⟨(h.row j hj).1.below hb, (h.row j hj).2⟩, h.len⟩
/-- numbers that may be read -/
structure NumsAt (w : World) (a : Option Addr) (l : List Int) : Prop where
  cell : ∀ j (h : j < l.length), ∃ b off, a = some ⟨b, off, none⟩ ∧ b < w.heap.size ∧ w.cell? ⟨b, off + j, none⟩ = some (.int .i64 l[j])
theorem NumsAt.below {w w' : World} {a : Option Addr} {l : List Int} (h : NumsAt w a l) (hb : Below w.heap.size w w') : NumsAt w' a l :=
  ⟨fun j hj => by obtain ⟨b, off, h1, h2, h3⟩ := h.cell j hj; exact ⟨b, off, h1, Nat.lt_of_lt_of_le h2 hb.size, (hb.cell (p := ⟨b, off + j, none⟩) h2).trans h3⟩⟩

section
variable {H : Type} {enc : TypeId × Value → H} {W : World}
theorem ops_cap {c0 : Value} {y : DataW H × List MemPlace} {m : Nat} {a : Option Addr} {n cap : Nat} (hy : DataW.trod enc Tryz.prog W 0 (fun _ => true) true m 24 [c0] = some y) (hc : c0 = .slice a n cap) : n ≤ cap := by
  rcases open_slice Tryz.underlying24 hy with ⟨hcs, _⟩ | ⟨x, len, cap2, mm, n2, D, Pl, hcs, _, hl, hm, hmm, hx, hi⟩
  · have h1 : c0 = .slice none 0 0 := by simpa using hcs
    rw [hc] at h1
    simp only [Value.slice.injEq] at h1
    omega
  · have h1 : c0 = .slice (some x) len cap2 := by simpa using hcs
    rw [hc] at h1
    simp only [Value.slice.injEq] at h1
    omega
theorem rows_at {c0 : Value} {y : DataW H × List MemPlace} {m : Nat}
    (hy : DataW.trod enc Tryz.prog W 0 (fun _ => true) true m 22 [c0] = some y) (hsz : ∀ n ∈ y.1.weights Tryz.prog 22, n ≤ reachBytes) :
    ∃ (a : Option Addr) (cap : Nat) (l : List RowR), c0 = .slice a l.length cap ∧ RowsAt W a l ∧ (a = none → l.length = 0 ∧ cap = 0) := by
  rcases open_slice Tryz.underlying22 hy with ⟨hcs, _⟩ | ⟨x, len, cap, mm, n, D, Pl, hcs, _, hl, hm, hmm, hx, hi⟩
  · exact ⟨none, 0, [], by simpa using hcs, ⟨fun j hj => absurd hj (by simp), fun j hj => absurd hj (by simp), Nat.zero_le _⟩, fun _ => ⟨rfl, rfl⟩⟩
  · simp only [if_true] at hmm
    subst hmm
    rw [cellsOps] at hi hx
    have each : ∀ i, i < len → ∃ r : RowR, W.cell? (x.add i) = some (.slice r.a r.l.length r.cap) ∧ OpsAt W r.a r.l ∧ r.l.length ≤ r.cap := by
      intro i hil
      obtain ⟨cs', hc, ht⟩ := hi i (by omega)
      obtain ⟨_, hcl, hat⟩ := World.cells?_some hc
      obtain ⟨c, rfl⟩ : ∃ c, cs' = [c] := by
        match cs', hcl with
        | [c], _ => exact ⟨c, rfl⟩
      obtain ⟨a, cp, lo, hceq, ho, _⟩ := ops_at ht (fun k hk => hsz k (by
        rw [hx]
        simp only [DataW.weights, Tryz.underlying22, List.mem_cons, List.mem_append]
        exact .inr (.inl (weights_mem _ _ _ (D i) k (List.mem_map.2 ⟨i, List.mem_range.2 hil, rfl⟩) hk))))
      have hcap := ops_cap ht hceq
      refine ⟨⟨lo, a, cp⟩, ?_, ho, hcap⟩
      have h0 := hat 0 (by simp at hcl ⊢)
      rw [Go.Deep.add_add] at h0
      simp only [Nat.mul_one, Nat.add_zero] at h0
      rw [h0]
      simp [hceq]
    obtain ⟨l, hll, hle, hlo⟩ : ∃ l : List RowR, l.length = len ∧ (∀ i (h : i < l.length), W.cell? (x.add i) = some (.slice l[i].a l[i].l.length l[i].cap)) ∧ (∀ i (h : i < l.length), OpsAt W l[i].a l[i].l ∧ l[i].l.length ≤ l[i].cap) := by
      clear hcs hl hm hx hi
      induction len with
      | zero => exact ⟨[], rfl, fun i h => absurd h (by simp), fun i h => absurd h (by simp)⟩
      | succ k ih =>
        obtain ⟨l, h1, h2, h3⟩ := ih (fun i hi => each i (by omega))
        obtain ⟨e, he, heo⟩ := each k (by omega)
        refine ⟨l ++ [e], by simp [h1], fun i hi => ?_, fun i hi => ?_⟩
        all_goals
          by_cases hik : i < l.length
          · rw [List.getElem_append_left hik]; first | exact h2 i hik | exact h3 i hik
          · have : i = l.length := by simp at hi; omega
            subst this
            rw [List.getElem_append_right (Nat.le_refl _)]
            first
              | simpa [h1] using he
              | simpa [h1] using heo
    refine ⟨some x, mm, l, by rw [hll]; simpa using hcs, ⟨fun j hj => ?_, hlo, ?_⟩, fun h => by cases h⟩
    · have z0 := hle 0 (by omega)
      have hb := hle j hj
      obtain ⟨b, off, spot⟩ := x
      have hspot : spot = none := by simpa [Addr.add] using World.cell?_spot z0
      subst hspot
      rw [Addr.add_lit] at hb z0
      exact ⟨b, off, rfl, World.block_lt_of_cell? W _ z0, hb⟩
    · have hw := hsz ((len + (mm - len)) * Tryz.prog.bytesOf 24) (by rw [hx]; simp [DataW.weights, Tryz.underlying22])
      rw [bytesOps] at hw
      simp only [reachBytes] at hw
      unfold BIG
      omega
theorem nums_at {c0 : Value} {y : DataW H × List MemPlace} {m : Nat}
    (hy : DataW.trod enc Tryz.prog W 0 (fun _ => true) true m 25 [c0] = some y) (hsz : ∀ n ∈ y.1.weights Tryz.prog 25, n ≤ reachBytes) :
    ∃ (a : Option Addr) (cap : Nat) (zs : List Int), c0 = .slice a zs.length cap ∧ NumsAt W a zs ∧ zs.length ≤ BIG ∧ (a = none → zs.length = 0 ∧ cap = 0) := by
  rcases open_ints Tryz.underlying25 Tryz.underlying3 (by kernel_rfl) hy with ⟨hcs, _⟩ | ⟨x, l, c, zs, hcs, _, hl, hm, hz, hx, hcell, hwz⟩
  · exact ⟨none, 0, [], by simpa using hcs, ⟨fun j hj => absurd hj (by simp)⟩, Nat.zero_le _, fun _ => ⟨rfl, rfl⟩⟩
  · simp at hz
    have hlen : (zs.take l).length = l := by rw [List.length_take]; omega
    refine ⟨some x, c, zs.take l, by rw [hlen]; simpa using hcs, ?_⟩
    have hw := hsz (((lits (H := H) .i64 (zs.take l)).length + (lits (H := H) .i64 (zs.drop l)).length) * Tryz.prog.bytesOf 3) (by rw [hx]; simp [DataW.weights, Tryz.underlying25])
    refine ⟨⟨fun j hj => ?_⟩, ?_, fun h => by cases h⟩
    · rw [hlen] at hj
      have h1 := hcell j (by omega)
      have h0 := hcell 0 (by omega)
      obtain ⟨b, off, spot⟩ := x
      have hspot : spot = none := by simpa [Addr.add] using World.cell?_spot h0
      subst hspot
      rw [Addr.add_lit] at h1
      refine ⟨b, off, rfl, World.block_lt_of_cell? W _ h1, ?_⟩
      rw [h1]
      have hjz : j < zs.length := by omega
      simp [hjz]
    · rw [hlen]
      rw [bytesInt] at hw
      simp only [lits, List.length_map, List.length_take, List.length_drop, reachBytes] at hw
      unfold BIG
      omega
end
theorem parts5 {H : Type} {d0 d1 d2 d3 : DataW H} (h : (DataW.weightsEach Tryz.prog [27] [.agg [d0, d1, d2, d3]]).all (· ≤ reachBytes) = true) : (∀ n ∈ d0.weights Tryz.prog 22, n ≤ reachBytes) ∧ (∀ n ∈ d1.weights Tryz.prog 23, n ≤ reachBytes) ∧ (∀ n ∈ d2.weights Tryz.prog 24, n ≤ reachBytes) ∧ (∀ n ∈ d3.weights Tryz.prog 25, n ≤ reachBytes) := by
  rw [List.all_eq_true] at h
  simp only [DataW.weightsEach, DataW.weights, Tryz.underlying27, List.map_cons, List.map_nil, List.append_nil, List.mem_append] at h
  exact ⟨fun n hn => by simpa using h n (.inl hn), fun n hn => by simpa using h n (.inr (.inl hn)), fun n hn => by simpa using h n (.inr (.inr (.inl hn))), fun n hn => by simpa using h n (.inr (.inr (.inr hn)))⟩

/-- the statement's argument -/
structure AskD where
  l : List RowR
  e : List El
  o : List OpR
  n : List Int
  al : Option Addr
  ae : Option Addr
  ao : Option Addr
  an : Option Addr
  cl : Nat
  ce : Nat
  co : Nat
  cn : Nat
def AskD.v (p : AskD) : Value := .agg #[.slice p.al p.l.length p.cl, .slice p.ae p.e.length p.ce, .slice p.ao p.o.length p.co, .slice p.an p.n.length p.cn]
def AskD.obj (p : AskD) : Obj := .cells #[.slice p.al p.l.length p.cl, .slice p.ae p.e.length p.ce, .slice p.ao p.o.length p.co, .slice p.an p.n.length p.cn] 27
structure AskAt (w : World) (p : AskD) : Prop where
  l : RowsAt w p.al p.l
  e : ElemsAt w p.ae p.e
  el : p.e.length ≤ BIG
  o : OpsAt w p.ao p.o
  n : NumsAt w p.an p.n
  nl : p.n.length ≤ BIG
theorem AskAt.below {w w' : World} {p : AskD} (h : AskAt w p) (hb : Below w.heap.size w w') : AskAt w' p := ⟨h.l.below hb, h.e.below hb, h.el, h.o.below hb, h.n.below hb, h.nl⟩
structure BoxA (w : World) (b : Nat) (p : AskD) : Prop where
  lt : b < w.heap.size
  c0 : w.cell? ⟨b, 0, none⟩ = some (.slice p.al p.l.length p.cl)
  c1 : w.cell? ⟨b, 1, none⟩ = some (.slice p.ae p.e.length p.ce)
  c2 : w.cell? ⟨b, 2, none⟩ = some (.slice p.ao p.o.length p.co)
  c3 : w.cell? ⟨b, 3, none⟩ = some (.slice p.an p.n.length p.cn)
theorem BoxA.next {w w' : World} {b B : Nat} {p : AskD} (h : BoxA w b p) (hb : Below B w w') (hB : b < B) : BoxA w' b p :=
  ⟨Nat.lt_of_lt_of_le h.lt hb.size, (hb.cell (p := ⟨b, 0, none⟩) hB).trans h.c0, (hb.cell (p := ⟨b, 1, none⟩) hB).trans h.c1, (hb.cell (p := ⟨b, 2, none⟩) hB).trans h.c2, (hb.cell (p := ⟨b, 3, none⟩) hB).trans h.c3⟩
theorem BoxA.step {w w' : World} {b : Nat} {p : AskD} (h : BoxA w b p) (hb : Below w.heap.size w w') : BoxA w' b p := h.next hb h.lt
theorem BoxA.new (w : World) (p : AskD) : BoxA (w.alloc p.obj) w.heap.size p := by
  unfold AskD.obj
  refine ⟨by simp, ?_, ?_, ?_, ?_⟩
  all_goals
    rw [World.cell?_alloc_new]
    rfl
def SomeB (w : World) (e : Ending) (w' : World) : Prop := ∃ b, e = .returned (.bool b) ∧ Below w.heap.size w w'
end Go.Proofs.YthnedehihbploaaGreatDoor
