/- What an argument with a slice of ops holds; the laws' weight of ops. -/
import Derived.Test.YtnkinbobnhdpaaaDoorOArgs
namespace Go.Proofs.YtnkinbobnhdpaaaDoor
open Go.ChangeShapes Go.WideShapes Go.ChangeAt Go.RowKit Go.Deep

theorem bytesOp : Tryd.prog.bytesOf 36 = 112 := by kernel_rfl
/-- an op, and where its elements that go lie -/
structure OpR where
  o : OpD
  a : Option Addr
  cap : Nat
def OpR.v (r : OpR) : Value := r.o.v r.a r.cap
def OpR.cs (r : OpR) : List Value := r.o.cs r.a r.cap
structure OpsAt (w : World) (a : Option Addr) (l : List OpR) : Prop where
  cell : ∀ j (h : j < l.length), ∃ b off, a = some ⟨b, off, none⟩ ∧ b < w.heap.size ∧ (∀ c u, (l[j].cs)[c]? = some u → w.cell? ⟨b, off + j * 11 + c, none⟩ = some u)
  op : ∀ j (h : j < l.length), OpAt w l[j].o l[j].a l[j].cap
  len : l.length ≤ BIG
theorem OpsAt.below {w w' : World} {a : Option Addr} {l : List OpR} (h : OpsAt w a l) (hb : Below w.heap.size w w') : OpsAt w' a l :=
  ⟨fun j hj => by
    obtain ⟨b, off, h1, h2, h3⟩ := h.cell j hj
    exact ⟨b, off, h1, Nat.lt_of_lt_of_le h2 hb.size, fun c u hu => (hb.cell (p := ⟨b, off + j * 11 + c, none⟩) h2).trans (h3 c u hu)⟩, fun j hj => (h.op j hj).below hb, h.len⟩
theorem big_is : (BIG : Int) ≤ 140737488351232 := by decide
theorem OpsAt.cells {w : World} {a : Option Addr} {l : List OpR} (h : OpsAt w a l) (j : Nat) (hj : j < l.length) : ∃ b off, a = some ⟨b, off, none⟩ ∧ b < w.heap.size ∧
    w.cell? ⟨b, off + j * 11, none⟩ = some (.int .i64 l[j].o.site) ∧ w.cell? ⟨b, off + j * 11 + 1, none⟩ = some (.int .i64 l[j].o.seq) ∧ w.cell? ⟨b, off + j * 11 + 2, none⟩ = some (.int .i64 l[j].o.kind) ∧
    w.cell? ⟨b, off + j * 11 + 3, none⟩ = some (.int .i64 l[j].o.after.s) ∧ w.cell? ⟨b, off + j * 11 + 4, none⟩ = some (.int .i64 l[j].o.after.q) ∧ w.cell? ⟨b, off + j * 11 + 5, none⟩ = some (.int .i64 l[j].o.after.i) ∧
    w.cell? ⟨b, off + j * 11 + 6, none⟩ = some (.string l[j].o.text) ∧ w.cell? ⟨b, off + j * 11 + 7, none⟩ = some (.slice l[j].a l[j].o.gone.length l[j].cap) ∧
    w.cell? ⟨b, off + j * 11 + 8, none⟩ = some (.int .i64 l[j].o.of) ∧ w.cell? ⟨b, off + j * 11 + 9, none⟩ = some (.int .i64 l[j].o.num) ∧ w.cell? ⟨b, off + j * 11 + 10, none⟩ = some (.int .i64 l[j].o.gen) := by
  obtain ⟨b, off, h1, h2, h3⟩ := h.cell j hj
  exact ⟨b, off, h1, h2, h3 0 _ rfl, h3 1 _ rfl, h3 2 _ rfl, h3 3 _ rfl, h3 4 _ rfl, h3 5 _ rfl, h3 6 _ rfl, h3 7 _ rfl, h3 8 _ rfl, h3 9 _ rfl, h3 10 _ rfl⟩

section
variable {H : Type} {enc : TypeId × Value → H} {W : World}
theorem ops_at {c0 : Value} {y : DataW H × List MemPlace} {m : Nat}
    (hy : DataW.trod enc Tryd.prog W 0 (fun _ => true) true m 22 [c0] = some y) (hsz : ∀ n ∈ y.1.weights Tryd.prog 22, n ≤ reachBytes) :
    ∃ (a : Option Addr) (cap : Nat) (l : List OpR), c0 = .slice a l.length cap ∧ OpsAt W a l ∧ (a = none → l.length = 0 ∧ cap = 0) := by
  rcases open_slice Tryd.underlying22 hy with ⟨hcs, _⟩ | ⟨x, len, cap, mm, n, D, Pl, hcs, _, hl, hm, hmm, hx, hi⟩
  · exact ⟨none, 0, [], by simpa using hcs, ⟨fun j hj => absurd hj (by simp), fun j hj => absurd hj (by simp), Nat.zero_le _⟩, fun _ => ⟨rfl, rfl⟩⟩
  · simp only [if_true] at hmm
    subst hmm
    rw [cellsOp] at hi hx
    have each : ∀ i, i < len → ∃ r : OpR, (∀ c u, r.cs[c]? = some u → W.cell? (x.add (i * 11 + c)) = some u) ∧ OpAt W r.o r.a r.cap := by
      intro i hil
      obtain ⟨cs', hc, ht⟩ := hi i (by omega)
      obtain ⟨o, a, cp, rfl, ho⟩ := op_open ht (fun k hk => hsz k (by
        rw [hx]
        simp only [DataW.weights, Tryd.underlying22, List.mem_cons, List.mem_append]
        exact .inr (.inl (weights_mem _ _ _ (D i) k (List.mem_map.2 ⟨i, List.mem_range.2 hil, rfl⟩) hk))))
      obtain ⟨_, hcl, hat⟩ := World.cells?_some hc
      refine ⟨⟨o, a, cp⟩, fun c u hu => ?_, ho⟩
      have hc11 : c < 11 := by
        have := (List.getElem?_eq_some_iff.1 hu).1
        exact this
      have := hat c hc11
      rw [Go.Deep.add_add] at this
      rw [this]
      exact hu
    obtain ⟨l, hll, hle, hlo⟩ : ∃ l : List OpR, l.length = len ∧ (∀ i (h : i < l.length), ∀ c u, (l[i].cs)[c]? = some u → W.cell? (x.add (i * 11 + c)) = some u) ∧ (∀ i (h : i < l.length), OpAt W l[i].o l[i].a l[i].cap) := by
      clear hcs hl hm hx hi
      induction len with
      | zero => exact ⟨[], rfl, fun i h => absurd h (by simp), fun i h => absurd h (by simp)⟩
      | succ k ih =>
        obtain ⟨l, h1, h2, h3⟩ := ih (fun i hi => each i (by omega))
        obtain ⟨e, he, heo⟩ := each k (by omega)
        refine ⟨l ++ [e], by simp [h1], fun i hi => ?_, fun i hi => ?_⟩
        all_goals
          by_cases hik : i < l.length
          · rw [List.getElem_append_left hik]; first | exact h2 i hik | exact h3 i hik
          · have : i = l.length := by simp at hi; omega
            subst this
            rw [List.getElem_append_right (Nat.le_refl _)]
            first
              | simpa [h1] using he
              | simpa [h1] using heo
    refine ⟨some x, mm, l, by rw [hll]; simpa using hcs, ⟨fun j hj => ?_, hlo, ?_⟩, fun h => by cases h⟩
    · have z0 := hle 0 (by omega) 0 _ rfl
      have hb := hle j hj
      obtain ⟨b, off, spot⟩ := x
      have hspot : spot = none := by simpa [Addr.add] using World.cell?_spot z0
      subst hspot
      refine ⟨b, off, rfl, World.block_lt_of_cell? W _ z0, fun c u hu => ?_⟩
      have := hb c u hu
      rw [Addr.add_lit, ← Nat.add_assoc] at this
      exact this
    · have hw := hsz ((len + (mm - len)) * Tryd.prog.bytesOf 36) (by rw [hx]; simp [DataW.weights, Tryd.underlying22])
      rw [bytesOp] at hw
      simp only [reachBytes] at hw
      unfold BIG
      omega
end
end Go.Proofs.YtnkinbobnhdpaaaDoor
