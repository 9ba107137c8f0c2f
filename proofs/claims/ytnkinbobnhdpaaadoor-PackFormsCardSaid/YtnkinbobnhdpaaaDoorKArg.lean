/- What the argument of the laws of layer 12 holds. -/
import Derived.Test.YtnkinbobnhdpaaaDoorLArgs
import Derived.Test.YtnkinbobnhdpaaaDoorKTkM
import Derived.SliceStrings
namespace Go.Proofs.YtnkinbobnhdpaaaDoor
open Go.ChangeShapes Go.WideShapes Go.ChangeAt Go.RowKit Go.Deep

theorem cellsMsg : Tryd.prog.cellsOf 53 = 7 := by kernel_rfl
theorem bytesMsg : Tryd.prog.bytesOf 53 = 72 := by kernel_rfl
theorem bytesStr : Tryd.prog.bytesOf 9 = 16 := by kernel_rfl
theorem cellsOps12 : Tryd.prog.cellsOf 22 = 1 := by kernel_rfl
theorem cellsInts12 : Tryd.prog.cellsOf 24 = 1 := by kernel_rfl
theorem cellsMsgs : Tryd.prog.cellsOf 27 = 1 := by kernel_rfl
theorem cellsStrs : Tryd.prog.cellsOf 28 = 1 := by kernel_rfl
theorem cellsAsk4 : Tryd.prog.cellsOf 26 = 3 := by kernel_rfl
theorem cellsAsk12 : Tryd.prog.cellsOf 30 = 5 := by kernel_rfl
theorem cellsErr : Tryd.prog.cellsOf 38 = 1 := by kernel_rfl
structure StrsAt (w : World) (a : Option Addr) (ss : List ByteArray) : Prop where
  cell : ∀ j (h : j < ss.length), ∃ b off, a = some ⟨b, off, none⟩ ∧ b < w.heap.size ∧ w.cell? ⟨b, off + j, none⟩ = some (.string ss[j])
  len : ss.length ≤ BIG
  size : ∀ j (h : j < ss.length), ss[j].size ≤ BIG
theorem StrsAt.below {w w' : World} {a : Option Addr} {ss : List ByteArray} (h : StrsAt w a ss) (hb : Below w.heap.size w w') : StrsAt w' a ss :=
  ⟨fun j hj => by obtain ⟨b, off, h1, h2, h3⟩ := h.cell j hj; exact ⟨b, off, h1, Nat.lt_of_lt_of_le h2 hb.size, (hb.cell (p := ⟨b, off + j, none⟩) h2).trans h3⟩, h.len, h.size⟩
/-- a message, and where its ops lie -/
structure MsR where
  m : MsD
  a : Option Addr
  cap : Nat
  L : List OpR
def MsR.cs (r : MsR) : List Value := [.int .i64 r.m.kind, .int .i64 r.m.site, .int .i64 r.m.nonce, .int .i64 r.m.known, .int .i64 r.m.seq, .int .i64 r.m.err, .slice r.a r.L.length r.cap]
structure MsgsAt (w : World) (a : Option Addr) (l : List MsR) : Prop where
  cell : ∀ j (h : j < l.length), ∃ b off, a = some ⟨b, off, none⟩ ∧ b < w.heap.size ∧ (∀ c u, (l[j].cs)[c]? = some u → w.cell? ⟨b, off + j * 7 + c, none⟩ = some u)
  msg : ∀ j (h : j < l.length), MsIn w l[j].m l[j].a l[j].L
  len : l.length ≤ BIG
theorem MsgsAt.below {w w' : World} {a : Option Addr} {l : List MsR} (h : MsgsAt w a l) (hb : Below w.heap.size w w') : MsgsAt w' a l :=
  ⟨fun j hj => by
    obtain ⟨b, off, h1, h2, h3⟩ := h.cell j hj
    exact ⟨b, off, h1, Nat.lt_of_lt_of_le h2 hb.size, fun c u hu => (hb.cell (p := ⟨b, off + j * 7 + c, none⟩) h2).trans (h3 c u hu)⟩, fun j hj => (h.msg j hj).below hb, h.len⟩
theorem MsgsAt.cells {w : World} {a : Option Addr} {l : List MsR} (h : MsgsAt w a l) (j : Nat) (hj : j < l.length) : ∃ b off, a = some ⟨b, off, none⟩ ∧ b < w.heap.size ∧
    w.cell? ⟨b, off + j * 7, none⟩ = some (.int .i64 l[j].m.kind) ∧ w.cell? ⟨b, off + j * 7 + 1, none⟩ = some (.int .i64 l[j].m.site) ∧ w.cell? ⟨b, off + j * 7 + 2, none⟩ = some (.int .i64 l[j].m.nonce) ∧
    w.cell? ⟨b, off + j * 7 + 3, none⟩ = some (.int .i64 l[j].m.known) ∧ w.cell? ⟨b, off + j * 7 + 4, none⟩ = some (.int .i64 l[j].m.seq) ∧ w.cell? ⟨b, off + j * 7 + 5, none⟩ = some (.int .i64 l[j].m.err) ∧
    w.cell? ⟨b, off + j * 7 + 6, none⟩ = some (.slice l[j].a l[j].L.length l[j].cap) := by
  obtain ⟨b, off, h1, h2, h3⟩ := h.cell j hj
  exact ⟨b, off, h1, h2, h3 0 _ rfl, h3 1 _ rfl, h3 2 _ rfl, h3 3 _ rfl, h3 4 _ rfl, h3 5 _ rfl, h3 6 _ rfl⟩

section
variable {H : Type} {enc : TypeId × Value → H} {W : World}
set_option maxRecDepth 100000 in
theorem msg_open {y : DataW H × List MemPlace} {m : Nat} {cs : List Value} (h : DataW.trod enc Tryd.prog W 0 (fun _ => true) true m 53 cs = some y) (hsz : ∀ n ∈ y.1.weights Tryd.prog 53, n ≤ reachBytes) :
    ∃ (r : MsR), cs = r.cs ∧ MsIn W r.m r.a r.L := by
  obtain ⟨xs, n, rfl, hy, hl, hxl, hf⟩ := DataW.trod_struct Tryd.underlying53 h
  rw [cellsMsg] at hl
  obtain ⟨c0, c1, c2, c3, c4, c5, c6, rfl⟩ : ∃ c0 c1 c2 c3 c4 c5 c6, cs = [c0, c1, c2, c3, c4, c5, c6] := by
    match cs, hl with
    | [c0, c1, c2, c3, c4, c5, c6], _ => exact ⟨c0, c1, c2, c3, c4, c5, c6, rfl⟩
  match xs, hxl with
  | [x0, x1, x2, x3, x4, x5, x6], _ =>
    have f0 : DataW.trod enc Tryd.prog W 0 (fun _ => true) true n 3 [c0] = some x0 := by simpa [cellsInt] using hf 0 _ rfl
    have f1 : DataW.trod enc Tryd.prog W 0 (fun _ => true) true n 3 [c1] = some x1 := by simpa [cellsInt] using hf 1 _ rfl
    have f2 : DataW.trod enc Tryd.prog W 0 (fun _ => true) true n 3 [c2] = some x2 := by simpa [cellsInt] using hf 2 _ rfl
    have f3 : DataW.trod enc Tryd.prog W 0 (fun _ => true) true n 3 [c3] = some x3 := by simpa [cellsInt] using hf 3 _ rfl
    have f4 : DataW.trod enc Tryd.prog W 0 (fun _ => true) true n 3 [c4] = some x4 := by simpa [cellsInt] using hf 4 _ rfl
    have f5 : DataW.trod enc Tryd.prog W 0 (fun _ => true) true n 38 [c5] = some x5 := by simpa [cellsErr] using hf 5 _ rfl
    have f6 : DataW.trod enc Tryd.prog W 0 (fun _ => true) true n 22 [c6] = some x6 := by simpa [cellsOps12] using hf 6 _ rfl
    have hw6 : ∀ k ∈ x6.1.weights Tryd.prog 22, k ≤ reachBytes := fun k hk => hsz k (by rw [hy]; simp [DataW.weights, DataW.weightsEach, Tryd.underlying53, hk])
    obtain ⟨z0, h0, _, _⟩ := DataW.trod_int Tryd.underlying3 f0
    obtain ⟨z1, h1, _, _⟩ := DataW.trod_int Tryd.underlying3 f1
    obtain ⟨z2, h2, _, _⟩ := DataW.trod_int Tryd.underlying3 f2
    obtain ⟨z3, h3, _, _⟩ := DataW.trod_int Tryd.underlying3 f3
    obtain ⟨z4, h4, _, _⟩ := DataW.trod_int Tryd.underlying3 f4
    obtain ⟨z5, h5, _, _⟩ := DataW.trod_int Tryd.underlying38 f5
    obtain ⟨a, cap, l, h6, k6, _⟩ := ops_at f6 hw6
    simp only [List.cons.injEq, and_true] at h0 h1 h2 h3 h4 h5
    subst h0 h1 h2 h3 h4 h5 h6
    exact ⟨⟨⟨z0, z1, z2, z3, z4, z5, OpR.os l⟩, a, cap, l⟩, rfl, k6, rfl⟩
theorem msgs_at {c0 : Value} {y : DataW H × List MemPlace} {m : Nat}
    (hy : DataW.trod enc Tryd.prog W 0 (fun _ => true) true m 27 [c0] = some y) (hsz : ∀ n ∈ y.1.weights Tryd.prog 27, n ≤ reachBytes) :
    ∃ (a : Option Addr) (cap : Nat) (l : List MsR), c0 = .slice a l.length cap ∧ MsgsAt W a l ∧ (a = none → l.length = 0 ∧ cap = 0) := by
  rcases open_slice Tryd.underlying27 hy with ⟨hcs, _⟩ | ⟨x, len, cap, mm, n, D, Pl, hcs, _, hl, hm, hmm, hx, hi⟩
  · exact ⟨none, 0, [], by simpa using hcs, ⟨fun j hj => absurd hj (by simp), fun j hj => absurd hj (by simp), Nat.zero_le _⟩, fun _ => ⟨rfl, rfl⟩⟩
  · simp only [if_true] at hmm
    subst hmm
    rw [cellsMsg] at hi hx
    have each : ∀ i, i < len → ∃ r : MsR, (∀ c u, r.cs[c]? = some u → W.cell? (x.add (i * 7 + c)) = some u) ∧ MsIn W r.m r.a r.L := by
      intro i hil
      obtain ⟨cs', hc, ht⟩ := hi i (by omega)
      obtain ⟨r, rfl, ho⟩ := msg_open ht (fun k hk => hsz k (by
        rw [hx]
        simp only [DataW.weights, Tryd.underlying27, List.mem_cons, List.mem_append]
        exact .inr (.inl (weights_mem _ _ _ (D i) k (List.mem_map.2 ⟨i, List.mem_range.2 hil, rfl⟩) hk))))
      obtain ⟨_, hcl, hat⟩ := World.cells?_some hc
      refine ⟨r, fun c u hu => ?_, ho⟩
      have hc7 : c < 7 := by
        have := (List.getElem?_eq_some_iff.1 hu).1
        exact this
      have := hat c hc7
      rw [Go.Deep.add_add] at this
      rw [this]
      exact hu
    obtain ⟨l, hll, hle, hlo⟩ : ∃ l : List MsR, l.length = len ∧ (∀ i (h : i < l.length), ∀ c u, (l[i].cs)[c]? = some u → W.cell? (x.add (i * 7 + c)) = some u) ∧ (∀ i (h : i < l.length), MsIn W l[i].m l[i].a l[i].L) := by
      clear hcs hl hm hx hi
      induction len with
      | zero => exact ⟨[], rfl, fun i h => absurd h (by simp), fun i h => absurd h (by simp)⟩
      | succ k ih =>
        obtain ⟨l, h1, h2, h3⟩ := ih (fun i hi => each i (by omega))
        obtain ⟨e, he, heo⟩ := each k (by omega)
        refine ⟨l ++ [e], by simp [h1], fun i hi => ?_, fun i hi => ?_⟩
        all_goals
          by_cases hik : i < l.length
          · rw [List.getElem_append_left hik]; first | exact h2 i hik | exact h3 i hik
          · have : i = l.length := by simp at hi; omega
            subst this
            rw [List.getElem_append_right (Nat.le_refl _)]
            first
              | simpa [h1] using he
              | simpa [h1] using heo
    refine ⟨some x, mm, l, by rw [hll]; simpa using hcs, ⟨fun j hj => ?_, hlo, ?_⟩, fun h => by cases h⟩
    · have z0 := hle 0 (by omega) 0 _ rfl
      have hb := hle j hj
      obtain ⟨b, off, spot⟩ := x
      have hspot : spot = none := by simpa [Addr.add] using World.cell?_spot z0
      subst hspot
      refine ⟨b, off, rfl, World.block_lt_of_cell? W _ z0, fun c u hu => ?_⟩
      have := hb c u hu
      rw [Addr.add_lit, ← Nat.add_assoc] at this
      exact this
    · have hw := hsz ((len + (mm - len)) * Tryd.prog.bytesOf 53) (by rw [hx]; simp [DataW.weights, Tryd.underlying27])
      rw [bytesMsg] at hw
      simp only [reachBytes] at hw
      unfold BIG
      omega
end
theorem strs_weights {H : Type} (P : Program) (e : TypeId) : ∀ (l : List ByteArray) (s : ByteArray), s ∈ l → s.size ∈ DataW.weightsAll (H := H) P e (strs l) := by
  intro l
  induction l with
  | nil => intro s h; cases h
  | cons x r ih =>
    intro s h
    rw [show strs (x :: r) = (DataW.lit (H := H) (.string x.data.toList)) :: strs r from rfl, DataW.weightsAll, List.mem_append]
    rcases List.mem_cons.1 h with rfl | h
    · left; simp [DataW.weights]
    · right; exact ih s h

theorem strs_at {H : Type} {enc : TypeId × Value → H} {W : World} {c0 : Value} {y : DataW H × List MemPlace} {m : Nat}
    (hy : DataW.trod enc Tryd.prog W 0 (fun _ => true) true m 28 [c0] = some y) (hsz : ∀ n ∈ y.1.weights Tryd.prog 28, n ≤ reachBytes) :
    ∃ (a : Option Addr) (cap : Nat) (ss : List ByteArray), c0 = .slice a ss.length cap ∧ StrsAt W a ss ∧ (a = none → ss.length = 0 ∧ cap = 0) := by
  rcases open_strings Tryd.underlying28 Tryd.underlying9 (by kernel_rfl) hy with ⟨hcs, _⟩ | ⟨x, l, c, ss, hcs, _, hl, hm, hz, hx, hcell, hws⟩
  · refine ⟨none, 0, [], by simpa using hcs, ?_⟩
    exact ⟨⟨fun j hj => absurd hj (by simp), Nat.zero_le _, fun j hj => absurd hj (by simp)⟩, fun _ => ⟨rfl, rfl⟩⟩
  · simp at hz
    have hlen : (ss.take l).length = l := by rw [List.length_take]; omega
    refine ⟨some x, c, ss.take l, by rw [hlen]; simpa using hcs, ?_⟩
    have hw := hsz (((strs (H := H) (ss.take l)).length + (strs (H := H) (ss.drop l)).length) * Tryd.prog.bytesOf 9) (by rw [hx]; simp [DataW.weights, Tryd.underlying28])
    refine ⟨⟨fun j hj => ?_, ?_, fun j hj => ?_⟩, fun h => by cases h⟩
    · rw [hlen] at hj
      have h1 := hcell j (by omega)
      have h0 := hcell 0 (by omega)
      obtain ⟨b, off, spot⟩ := x
      have hspot : spot = none := by simpa [Addr.add] using World.cell?_spot h0
      subst hspot
      rw [Addr.add_lit] at h1
      refine ⟨b, off, rfl, World.block_lt_of_cell? W _ h1, ?_⟩
      rw [h1]
      have hjz : j < ss.length := by omega
      simp [hjz]
    · rw [hlen]
      rw [bytesStr] at hw
      simp only [strs, List.length_map, List.length_take, List.length_drop, reachBytes] at hw
      unfold BIG
      omega
    · have := hsz _ (by rw [hx]; simp only [DataW.weights, Tryd.underlying28]; exact List.mem_cons_of_mem _ (List.mem_append_left _ (strs_weights Tryd.prog 9 (ss.take l) _ (List.getElem_mem hj))))
      unfold BIG
      unfold reachBytes at this
      exact this


/-- the statement's argument -/
structure PAsk where
  o : AskD
  ms : List MsR
  am : Option Addr
  cm : Nat
  ss : List ByteArray
  as_ : Option Addr
  cs_ : Nat
def PAsk.cs (p : PAsk) : List Value := [.slice p.o.ao p.o.o.length p.o.co, .slice p.o.ae p.o.e.length p.o.ce, .slice p.o.an p.o.n.length p.o.cn, .slice p.am p.ms.length p.cm, .slice p.as_ p.ss.length p.cs_]
structure PAskAt (w : World) (p : PAsk) : Prop where
  o : AskAt w p.o
  m : MsgsAt w p.am p.ms
  s : StrsAt w p.as_ p.ss
theorem PAskAt.below {w w' : World} {p : PAsk} (h : PAskAt w p) (hb : Below w.heap.size w w') : PAskAt w' p := ⟨h.o.below hb, h.m.below hb, h.s.below hb⟩
section
variable {H : Type} {enc : TypeId × Value → H} {W : World}
set_option maxRecDepth 100000 in
theorem ask4_open {y : DataW H × List MemPlace} {m : Nat} {cs : List Value} (h : DataW.trod enc Tryd.prog W 0 (fun _ => true) true m 26 cs = some y) (hsz : ∀ n ∈ y.1.weights Tryd.prog 26, n ≤ reachBytes) :
    ∃ p : AskD, cs = [.slice p.ao p.o.length p.co, .slice p.ae p.e.length p.ce, .slice p.an p.n.length p.cn] ∧ AskAt W p := by
  obtain ⟨xs, n, rfl, hy, hl, hxl, hf⟩ := DataW.trod_struct Tryd.underlying26 h
  rw [cellsAsk4] at hl
  obtain ⟨c0, c1, c2, rfl⟩ : ∃ c0 c1 c2, cs = [c0, c1, c2] := by
    match cs, hl with
    | [c0, c1, c2], _ => exact ⟨c0, c1, c2, rfl⟩
  match xs, hxl with
  | [x0, x1, x2], _ =>
    have f0 : DataW.trod enc Tryd.prog W 0 (fun _ => true) true n 22 [c0] = some x0 := by simpa [cellsOps12] using hf 0 _ rfl
    have f1 : DataW.trod enc Tryd.prog W 0 (fun _ => true) true n 23 [c1] = some x1 := by simpa [cellsElems] using hf 1 _ rfl
    have f2 : DataW.trod enc Tryd.prog W 0 (fun _ => true) true n 24 [c2] = some x2 := by simpa [cellsInts12] using hf 2 _ rfl
    have w0 : ∀ k ∈ x0.1.weights Tryd.prog 22, k ≤ reachBytes := fun k hk => hsz k (by rw [hy]; simp [DataW.weights, DataW.weightsEach, Tryd.underlying26, hk])
    have w1 : ∀ k ∈ x1.1.weights Tryd.prog 23, k ≤ reachBytes := fun k hk => hsz k (by rw [hy]; simp [DataW.weights, DataW.weightsEach, Tryd.underlying26, hk])
    have w2 : ∀ k ∈ x2.1.weights Tryd.prog 24, k ≤ reachBytes := fun k hk => hsz k (by rw [hy]; simp [DataW.weights, DataW.weightsEach, Tryd.underlying26, hk])
    obtain ⟨a0, p0, l0, h0, k0, _⟩ := ops_at f0 w0
    obtain ⟨a1, p1, l1, h1, k1, m1, _⟩ := elems_at f1 w1
    obtain ⟨a2, p2, l2, h2, k2, m2, _⟩ := nums_at f2 w2
    subst h0 h1 h2
    exact ⟨⟨l0, l1, l2, a0, a1, a2, p0, p1, p2⟩, rfl, k0, k1, m1, k2, m2⟩
set_option maxRecDepth 100000 in
theorem ask_open {y : DataW H × List MemPlace} {m : Nat} {cs : List Value} (h : DataW.trod enc Tryd.prog W 0 (fun _ => true) true m 30 cs = some y) (hsz : ∀ n ∈ y.1.weights Tryd.prog 30, n ≤ reachBytes) :
    ∃ p : PAsk, cs = p.cs ∧ PAskAt W p := by
  obtain ⟨xs, n, rfl, hy, hl, hxl, hf⟩ := DataW.trod_struct Tryd.underlying30 h
  rw [cellsAsk12] at hl
  obtain ⟨c0, c1, c2, c3, c4, rfl⟩ : ∃ c0 c1 c2 c3 c4, cs = [c0, c1, c2, c3, c4] := by
    match cs, hl with
    | [c0, c1, c2, c3, c4], _ => exact ⟨c0, c1, c2, c3, c4, rfl⟩
  match xs, hxl with
  | [x0, x1, x2], _ =>
    have f0 : DataW.trod enc Tryd.prog W 0 (fun _ => true) true n 26 [c0, c1, c2] = some x0 := by simpa [cellsAsk4] using hf 0 _ rfl
    have f1 : DataW.trod enc Tryd.prog W 0 (fun _ => true) true n 27 [c3] = some x1 := by simpa [cellsMsgs] using hf 1 _ rfl
    have f2 : DataW.trod enc Tryd.prog W 0 (fun _ => true) true n 28 [c4] = some x2 := by simpa [cellsStrs] using hf 2 _ rfl
    have w0 : ∀ k ∈ x0.1.weights Tryd.prog 26, k ≤ reachBytes := fun k hk => hsz k (by rw [hy]; simp [DataW.weights, DataW.weightsEach, Tryd.underlying30, hk])
    have w1 : ∀ k ∈ x1.1.weights Tryd.prog 27, k ≤ reachBytes := fun k hk => hsz k (by rw [hy]; simp [DataW.weights, DataW.weightsEach, Tryd.underlying30, hk])
    have w2 : ∀ k ∈ x2.1.weights Tryd.prog 28, k ≤ reachBytes := fun k hk => hsz k (by rw [hy]; simp [DataW.weights, DataW.weightsEach, Tryd.underlying30, hk])
    obtain ⟨p0, h0, k0⟩ := ask4_open f0 w0
    obtain ⟨a1, p1, l1, h1, k1, _⟩ := msgs_at f1 w1
    obtain ⟨a2, p2, l2, h2, k2, _⟩ := strs_at f2 w2
    simp only [List.cons.injEq, and_true] at h0
    obtain ⟨rfl, rfl, rfl⟩ := h0
    subst h1 h2
    exact ⟨⟨p0, l1, a1, p1, l2, a2, p2⟩, rfl, k0, k1, k2⟩
end
end Go.Proofs.YtnkinbobnhdpaaaDoor
