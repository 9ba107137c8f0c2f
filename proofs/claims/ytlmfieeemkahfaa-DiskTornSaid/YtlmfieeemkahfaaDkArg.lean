/- what the argument of the laws of layer 14 holds -/
import Derived.Test.YtlmfieeemkahfaaDkY
import Derived.Test.YtlmfieeemkahfaaDkWa
import Derived.ProofKit
import Derived.OpenShut
import Derived.SizedLaws
import Derived.SliceStrings
import Derived.Lib.SmallJoins
namespace Go.Proofs.Ytlmfieeemkahfaa
open Go.ChangeShapes Go.WideShapes Go.ChangeAt Go.RowKit Go.Deep

theorem cellsInt14 : Try.prog.cellsOf 3 = 1 := by kernel_rfl
theorem cellsStr14 : Try.prog.cellsOf 9 = 1 := by kernel_rfl
theorem bytesStr : Try.prog.bytesOf 9 = 16 := by kernel_rfl
theorem bytesInt14 : Try.prog.bytesOf 3 = 8 := by kernel_rfl
theorem cellsInts14 : Try.prog.cellsOf 42 = 1 := by kernel_rfl
theorem cellsStrs14 : Try.prog.cellsOf 22 = 1 := by kernel_rfl
theorem cellsSecs14 : Try.prog.cellsOf 23 = 1 := by kernel_rfl
theorem cellsActs14 : Try.prog.cellsOf 26 = 1 := by kernel_rfl
theorem cellsSe : Try.prog.cellsOf 73 = 2 := by kernel_rfl
theorem bytesSe : Try.prog.bytesOf 73 = 24 := by kernel_rfl
theorem cellsAct : Try.prog.cellsOf 44 = 4 := by kernel_rfl
theorem bytesAct : Try.prog.bytesOf 44 = 56 := by kernel_rfl
theorem cellsDisk : Try.prog.cellsOf 25 = 2 := by kernel_rfl
theorem cellsScript : Try.prog.cellsOf 28 = 4 := by kernel_rfl
def NB (l : List Int) : Prop := ∀ x ∈ l, x ≤ 9223372036854775807
/-- an act, and where its numbers lie -/
structure AcD where
  do_ : Int
  n : Int
  s : ByteArray
  ks : List Int
  ka : Option Addr
  kc : Nat
def AcD.cs (p : AcD) : List Value := [.int .i64 p.do_, .int .i64 p.n, .string p.s, .slice p.ka p.ks.length p.kc]
def AcD.v (p : AcD) : Value := .agg #[.int .i64 p.do_, .int .i64 p.n, .string p.s, .slice p.ka p.ks.length p.kc]
structure AcIn (w : World) (p : AcD) : Prop where
  size : p.s.size ≤ BIG
  ks : NumsAt w p.ka p.ks
  nb : NB p.ks
theorem AcIn.below {w w' : World} {p : AcD} (h : AcIn w p) (hb : Below w.heap.size w w') : AcIn w' p := ⟨h.size, h.ks.below hb, h.nb⟩
structure ActsAt (w : World) (a : Option Addr) (l : List AcD) : Prop where
  cell : ∀ j (h : j < l.length), ∃ b off, a = some ⟨b, off, none⟩ ∧ b < w.heap.size ∧ (∀ c u, (l[j].cs)[c]? = some u → w.cell? ⟨b, off + j * 4 + c, none⟩ = some u)
  ins : ∀ j (h : j < l.length), AcIn w l[j]
  len : l.length ≤ BIG
theorem ActsAt.below {w w' : World} {a : Option Addr} {l : List AcD} (h : ActsAt w a l) (hb : Below w.heap.size w w') : ActsAt w' a l :=
  ⟨fun j hj => by
    obtain ⟨b, off, h1, h2, h3⟩ := h.cell j hj
    exact ⟨b, off, h1, Nat.lt_of_lt_of_le h2 hb.size, fun c u hu => (hb.cell (p := ⟨b, off + j * 4 + c, none⟩) h2).trans (h3 c u hu)⟩, fun j hj => (h.ins j hj).below hb, h.len⟩
theorem ActsAt.cells {w : World} {a : Option Addr} {l : List AcD} (h : ActsAt w a l) (j : Nat) (hj : j < l.length) : ∃ b off, a = some ⟨b, off, none⟩ ∧ b < w.heap.size ∧
    w.cell? ⟨b, off + j * 4, none⟩ = some (.int .i64 l[j].do_) ∧ w.cell? ⟨b, off + j * 4 + 1, none⟩ = some (.int .i64 l[j].n) ∧ w.cell? ⟨b, off + j * 4 + 2, none⟩ = some (.string l[j].s) ∧ w.cell? ⟨b, off + j * 4 + 3, none⟩ = some (.slice l[j].ka l[j].ks.length l[j].kc) := by
  obtain ⟨b, off, h1, h2, h3⟩ := h.cell j hj
  exact ⟨b, off, h1, h2, h3 0 _ rfl, h3 1 _ rfl, h3 2 _ rfl, h3 3 _ rfl⟩
def SeD.cl (r : SeD) : List Value := [.int .i64 r.pl, .string r.text]
def SeIn (_w : World) (r : SeD) : Prop := r.text.size ≤ BIG
/-- a row of sectors as it is opened -/
structure SeRowAt (w : World) (a : Option Addr) (l : List SeD) : Prop where
  cell : ∀ j (h : j < l.length), ∃ b off, a = some ⟨b, off, none⟩ ∧ b < w.heap.size ∧ (∀ c u, (l[j].cl)[c]? = some u → w.cell? ⟨b, off + j * 2 + c, none⟩ = some u)
  size : ∀ j (h : j < l.length), SeIn w l[j]
  len : l.length ≤ BIG
section
variable {H : Type}
theorem weights_mem (P : Program) (e : TypeId) : ∀ (ds : List (DataW H)) (d : DataW H) (n : Nat), d ∈ ds → n ∈ d.weights P e → n ∈ DataW.weightsAll P e ds := by
  intro ds
  induction ds with
  | nil => intro d n h; cases h
  | cons x r ih =>
    intro d n h hn
    rw [DataW.weightsAll, List.mem_append]
    rcases List.mem_cons.1 h with rfl | h
    · exact .inl hn
    · exact .inr (ih d n h hn)

end
theorem strs_weights {H : Type} (P : Program) (e : TypeId) : ∀ (l : List ByteArray) (s : ByteArray), s ∈ l → s.size ∈ DataW.weightsAll (H := H) P e (strs l) := by
  intro l
  induction l with
  | nil => intro s h; cases h
  | cons x r ih =>
    intro s h
    rw [show strs (x :: r) = (DataW.lit (H := H) (.string x.data.toList)) :: strs r from rfl, DataW.weightsAll, List.mem_append]
    rcases List.mem_cons.1 h with rfl | h
    · left; simp [DataW.weights]
    · right; exact ih s h

theorem strs_at {H : Type} {enc : TypeId × Value → H} {W : World} {c0 : Value} {y : DataW H × List MemPlace} {m : Nat}
    (hy : DataW.trod enc Try.prog W 0 (fun _ => true) true m 22 [c0] = some y) (hsz : ∀ n ∈ y.1.weights Try.prog 22, n ≤ reachBytes) :
    ∃ (a : Option Addr) (cap : Nat) (ss : List ByteArray), c0 = .slice a ss.length cap ∧ StrsAt W a ss ∧ (a = none → ss.length = 0 ∧ cap = 0) := by
  rcases open_strings Try.underlying22 Try.underlying9 (by kernel_rfl) hy with ⟨hcs, _⟩ | ⟨x, l, c, ss, hcs, _, hl, hm, hz, hx, hcell, hws⟩
  · refine ⟨none, 0, [], by simpa using hcs, ?_⟩
    exact ⟨⟨fun j hj => absurd hj (by simp), Nat.zero_le _, fun j hj => absurd hj (by simp)⟩, fun _ => ⟨rfl, rfl⟩⟩
  · simp at hz
    have hlen : (ss.take l).length = l := by rw [List.length_take]; omega
    refine ⟨some x, c, ss.take l, by rw [hlen]; simpa using hcs, ?_⟩
    have hw := hsz (((strs (H := H) (ss.take l)).length + (strs (H := H) (ss.drop l)).length) * Try.prog.bytesOf 9) (by rw [hx]; simp [DataW.weights, Try.underlying22])
    refine ⟨⟨fun j hj => ?_, ?_, fun j hj => ?_⟩, fun h => by cases h⟩
    · rw [hlen] at hj
      have h1 := hcell j (by omega)
      have h0 := hcell 0 (by omega)
      obtain ⟨b, off, spot⟩ := x
      have hspot : spot = none := by simpa [Addr.add] using World.cell?_spot h0
      subst hspot
      rw [Addr.add_lit] at h1
      refine ⟨b, off, rfl, World.block_lt_of_cell? W _ h1, ?_⟩
      rw [h1]
      have hjz : j < ss.length := by omega
      simp [hjz]
    · rw [hlen]
      rw [bytesStr] at hw
      simp only [strs, List.length_map, List.length_take, List.length_drop, reachBytes] at hw
      unfold BIG
      omega
    · have := hsz _ (by rw [hx]; simp only [DataW.weights, Try.underlying22]; exact List.mem_cons_of_mem _ (List.mem_append_left _ (strs_weights Try.prog 9 (ss.take l) _ (List.getElem_mem hj))))
      unfold BIG
      unfold reachBytes at this
      exact this


section
variable {H : Type} {enc : TypeId × Value → H} {W : World}
theorem nums14_at {c0 : Value} {y : DataW H × List MemPlace} {m : Nat}
    (hy : DataW.trod enc Try.prog W 0 (fun _ => true) true m 42 [c0] = some y) (hsz : ∀ n ∈ y.1.weights Try.prog 42, n ≤ reachBytes) :
    ∃ (a : Option Addr) (cap : Nat) (zs : List Int), c0 = .slice a zs.length cap ∧ NumsAt W a zs ∧ NB zs := by
  rcases open_ints Try.underlying42 Try.underlying3 (by kernel_rfl) hy with ⟨hcs, _⟩ | ⟨x, l, c, zs, hcs, _, hl, hm, hz, hx, hcell, hwz⟩
  · exact ⟨none, 0, [], by simpa using hcs, ⟨fun j hj => absurd hj (by simp), Nat.zero_le _⟩, fun x hx => by cases hx⟩
  · simp at hz
    have hlen : (zs.take l).length = l := by rw [List.length_take]; omega
    have hw := hsz (((lits (H := H) .i64 (zs.take l)).length + (lits (H := H) .i64 (zs.drop l)).length) * Try.prog.bytesOf 3) (by rw [hx]; simp [DataW.weights, Try.underlying42])
    refine ⟨some x, c, zs.take l, by rw [hlen]; simpa using hcs, ⟨fun j hj => ?_, ?_⟩, fun z hz2 => ?_⟩
    · rw [hlen] at hj
      have h1 := hcell j (by omega)
      have h0 := hcell 0 (by omega)
      obtain ⟨b, off, spot⟩ := x
      have hspot : spot = none := by simpa [Addr.add] using World.cell?_spot h0
      subst hspot
      rw [Addr.add_lit] at h1
      refine ⟨b, off, rfl, World.block_lt_of_cell? W _ h1, ?_⟩
      rw [h1]
      have hjz : j < zs.length := by omega
      simp [hjz]
    · rw [hlen]
      rw [bytesInt14] at hw
      simp only [lits, List.length_map, List.length_take, List.length_drop, reachBytes] at hw
      unfold BIG
      omega
    · have h2 := hwz z (List.mem_of_mem_take hz2)
      simp [Lit.wf] at h2
      trace_state
      omega
set_option maxRecDepth 100000 in
theorem se_open {y : DataW H × List MemPlace} {m : Nat} {cs : List Value} (h : DataW.trod enc Try.prog W 0 (fun _ => true) true m 73 cs = some y) (hsz : ∀ n ∈ y.1.weights Try.prog 73, n ≤ reachBytes) :
    ∃ (r : SeD), cs = r.cl ∧ SeIn W r := by
  obtain ⟨xs, n, rfl, hy, hl, hxl, hf⟩ := DataW.trod_struct Try.underlying73 h
  rw [cellsSe] at hl
  obtain ⟨c0, c1, rfl⟩ : ∃ c0 c1, cs = [c0, c1] := by
    match cs, hl with
    | [c0, c1], _ => exact ⟨c0, c1, rfl⟩
  match xs, hxl with
  | [x0, x1], _ =>
    have f0 : DataW.trod enc Try.prog W 0 (fun _ => true) true n 3 [c0] = some x0 := by simpa [cellsInt14] using hf 0 _ rfl
    have f1 : DataW.trod enc Try.prog W 0 (fun _ => true) true n 9 [c1] = some x1 := by simpa [cellsStr14] using hf 1 _ rfl
    have hw1 : ∀ k ∈ x1.1.weights Try.prog 9, k ≤ reachBytes := fun k hk => hsz k (by rw [hy]; simp [DataW.weights, DataW.weightsEach, Try.underlying73, hk])
    obtain ⟨z0, h0, _, _⟩ := DataW.trod_int Try.underlying3 f0
    obtain ⟨t1, h1, g1, _⟩ := DataW.trod_string Try.underlying9 f1
    simp only [List.cons.injEq, and_true] at h0 h1
    subst h0 h1
    refine ⟨⟨z0, t1⟩, rfl, ?_⟩
    have := hw1 t1.size (by rw [g1]; simp [DataW.weights])
    unfold reachBytes at this
    exact this
set_option maxRecDepth 100000 in
theorem act_open {y : DataW H × List MemPlace} {m : Nat} {cs : List Value} (h : DataW.trod enc Try.prog W 0 (fun _ => true) true m 44 cs = some y) (hsz : ∀ n ∈ y.1.weights Try.prog 44, n ≤ reachBytes) :
    ∃ (r : AcD), cs = r.cs ∧ AcIn W r := by
  obtain ⟨xs, n, rfl, hy, hl, hxl, hf⟩ := DataW.trod_struct Try.underlying44 h
  rw [cellsAct] at hl
  obtain ⟨c0, c1, c2, c3, rfl⟩ : ∃ c0 c1 c2 c3, cs = [c0, c1, c2, c3] := by
    match cs, hl with
    | [c0, c1, c2, c3], _ => exact ⟨c0, c1, c2, c3, rfl⟩
  match xs, hxl with
  | [x0, x1, x2, x3], _ =>
    have f0 : DataW.trod enc Try.prog W 0 (fun _ => true) true n 3 [c0] = some x0 := by simpa [cellsInt14] using hf 0 _ rfl
    have f1 : DataW.trod enc Try.prog W 0 (fun _ => true) true n 3 [c1] = some x1 := by simpa [cellsInt14] using hf 1 _ rfl
    have f2 : DataW.trod enc Try.prog W 0 (fun _ => true) true n 9 [c2] = some x2 := by simpa [cellsStr14] using hf 2 _ rfl
    have f3 : DataW.trod enc Try.prog W 0 (fun _ => true) true n 42 [c3] = some x3 := by simpa [cellsInts14] using hf 3 _ rfl
    have hw2 : ∀ k ∈ x2.1.weights Try.prog 9, k ≤ reachBytes := fun k hk => hsz k (by rw [hy]; simp [DataW.weights, DataW.weightsEach, Try.underlying44, hk])
    have hw3 : ∀ k ∈ x3.1.weights Try.prog 42, k ≤ reachBytes := fun k hk => hsz k (by rw [hy]; simp [DataW.weights, DataW.weightsEach, Try.underlying44, hk])
    obtain ⟨z0, h0, _, _⟩ := DataW.trod_int Try.underlying3 f0
    obtain ⟨z1, h1, _, _⟩ := DataW.trod_int Try.underlying3 f1
    obtain ⟨t2, h2, g2, _⟩ := DataW.trod_string Try.underlying9 f2
    obtain ⟨a3, k3, l3, h3, n3, b3⟩ := nums14_at f3 hw3
    simp only [List.cons.injEq, and_true] at h0 h1 h2
    subst h0 h1 h2 h3
    refine ⟨⟨z0, z1, t2, l3, a3, k3⟩, rfl, ?_, n3, b3⟩
    have := hw2 t2.size (by rw [g2]; simp [DataW.weights])
    unfold reachBytes at this
    exact this
theorem seRow_at {c0 : Value} {y : DataW H × List MemPlace} {m : Nat}
    (hy : DataW.trod enc Try.prog W 0 (fun _ => true) true m 23 [c0] = some y) (hsz : ∀ n ∈ y.1.weights Try.prog 23, n ≤ reachBytes) :
    ∃ (a : Option Addr) (cap : Nat) (l : List SeD), c0 = .slice a l.length cap ∧ SeRowAt W a l ∧ (a = none → l.length = 0 ∧ cap = 0) := by
  rcases open_slice Try.underlying23 hy with ⟨hcs, _⟩ | ⟨x, len, cap, mm, n, D, Pl, hcs, _, hl, hm, hmm, hx, hi⟩
  · exact ⟨none, 0, [], by simpa using hcs, ⟨fun j hj => absurd hj (by simp), fun j hj => absurd hj (by simp), Nat.zero_le _⟩, fun _ => ⟨rfl, rfl⟩⟩
  · simp only [if_true] at hmm
    subst hmm
    rw [cellsSe] at hi hx
    have each : ∀ i, i < len → ∃ r : SeD, (∀ c u, r.cl[c]? = some u → W.cell? (x.add (i * 2 + c)) = some u) ∧ SeIn W r := by
      intro i hil
      obtain ⟨cs', hc, ht⟩ := hi i (by omega)
      obtain ⟨r, rfl, ho⟩ := se_open ht (fun k hk => hsz k (by
        rw [hx]
        simp only [DataW.weights, Try.underlying23, List.mem_cons, List.mem_append]
        exact .inr (.inl (weights_mem _ _ _ (D i) k (List.mem_map.2 ⟨i, List.mem_range.2 hil, rfl⟩) hk))))
      obtain ⟨_, hcl, hat⟩ := World.cells?_some hc
      refine ⟨r, fun c u hu => ?_, ho⟩
      have hcn : c < 2 := by
        have := (List.getElem?_eq_some_iff.1 hu).1
        exact this
      have := hat c hcn
      rw [Go.Deep.add_add] at this
      rw [this]
      exact hu
    obtain ⟨l, hll, hle, hlo⟩ : ∃ l : List SeD, l.length = len ∧ (∀ i (h : i < l.length), ∀ c u, (l[i].cl)[c]? = some u → W.cell? (x.add (i * 2 + c)) = some u) ∧ (∀ i (h : i < l.length), SeIn W l[i]) := by
      clear hcs hl hm hx hi
      induction len with
      | zero => exact ⟨[], rfl, fun i h => absurd h (by simp), fun i h => absurd h (by simp)⟩
      | succ k ih =>
        obtain ⟨l, h1, h2, h3⟩ := ih (fun i hi => each i (by omega))
        obtain ⟨e, he, heo⟩ := each k (by omega)
        refine ⟨l ++ [e], by simp [h1], fun i hi => ?_, fun i hi => ?_⟩
        all_goals
          by_cases hik : i < l.length
          · rw [List.getElem_append_left hik]; first | exact h2 i hik | exact h3 i hik
          · have : i = l.length := by simp at hi; omega
            subst this
            rw [List.getElem_append_right (Nat.le_refl _)]
            first
              | simpa [h1] using he
              | simpa [h1] using heo
    refine ⟨some x, mm, l, by rw [hll]; simpa using hcs, ⟨fun j hj => ?_, hlo, ?_⟩, fun h => by cases h⟩
    · have z0 := hle 0 (by omega) 0 _ rfl
      have hb := hle j hj
      obtain ⟨b, off, spot⟩ := x
      have hspot : spot = none := by simpa [Addr.add] using World.cell?_spot z0
      subst hspot
      refine ⟨b, off, rfl, World.block_lt_of_cell? W _ z0, fun c u hu => ?_⟩
      have := hb c u hu
      rw [Addr.add_lit, ← Nat.add_assoc] at this
      exact this
    · have hw := hsz ((len + (mm - len)) * Try.prog.bytesOf 73) (by rw [hx]; simp [DataW.weights, Try.underlying23])
      rw [bytesSe] at hw
      simp only [reachBytes] at hw
      unfold BIG
      omega
theorem acts_at {c0 : Value} {y : DataW H × List MemPlace} {m : Nat}
    (hy : DataW.trod enc Try.prog W 0 (fun _ => true) true m 26 [c0] = some y) (hsz : ∀ n ∈ y.1.weights Try.prog 26, n ≤ reachBytes) :
    ∃ (a : Option Addr) (cap : Nat) (l : List AcD), c0 = .slice a l.length cap ∧ ActsAt W a l ∧ (a = none → l.length = 0 ∧ cap = 0) := by
  rcases open_slice Try.underlying26 hy with ⟨hcs, _⟩ | ⟨x, len, cap, mm, n, D, Pl, hcs, _, hl, hm, hmm, hx, hi⟩
  · exact ⟨none, 0, [], by simpa using hcs, ⟨fun j hj => absurd hj (by simp), fun j hj => absurd hj (by simp), Nat.zero_le _⟩, fun _ => ⟨rfl, rfl⟩⟩
  · simp only [if_true] at hmm
    subst hmm
    rw [cellsAct] at hi hx
    have each : ∀ i, i < len → ∃ r : AcD, (∀ c u, r.cs[c]? = some u → W.cell? (x.add (i * 4 + c)) = some u) ∧ AcIn W r := by
      intro i hil
      obtain ⟨cs', hc, ht⟩ := hi i (by omega)
      obtain ⟨r, rfl, ho⟩ := act_open ht (fun k hk => hsz k (by
        rw [hx]
        simp only [DataW.weights, Try.underlying26, List.mem_cons, List.mem_append]
        exact .inr (.inl (weights_mem _ _ _ (D i) k (List.mem_map.2 ⟨i, List.mem_range.2 hil, rfl⟩) hk))))
      obtain ⟨_, hcl, hat⟩ := World.cells?_some hc
      refine ⟨r, fun c u hu => ?_, ho⟩
      have hcn : c < 4 := by
        have := (List.getElem?_eq_some_iff.1 hu).1
        exact this
      have := hat c hcn
      rw [Go.Deep.add_add] at this
      rw [this]
      exact hu
    obtain ⟨l, hll, hle, hlo⟩ : ∃ l : List AcD, l.length = len ∧ (∀ i (h : i < l.length), ∀ c u, (l[i].cs)[c]? = some u → W.cell? (x.add (i * 4 + c)) = some u) ∧ (∀ i (h : i < l.length), AcIn W l[i]) := by
      clear hcs hl hm hx hi
      induction len with
      | zero => exact ⟨[], rfl, fun i h => absurd h (by simp), fun i h => absurd h (by simp)⟩
      | succ k ih =>
        obtain ⟨l, h1, h2, h3⟩ := ih (fun i hi => each i (by omega))
        obtain ⟨e, he, heo⟩ := each k (by omega)
        refine ⟨l ++ [e], by simp [h1], fun i hi => ?_, fun i hi => ?_⟩
        all_goals
          by_cases hik : i < l.length
          · rw [List.getElem_append_left hik]; first | exact h2 i hik | exact h3 i hik
          · have : i = l.length := by simp at hi; omega
            subst this
            rw [List.getElem_append_right (Nat.le_refl _)]
            first
              | simpa [h1] using he
              | simpa [h1] using heo
    refine ⟨some x, mm, l, by rw [hll]; simpa using hcs, ⟨fun j hj => ?_, hlo, ?_⟩, fun h => by cases h⟩
    · have z0 := hle 0 (by omega) 0 _ rfl
      have hb := hle j hj
      obtain ⟨b, off, spot⟩ := x
      have hspot : spot = none := by simpa [Addr.add] using World.cell?_spot z0
      subst hspot
      refine ⟨b, off, rfl, World.block_lt_of_cell? W _ z0, fun c u hu => ?_⟩
      have := hb c u hu
      rw [Addr.add_lit, ← Nat.add_assoc] at this
      exact this
    · have hw := hsz ((len + (mm - len)) * Try.prog.bytesOf 44) (by rw [hx]; simp [DataW.weights, Try.underlying26])
      rw [bytesAct] at hw
      simp only [reachBytes] at hw
      unfold BIG
      omega
end
theorem SeRowAt.secs {w : World} {a : Option Addr} {l : List SeD} (h : SeRowAt w a l) : SecsAt w a l :=
  ⟨fun j hj => by obtain ⟨b, off, h1, h2, h3⟩ := h.cell j hj; exact ⟨b, off, h1, h2, h3 0 _ rfl, h3 1 _ rfl⟩, h.len, h.size⟩
/-- the statement's argument -/
structure ScD where
  d : DkD
  sa : Option Addr
  sc : Nat
  wa : Option Addr
  wc : Nat
  n : Int
  l : List AcD
  la : Option Addr
  lc : Nat
def ScD.cs (p : ScD) : List Value := [.slice p.sa p.d.safe.length p.sc, .slice p.wa p.d.wait.length p.wc, .int .i64 p.n, .slice p.la p.l.length p.lc]
def ScD.A (p : ScD) : Array Value := #[.slice p.sa p.d.safe.length p.sc, .slice p.wa p.d.wait.length p.wc, .int .i64 p.n, .slice p.la p.l.length p.lc]
def ScD.v (p : ScD) : Value := .agg #[.slice p.sa p.d.safe.length p.sc, .slice p.wa p.d.wait.length p.wc, .int .i64 p.n, .slice p.la p.l.length p.lc]
structure ScAt (w : World) (p : ScD) : Prop where
  dk : DkAt w p.d p.sa p.wa
  acts : ActsAt w p.la p.l
theorem ScAt.below {w w' : World} {p : ScD} (h : ScAt w p) (hb : Below w.heap.size w w') : ScAt w' p := ⟨h.dk.below hb, h.acts.below hb⟩
section
variable {H : Type} {enc : TypeId × Value → H} {W : World}
set_option maxRecDepth 100000 in
theorem disk_open {y : DataW H × List MemPlace} {m : Nat} {cs : List Value} (h : DataW.trod enc Try.prog W 0 (fun _ => true) true m 25 cs = some y) (hsz : ∀ n ∈ y.1.weights Try.prog 25, n ≤ reachBytes) :
    ∃ (d : DkD) (sa : Option Addr) (sc : Nat) (wa : Option Addr) (wc : Nat), cs = [.slice sa d.safe.length sc, .slice wa d.wait.length wc] ∧ DkAt W d sa wa := by
  obtain ⟨xs, n, rfl, hy, hl, hxl, hf⟩ := DataW.trod_struct Try.underlying25 h
  rw [cellsDisk] at hl
  obtain ⟨c0, c1, rfl⟩ : ∃ c0 c1, cs = [c0, c1] := by
    match cs, hl with
    | [c0, c1], _ => exact ⟨c0, c1, rfl⟩
  match xs, hxl with
  | [x0, x1], _ =>
    have f0 : DataW.trod enc Try.prog W 0 (fun _ => true) true n 22 [c0] = some x0 := by simpa [cellsStrs14] using hf 0 _ rfl
    have f1 : DataW.trod enc Try.prog W 0 (fun _ => true) true n 23 [c1] = some x1 := by simpa [cellsSecs14] using hf 1 _ rfl
    have w0 : ∀ k ∈ x0.1.weights Try.prog 22, k ≤ reachBytes := fun k hk => hsz k (by rw [hy]; simp [DataW.weights, DataW.weightsEach, Try.underlying25, hk])
    have w1 : ∀ k ∈ x1.1.weights Try.prog 23, k ≤ reachBytes := fun k hk => hsz k (by rw [hy]; simp [DataW.weights, DataW.weightsEach, Try.underlying25, hk])
    obtain ⟨a0, p0, l0, h0, k0, _⟩ := strs_at f0 w0
    obtain ⟨a1, p1, l1, h1, k1, _⟩ := seRow_at f1 w1
    subst h0 h1
    exact ⟨⟨l0, l1⟩, a0, p0, a1, p1, rfl, k0, k1.secs⟩
set_option maxRecDepth 100000 in
theorem ask_open {y : DataW H × List MemPlace} {m : Nat} {cs : List Value} (h : DataW.trod enc Try.prog W 0 (fun _ => true) true m 28 cs = some y) (hsz : ∀ n ∈ y.1.weights Try.prog 28, n ≤ reachBytes) :
    ∃ p : ScD, cs = p.cs ∧ ScAt W p := by
  obtain ⟨xs, n, rfl, hy, hl, hxl, hf⟩ := DataW.trod_struct Try.underlying28 h
  rw [cellsScript] at hl
  obtain ⟨c0, c1, c2, c3, rfl⟩ : ∃ c0 c1 c2 c3, cs = [c0, c1, c2, c3] := by
    match cs, hl with
    | [c0, c1, c2, c3], _ => exact ⟨c0, c1, c2, c3, rfl⟩
  match xs, hxl with
  | [x0, x1, x2], _ =>
    have f0 : DataW.trod enc Try.prog W 0 (fun _ => true) true n 25 [c0, c1] = some x0 := by simpa [cellsDisk] using hf 0 _ rfl
    have f1 : DataW.trod enc Try.prog W 0 (fun _ => true) true n 3 [c2] = some x1 := by simpa [cellsInt14] using hf 1 _ rfl
    have f2 : DataW.trod enc Try.prog W 0 (fun _ => true) true n 26 [c3] = some x2 := by simpa [cellsActs14] using hf 2 _ rfl
    have w0 : ∀ k ∈ x0.1.weights Try.prog 25, k ≤ reachBytes := fun k hk => hsz k (by rw [hy]; simp [DataW.weights, DataW.weightsEach, Try.underlying28, hk])
    have w2 : ∀ k ∈ x2.1.weights Try.prog 26, k ≤ reachBytes := fun k hk => hsz k (by rw [hy]; simp [DataW.weights, DataW.weightsEach, Try.underlying28, hk])
    obtain ⟨d, sa, sc, wa, wc, h0, k0⟩ := disk_open f0 w0
    obtain ⟨z1, h1, _, _⟩ := DataW.trod_int Try.underlying3 f1
    obtain ⟨a2, p2, l2, h2, k2, _⟩ := acts_at f2 w2
    simp only [List.cons.injEq, and_true] at h0 h1
    obtain ⟨rfl, rfl⟩ := h0
    subst h1 h2
    exact ⟨⟨d, sa, sc, wa, wc, z1, l2, a2, p2⟩, rfl, k0, k2⟩
end
end Go.Proofs.Ytlmfieeemkahfaa
