/- maps keyed by elements, that the calls make: what they hold, element by element -/
import Derived.Test.YthnedehihbploaaGreatDoorOBase
import Derived.Test.YthnedehihbploaaGreatDoorOArgs
import Derived.Maps.Own
import Derived.Maps.AppendAt
import Derived.WideKeyEntry
import Derived.DeepKeys4
import Derived.WalkKit
namespace Go.Proofs.YthnedehihbploaaGreatDoor
open Go.RowKit Go.Lib Go.MapKept Go.ChangeShapes Go.WideShapes Go.ChangeMaps
open Go.WideElems (Fit rd rg pl rd_val elemAt rd_key rd_mk entry_then_store)
open Go.Maps (Keyed)
open Go.WideMaps (KeyLaw)

theorem Tryz.laidOutE : laidOutB Tryz.prog = true := by kernel_rfl
theorem Tryz.rowElem : (37 : TypeId) < Tryz.prog.types.size := of_decide_eq_true (by kernel_rfl)
theorem Tryz.wideElem : (match Tryz.prog.underlying 37 with | some (.array _ _) | some (.struct _) => true | _ => false) = true := by rw [Tryz.underlying37]
set_option maxRecDepth 100000 in
theorem Tryz.keyLaw : KeyLaw Tryz.prog 37 := deep_law_laid Tryz.laidOutE (m := 3) (by omega) Tryz.rowElem (by kernel_rfl) Tryz.wideElem
theorem Tryz.keyed : Keyed Tryz.prog 37 := Keyed.of_law Tryz.keyLaw

def in64 (x : Int) : Prop := -9223372036854775808 ≤ x ∧ x ≤ 9223372036854775807
/-- an element's parts are Go's ints -/
def El.fit (e : El) : Prop := in64 e.s ∧ in64 e.q ∧ in64 e.i
theorem wf64 {x : Int} (h : in64 x) : (Lit.int .i64 x).wf = true := by
  unfold in64 at h
  simp [Lit.wf, IntKind.min, IntKind.max, IntKind.bits, IntKind.signed]
  omega
theorem key_of (e : El) (h : e.fit) : ∃ kl, keyOf Tryz.prog 37 e.v = some kl := by
  obtain ⟨h1, h2, h3⟩ := h
  have w1 := wf64 h1
  have w2 := wf64 h2
  have w3 := wf64 h3
  have hkl : ∀ n, Tryz.prog.keyLits (n + 3) 37 [.int .i64 e.s, .int .i64 e.q, .int .i64 e.i] = some [.int .i64 e.s, .int .i64 e.q, .int .i64 e.i] := fun n => by
    simp [Program.keyLits, Tryz.underlying37, Tryz.underlying3, w1, w2, w3, cellsElem, cellsInt]
  have ek : Tryz.prog.keyType 37 = true := by kernel_rfl
  have ef : Value.formed Tryz.prog 37 e.v = true := by simp [El.v, Value.formed, Tryz.underlying37, cellsElem]
  have es : ∃ n, Tryz.prog.types.size + 1 = n + 3 := ⟨Tryz.prog.types.size - 2, by
    have : decide (2 ≤ Tryz.prog.types.size) = true := by kernel_rfl
    have := of_decide_eq_true this; omega⟩
  obtain ⟨n, hn⟩ := es
  have e2 : keyOf Tryz.prog 37 e.v = (if (Tryz.prog.keyType 37 && e.v.formed Tryz.prog 37) = true then (Tryz.prog.keyLits (Tryz.prog.types.size + 1) 37 e.v.cells.toList).map fun ls => .string (keyBytes ls) else none) := by
    unfold keyOf
    rw [Tryz.underlying37]
  rw [e2, ek, ef, hn]
  refine ⟨.string (keyBytes [.int .i64 e.s, .int .i64 e.q, .int .i64 e.i]), ?_⟩
  have e3 : e.v.cells.toList = [.int .i64 e.s, .int .i64 e.q, .int .i64 e.i] := rfl
  rw [e3, hkl]
  rfl

theorem El.v_inj {a b : El} (h : a.v = b.v) : a = b := by
  cases a; cases b
  simp only [El.v, Value.agg.injEq] at h
  simpa using h

/-- the reader that reads nothing -/
def noRead (_ : Value) : Option (DataW Unit × List MemPlace) := some (.nil, [])
/-- block b holds a map of at most n entries: at each element what V says -/
structure MapE (w : World) (b n : Nat) (V : El → Option Value) : Prop where
  mk ::
  has : ∃ es clock, w.heap[b]? = some (.map es clock) ∧ Fit Tryz.prog 37 noRead es clock ∧ es.size ≤ n ∧
    (∀ x ∈ es.toList, ∃ e : El, x.key = e.v ∧ V e = some x.val) ∧ ∀ e v, V e = some v → e.fit ∧ ∃ x ∈ es.toList, x.key = e.v
theorem MapE.made (w : World) : MapE (w.alloc (.map #[] 0)) w.heap.size 0 (fun _ => none) :=
  ⟨#[], 0, (MapKept.heap_alloc w _).1, ⟨by simp, stamped_empty 0, by simp⟩, Nat.le_refl _, by simp, by simp⟩
theorem MapE.lt {w : World} {b n : Nat} {V : El → Option Value} (h : MapE w b n V) : b < w.heap.size := by
  obtain ⟨es, clock, hb, _⟩ := h.has
  exact (Array.getElem?_eq_some_iff.1 hb).1
theorem MapE.kept {w w' : World} {b n : Nat} {V : El → Option Value} (h : MapE w b n V) (hb : w'.heap[b]? = w.heap[b]?) : MapE w' b n V := by
  obtain ⟨es, clock, h1, h2⟩ := h.has
  exact ⟨es, clock, hb.trans h1, h2⟩
theorem MapE.mono {w : World} {b n m : Nat} {V : El → Option Value} (h : MapE w b n V) (hn : n ≤ m) : MapE w b m V := by
  obtain ⟨es, clock, h1, h2, h3, h4⟩ := h.has
  exact ⟨es, clock, h1, h2, Nat.le_trans h3 hn, h4⟩
/-- m[k]; with ok, too -/
theorem MapE.look {w : World} {b n : Nat} {V : El → Option Value} (h : MapE w b n V) {t e : TypeId} (ht : Tryz.prog.underlying t = some (.map 37 e)) {z : Value} (hz : (zeroValue e).run Tryz.prog w = .ok z w) (k : El) (hk : k.fit) (c : Bool) :
    (Instr.lookup t (.map (some b)) k.v c).run Tryz.prog w = .ok (if c then .tuple #[(V k).getD z, .bool (V k).isSome] else (V k).getD z) w := by
  obtain ⟨es, clock, hb, F, _, h1, h2⟩ := h.has
  obtain ⟨kl, hkey⟩ := key_of k hk
  rcases Maps.fit_look c Tryz.keyed ht hz hb F hkey with ⟨hrun, hno, _⟩ | ⟨e0, y, hm, hke, hrun, _⟩
  · have : V k = none := by
      cases hv : V k with
      | none => rfl
      | some v =>
        obtain ⟨_, x, hx, hxk⟩ := h2 k v hv
        exact absurd hxk (hno x hx)
    rw [hrun, this]
    rfl
  · obtain ⟨e, h3, h4⟩ := h1 e0 hm
    have : e = k := El.v_inj (h3.symm.trans hke)
    subst this
    rw [hrun, h4]
    rfl
/-- m[k] = v -/
theorem MapE.store {w : World} {b n : Nat} {V : El → Option Value} (h : MapE w b n V) {t e : TypeId} (ht : Tryz.prog.underlying t = some (.map 37 e)) (hn : n < maxLen) (k : El) (hk : k.fit) (val : Value) :
    ∃ w', (Instr.mapUpdate t (.map (some b)) k.v val).run Tryz.prog w = .ok () w' ∧ MapE w' b (n + 1) (fun x => if x = k then some val else V x) ∧ w.grownBy w' (some b) := by
  obtain ⟨es, clock, hb, F, hs, h1, h2⟩ := h.has
  obtain ⟨kl, hkey⟩ := key_of k hk
  obtain ⟨es', clock', hrun, F', hput, _, _, hwho⟩ := Maps.fit_store (R' := noRead) Tryz.keyed ht hb F (Nat.lt_of_le_of_lt hs hn) (fun _ _ _ _ hz => hz) hkey (rfl : noRead val = some (.nil, []))
  have hg : w.grownBy (setBlock w b (.map es' clock')) (some b) := ⟨rfl, rfl, rfl, by simp [setBlock], fun i _ hi => heap_setBlock_other hb _ (fun e => hi (by rw [e]))⟩
  -- who stands behind the store
  have hmem : ∀ p, p ∈ es'.toList.map (rg Tryz.prog 37 noRead) ↔ p = (kl, DataW.nil) ∨ p ∈ (es.toList.map (rg Tryz.prog 37 noRead)).filter (notKey kl) := fun p => by
    have e1 := (sorted_perm (es'.toList.map (rg Tryz.prog 37 noRead))).mem_iff (a := p)
    rw [hput] at e1
    rw [← e1]
    unfold putKey
    rw [mem_insert_iff, List.mem_filter, List.mem_filter, (sorted_perm _).mem_iff]
  have keyAt : ∀ {ms : Array MapEntry} {cl : Nat}, Fit Tryz.prog 37 noRead ms cl → ∀ x ∈ ms.toList, keyOf Tryz.prog 37 x.key = some (rg Tryz.prog 37 noRead x).1 := fun {ms cl} FF x hx => by
    obtain ⟨y, hy⟩ := FF.reads x hx
    rw [WideElems.rg_of hy]
    exact rd_key hy
  refine ⟨_, hrun, ⟨es', clock', heap_setBlock_same hb _, F', ?_, ?_, ?_⟩, hg⟩
  · have e1 : es'.size = ((es'.toList.map (rg Tryz.prog 37 noRead)).foldr DataW.insert []).length := by rw [length_sorted]; simp
    rw [e1, hput]
    unfold putKey
    rw [length_insert]
    have e2 := List.length_filter_le (notKey kl) ((es.toList.map (rg Tryz.prog 37 noRead)).foldr DataW.insert [])
    rw [length_sorted] at e2
    simp at e2
    omega
  · intro x hx
    rcases hwho x hx with ⟨hx0, hne⟩ | ⟨hxk, hxv⟩
    · obtain ⟨e, h3, h4⟩ := h1 x hx0
      refine ⟨e, h3, ?_⟩
      rw [if_neg (fun e1 => hne (by rw [h3, e1]))]
      exact h4
    · exact ⟨k, hxk, by rw [if_pos rfl, hxv]⟩
  · intro e v hv
    by_cases hek : e = k
    · subst hek
      refine ⟨hk, ?_⟩
      obtain ⟨x, hx, hxe⟩ := List.mem_map.1 ((hmem (kl, DataW.nil)).2 (.inl rfl))
      refine ⟨x, hx, ?_⟩
      have := keyAt F' x hx
      rw [hxe] at this
      exact Tryz.keyed.inj this hkey
    · rw [if_neg hek] at hv
      obtain ⟨hf, x, hx, hxk⟩ := h2 e v hv
      refine ⟨hf, ?_⟩
      have hka := keyAt F x hx
      have hnk : (rg Tryz.prog 37 noRead x).1 ≠ kl := fun e1 => by
        rw [e1] at hka
        exact hek (El.v_inj (hxk.symm.trans (Tryz.keyed.inj hka hkey)))
      obtain ⟨x', hx', hxe⟩ := List.mem_map.1 ((hmem (rg Tryz.prog 37 noRead x)).2 (.inr (List.mem_filter.2 ⟨List.mem_map.2 ⟨x, hx, rfl⟩, (Maps.notKey_iff (Tryz.keyed.key hkey)).2 hnk⟩)))
      refine ⟨x', hx', ?_⟩
      have h5 := keyAt F' x' hx'
      rw [hxe] at h5
      rw [← hxk]
      exact Tryz.keyed.inj h5 hka

/-- m[k] = f(m[k]): the entry first, then what it holds -/
theorem MapE.entry {w : World} {b n : Nat} {V : El → Option Value} (h : MapE w b n V) {t e : TypeId} (ht : Tryz.prog.underlying t = some (.map 37 e)) {z : Value} (hz : ∀ u : World, (zeroValue e).run Tryz.prog u = .ok z u) (hn : n < maxLen) (k : El) (hk : k.fit) :
    ∃ st w1, (Instr.mapEntry t (.map (some b)) k.v).run Tryz.prog w = .ok (.tuple #[(V k).getD z, goInt st]) w1 ∧ w.grownBy w1 (some b) ∧ w1.heap.size = w.heap.size ∧ b < w.heap.size ∧
      ∀ (w2 : World) (val : Value), w2.heap[b]? = w1.heap[b]? → ∃ w3, (Instr.entryStore t (.map (some b)) (goInt st) val).run Tryz.prog w2 = .ok () w3 ∧ MapE w3 b (n + 1) (fun x => if x = k then some val else V x) ∧ w2.grownBy w3 (some b) := by
  obtain ⟨es, clock, hb, F, hs, h1, h2⟩ := h.has
  obtain ⟨kl, hkey⟩ := key_of k hk
  obtain ⟨v0, st, es1, clock1, hrun, hwhat, hback⟩ := entry_then_store Tryz.keyLaw ht hz hb F hkey
  have hv : v0 = (V k).getD z := by
    rcases hwhat with ⟨e0, he0, hke, rfl⟩ | ⟨hno, rfl⟩
    · obtain ⟨e, h3, h4⟩ := h1 e0 he0
      have : e = k := El.v_inj (h3.symm.trans hke)
      subst this
      rw [h4]; rfl
    · cases hv : V k with
      | none => rfl
      | some v =>
        obtain ⟨_, x, hx, hxk⟩ := h2 k v hv
        exact absurd hxk (hno x hx)
  subst hv
  refine ⟨st, _, hrun, ⟨rfl, rfl, rfl, by simp [setBlock], fun i _ hi => heap_setBlock_other hb _ (fun e => hi (by rw [e]))⟩, by simp [setBlock], (Array.getElem?_eq_some_iff.1 hb).1, fun w2 val hw2 => ?_⟩
  rw [heap_setBlock_same hb _] at hw2
  obtain ⟨es', clock', hr1, hr2⟩ := hback w2 val hw2
  obtain ⟨w', hru, hM, _⟩ := h.store ht hn k hk val
  have hw' : w' = setBlock w b (.map es' clock') := by
    rw [hr2] at hru
    simp only [Result.ok.injEq, true_and] at hru
    exact hru.symm
  refine ⟨_, hr1, hM.kept ?_, ⟨rfl, rfl, rfl, by simp [setBlock], fun i _ hi => heap_setBlock_other hw2 _ (fun e => hi (by rw [e]))⟩⟩
  rw [hw', heap_setBlock_same hb _, heap_setBlock_same hw2 _]
end Go.Proofs.YthnedehihbploaaGreatDoor
