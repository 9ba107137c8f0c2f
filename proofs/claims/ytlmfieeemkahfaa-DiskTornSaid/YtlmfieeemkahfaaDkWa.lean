/- ahead of the row that wakes: answers are written over; how much a disk is -/
import Derived.Test.YtlmfieeemkahfaaDkU
import Derived.Test.YtlmfieeemkahfaaDkR
namespace Go.Proofs.Ytlmfieeemkahfaa
open Go.RowKit Go.Lib

def SX : ByteArray := zerS 31 ++ ⟨#[120]⟩
theorem SX_size : SX.size = 32 := by unfold SX; rw [ByteArray.size_append, zerS_size]; rfl
def wk1 : DkD := putW (newD 3) 2 SX
theorem may_new (n : Nat) (h1 : 1 ≤ n) (h2 : n ≤ 400) : May (newD n) := by
  unfold newD
  refine ⟨by simpa using h1, by simpa using h2, by simp, fun s hs => by rw [List.eq_of_mem_replicate hs, zerS_size], fun x hx => by simp at hx, fun x hx => by simp at hx⟩
theorem may_put {d : DkD} (h : May d) {n : Int} {s : ByteArray} (h1 : 0 ≤ n) (h2 : n < (d.safe.length : Int)) (h3 : d.wait.length < 400) (hs : s.size = 32) : May (putW d n s) := by
  unfold putW
  refine ⟨h.lo, h.hi, by show (d.wait ++ [_]).length ≤ 400; rw [List.length_append, List.length_singleton]; omega, h.safe, fun x hx => ?_, fun x hx => ?_⟩
  · rcases List.mem_append.1 hx with h9 | h9
    · exact h.at_ x h9
    · simp only [List.mem_cons, List.not_mem_nil, or_false] at h9; subst h9; exact ⟨h1, h2⟩
  · rcases List.mem_append.1 hx with h9 | h9
    · exact h.text x h9
    · simp only [List.mem_cons, List.not_mem_nil, or_false] at h9; subst h9; exact hs
theorem putE_ok {d : DkD} (h : May d) {n : Int} {s : ByteArray} (h1 : 0 ≤ n) (h2 : n < (d.safe.length : Int)) (h3 : d.wait.length < 400) (hs : s.size = 32) : putE d n s = 0 := by
  unfold putE
  rw [may_to h, decide_eq_true hs, show btw n 0 ((d.safe.length : Int) - 1) = true from decide_eq_true ⟨h1, by omega⟩, decide_eq_false (by omega : ¬ d.wait.length = 400)]
  rfl
theorem may_set {d : DkD} (h : May d) (f : Nat → Nat) : May (setD d f) := by
  unfold setD
  refine ⟨by rw [stl_len]; exact h.lo, by rw [stl_len]; exact h.hi, by simp, fun s hs => stl_sz (safe := d.safe) (wait := d.wait) h f _ s hs, fun x hx => by simp at hx, fun x hx => by simp at hx⟩
theorem errM_ok {d : DkD} (h : May d) : errM d = 0 := by unfold errM; rw [may_to h]; rfl
theorem errD_zero (d : DkD) : errD d 0 = d := by unfold errD; rw [if_pos rfl]
theorem wk1_may : May wk1 := may_put (may_new 3 (by decide) (by decide)) (by decide) (by show (2 : Int) < ((List.replicate 3 (zerS 32)).length : Int); simp) (by show ([] : List SeD).length < 400; decide) SX_size
theorem wk_crash : (setD wk1 (kpF [])).safe = [zerS 32, zerS 32, zerS 32] := by
  show stl (List.replicate 3 (zerS 32)) [⟨2, SX⟩] (kpF []) 1 = _
  rw [stl_succ (by decide)]
  show st1 (List.replicate 3 (zerS 32)) ⟨2, SX⟩ 0 = _
  unfold st1 wrS
  rw [if_neg (by decide), if_neg (by decide)]
  rfl
theorem wk_sync : (setD wk1 oneF).safe = [zerS 32, zerS 32, SX] := by
  show stl (List.replicate 3 (zerS 32)) [⟨2, SX⟩] oneF 1 = _
  rw [stl_succ (by decide)]
  show st1 (List.replicate 3 (zerS 32)) ⟨2, SX⟩ 1 = _
  rw [st1_one]
  rfl
theorem rd_wk : rdS (setD wk1 oneF) 2 = SX ∧ rdE (setD wk1 oneF) 2 = 0 := by
  have hm := may_set wk1_may oneF
  have he : rdE (setD wk1 oneF) 2 = 0 := by
    unfold rdE
    rw [may_to hm, show btw 2 0 (((setD wk1 oneF).safe.length : Int) - 1) = true from by rw [wk_sync]; decide]
    rfl
  refine ⟨?_, he⟩
  unfold rdS
  rw [he, if_pos rfl]
  unfold rdT
  show (stl (setD wk1 oneF).safe [] oneF 0)[2]?.getD _ = _
  show (setD wk1 oneF).safe[2]?.getD _ = _
  rw [wk_sync]
  rfl
theorem DkE_shape {d : DkD} {n : Int} {w : World} {e : Ending} {w' : World} (h : DkE d n w e w') : ∃ a c a2 c2, e = .returned (.tuple #[.agg #[.slice a d.safe.length c, .slice a2 d.wait.length c2], .int .i64 n]) ∧ DkAt w' d a a2 ∧ DkOwn w.heap.size w' d (.slice a d.safe.length c) (.slice a2 d.wait.length c2) ∧ Below w.heap.size w w' := by
  obtain ⟨v, u, he, ho, hb⟩ := h
  obtain ⟨a, c, h1, h2, _⟩ := ho.safe.at_
  obtain ⟨a2, c2, h3, h4, _⟩ := ho.wait.at_
  subst h1 h3
  exact ⟨a, c, a2, c2, he, ⟨h2, h4⟩, ho, hb⟩
theorem DkP_shape {d : DkD} {w : World} {e : Ending} {w' : World} (h : DkP d w e w') : ∃ a c a2 c2, e = .returned (.agg #[.slice a d.safe.length c, .slice a2 d.wait.length c2]) ∧ DkAt w' d a a2 ∧ DkOwn w.heap.size w' d (.slice a d.safe.length c) (.slice a2 d.wait.length c2) ∧ Below w.heap.size w w' := by
  obtain ⟨v, u, he, ho, hb⟩ := h
  obtain ⟨a, c, h1, h2, _⟩ := ho.safe.at_
  obtain ⟨a2, c2, h3, h4, _⟩ := ho.wait.at_
  subst h1 h3
  exact ⟨a, c, a2, c2, he, ⟨h2, h4⟩, ho, hb⟩
theorem DkOwn.at_ {base : Nat} {w : World} {d : DkD} {a a2 : Option Addr} {n c m c2 : Nat} (h : DkOwn base w d (.slice a n c) (.slice a2 m c2)) : DkAt w d a a2 := by
  obtain ⟨a', c', h1, h2, _⟩ := h.safe.at_
  obtain ⟨b', d', h3, h4, _⟩ := h.wait.at_
  simp only [Value.slice.injEq] at h1 h3
  obtain ⟨rfl, _⟩ := h1
  obtain ⟨rfl, _⟩ := h3
  exact ⟨h2, h4⟩
theorem DkOwn.set2 {base : Nat} {w : World} {d : DkD} {v u : Value} (h : DkOwn base w d v u) {b : Nat} (hb : b < base) (x y : Value) : DkOwn base ((w.setCell ⟨b, 0, none⟩ x).setCell ⟨b, 1, none⟩ y) d v u :=
  ⟨(h.safe.set (p := ⟨b, 0, none⟩) hb x).set (p := ⟨b, 1, none⟩) hb y, (h.wait.set (p := ⟨b, 0, none⟩) hb x).set (p := ⟨b, 1, none⟩) hb y⟩
theorem make32 {i5 : TypeInfo} (hi5 : Try.prog.info? 5 = some i5) (hz50 : i5.zero = some (.int .u8 0)) (hz51 : i5.size = 1) (hz52 : i5.bytes = 1) (w : World) :
    (Instr.makeSlice 46 (.int .i64 32) (.int .i64 32)).run Try.prog w = .ok (.slice (some ⟨w.heap.size, 0, none⟩) 32 32) (w.alloc (.cells (madeCells #[Value.int .u8 0] 32) 5)) := by
  have := run_makeSlice (P := Try.prog) (w := w) 46 5 i5 (.int .u8 0) Try.underlying46 hi5 hz50 .i64 .i64 32 32 (by decide) (by decide) (by rw [hz51]; decide) (by rw [hz52]; decide) (by decide)
  rw [hz51] at this
  exact this
theorem conv32 (w : World) (b : Nat) (hb : w.heap[b]? = some (.cells (madeCells #[Value.int .u8 0] 32) 5)) :
    (convert 46 9 (.slice (some ⟨b, 0, none⟩) 32 32)).run Try.prog w = .ok (.string (zerS 32)) w := by
  have := run_convert_bytes_back (P := Try.prog) w 46 9 5 ⟨b, 0, none⟩ 32 (List.replicate 32 (0 : UInt8)) Try.underlying46 Try.underlying5 Try.underlying9 (by
    intro j hj
    rw [Addr.add_lit, Nat.zero_add]
    rw [cell_of_row w b j _ _ _ hb]
    have h32 : j < 32 := by simpa using hj
    rw [List.getElem_replicate]
    simp [madeCells, h32, Nat.mod_one])
  exact this
theorem made31 (n : Nat) : ((List.replicate n (0 : UInt8)).map u8w) = (List.replicate n (0 : UInt8)).map u8w := rfl
end Go.Proofs.Ytlmfieeemkahfaa
