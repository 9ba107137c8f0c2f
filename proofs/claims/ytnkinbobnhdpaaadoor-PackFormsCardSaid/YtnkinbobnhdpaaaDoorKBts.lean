/- a row of bytes that a call makes by a conversion, and writes into; Within -/
import Derived.Test.YtnkinbobnhdpaaaDoorKLaw
import Derived.Lib.ConvBytes
import Derived.Below
import Derived.StillTailTactics
namespace Go.Proofs.YtnkinbobnhdpaaaDoor
open Go.RowKit Go.Lib

structure BytesAt (w : World) (g : Nat) (l : List UInt8) : Prop where
  cell : ∀ j (h : j < l.length), w.cell? ⟨g, j, none⟩ = some (.int .u8 (l[j].toNat : Int))
  free : ∀ j, j < l.length → w.frozen? ⟨g, j, none⟩ = false
  lt : g < w.heap.size

theorem bytes_made (w : World) (e : TypeId) (l : List UInt8) : BytesAt (bytesWorld w e ⟨l.toArray⟩) w.heap.size l ∧ Below w.heap.size w (bytesWorld w e ⟨l.toArray⟩) := by
  have hz : (⟨l.toArray⟩ : ByteArray).size = l.length := rfl
  refine ⟨⟨fun j h => ?_, fun j h => ?_, ?_⟩, ⟨rfl, rfl, rfl, ?_, fun k hk => bytesWorld_at_old w e _ k hk⟩⟩
  · rw [bytesWorld_cell w e _ j (by rw [hz]; exact h)]
    simp [List.getD, List.getElem?_eq_getElem h]
  · have hC : l.length ≤ (bytesCells w e ⟨l.toArray⟩).size := by unfold bytesCells; simp
    simp only [World.frozen?, bytesWorld_at_new]
    simp; omega
  · rw [bytesWorld_size]; omega
  · rw [bytesWorld_size]; omega

theorem bytes_set {w : World} {g : Nat} {l : List UInt8} (h : BytesAt w g l) (k : Nat) (hk : k < l.length) (x : Int) (c : UInt8) (hx : x = (c.toNat : Int)) : BytesAt (w.setCell ⟨g, k, none⟩ (.int .u8 x)) g (l.set k c) := by
  subst hx
  refine ⟨fun j hj => ?_, fun j hj => ?_, ?_⟩
  · have hj' : j < l.length := by rw [List.length_set] at hj; exact hj
    by_cases e : j = k
    · subst e
      rw [World.cell?_setCell_same (w := w) (h := h.cell j hj')]
      simp
    · have h9 : (⟨g, k, none⟩ : Addr) ≠ ⟨g, j, none⟩ := by intro h'; injection h' with _ h2 _; exact e h2.symm
      rw [World.cell?_setCell_other (w := w) (h := h9), h.cell j hj', List.getElem_set_ne (Ne.symm e)]
  · rw [List.length_set] at hj
    have := h.free j hj
    rw [← this]
    exact World.frozen?_setCell _ _ _ _
  · have := h.lt
    simpa using this

theorem bytes_conv {P : Program} {w : World} {g : Nat} {l : List UInt8} (h : BytesAt w g l) (src dst e : TypeId) (n cap : Nat) (hn : n = l.length) (hs : P.underlying src = some (.slice e)) (he : P.underlying e = some (.int .u8)) (hd : P.underlying dst = some .string) :
    (convert src dst (.slice (some ⟨g, 0, none⟩) n cap)).run P w = .ok (Nb.S l) w := by
  subst hn
  refine run_convert_bytes_back w src dst e ⟨g, 0, none⟩ cap l hs he hd ?_
  intro j hj
  rw [Addr.add_lit, Nat.zero_add]
  exact h.cell j hj

theorem bytes_drew {w : World} {g : Nat} {l : List UInt8} (h : BytesAt w g l) : BytesAt w.drew g l := ⟨fun j hj => h.cell j hj, fun j hj => h.free j hj, h.lt⟩

theorem bytes_below {w w' : World} {g : Nat} {l : List UInt8} (h : BytesAt w g l) (hb : Below w.heap.size w w') : BytesAt w' g l :=
  ⟨fun j hj => (hb.cell (p := ⟨g, j, none⟩) h.lt).trans (h.cell j hj), fun j hj => by have h1 := h.free j hj; unfold World.frozen? at h1 ⊢; simp only [hb.block g h.lt]; exact h1, Nat.lt_of_lt_of_le h.lt hb.size⟩

set_option maxRecDepth 100000 in
theorem Within12_any (i n : Nat) (w : World) (hi : i ≤ 281474976710656) (hn : 0 < n) (hn2 : n ≤ 281474976710656) : Calls Tryd.prog 59 #[.int .i64 i, .int .i64 n] w fun e w' => e = .returned (.int .i64 ((i % n : Nat) : Int)) ∧ w = w' := by
  have h1 : IntKind.u64.wrap (i : Int) = (i : Int) := IntWalk.u64_in _ (by omega)
  have h2 : IntKind.u64.wrap (n : Int) = (n : Int) := IntWalk.u64_in _ (by omega)
  have hm : i % n < n := Nat.mod_lt _ hn
  have h3 : ((i : Int)).tmod (n : Int) = ((i % n : Nat) : Int) := by
    rw [Int.tmod_eq_emod_of_nonneg (by omega)]
    rfl
  have h4 : IntKind.u64.wrap ((i % n : Nat) : Int) = ((i % n : Nat) : Int) := IntWalk.u64_in _ (by omega)
  have h5 : IntKind.i64.wrap ((i % n : Nat) : Int) = ((i % n : Nat) : Int) := IntWalk.i64_in _ (by omega)
  have hnz : (0 : Int) < (n : Int) := by omega
  have hi2 : (i : Int) ≤ 281474976710656 := by omega
  have hn3 : (n : Int) ≤ 281474976710656 := by omega
  go_enter Tryd.func59, Tryd.ntmps59
  go_wp2
  go_ret
  exact ⟨by first | rfl | (simp only [h3, h4, h5]), rfl⟩
end Go.Proofs.YtnkinbobnhdpaaaDoor
