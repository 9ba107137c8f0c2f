/- A row of bytes that a call makes by a conversion, and writes into. -/
import Derived.Test.YtijggjgdepjjgaaCBase
import Derived.Lib.ConvBytes
import Derived.Below
import Derived.StillTailTactics
namespace Go.Proofs.Ytijggjgdepjjgaa
open Go.RowKit Go.Lib

structure BytesAt (w : World) (g : Nat) (l : List UInt8) : Prop where
  cell : ∀ j (h : j < l.length), w.cell? ⟨g, j, none⟩ = some (.int .u8 (l[j].toNat : Int))
  free : ∀ j, j < l.length → w.frozen? ⟨g, j, none⟩ = false
  lt : g < w.heap.size

theorem bytes_made (w : World) (e : TypeId) (l : List UInt8) : BytesAt (bytesWorld w e ⟨l.toArray⟩) w.heap.size l ∧ Below w.heap.size w (bytesWorld w e ⟨l.toArray⟩) := by
  have hz : (⟨l.toArray⟩ : ByteArray).size = l.length := rfl
  refine ⟨⟨fun j h => ?_, fun j h => ?_, ?_⟩, ⟨rfl, rfl, rfl, ?_, fun k hk => bytesWorld_at_old w e _ k hk⟩⟩
  · rw [bytesWorld_cell w e _ j (by rw [hz]; exact h)]
    simp [List.getD, List.getElem?_eq_getElem h]
  · have hC : l.length ≤ (bytesCells w e ⟨l.toArray⟩).size := by unfold bytesCells; simp
    simp only [World.frozen?, bytesWorld_at_new]
    simp; omega
  · rw [bytesWorld_size]; omega
  · rw [bytesWorld_size]; omega

theorem bytes_set {w : World} {g : Nat} {l : List UInt8} (h : BytesAt w g l) (k : Nat) (hk : k < l.length) (x : Int) (c : UInt8) (hx : x = (c.toNat : Int)) : BytesAt (w.setCell ⟨g, k, none⟩ (.int .u8 x)) g (l.set k c) := by
  subst hx
  refine ⟨fun j hj => ?_, fun j hj => ?_, ?_⟩
  · have hj' : j < l.length := by rw [List.length_set] at hj; exact hj
    by_cases e : j = k
    · subst e
      rw [World.cell?_setCell_same (w := w) (h := h.cell j hj')]
      simp
    · have h9 : (⟨g, k, none⟩ : Addr) ≠ ⟨g, j, none⟩ := by intro h'; injection h' with _ h2 _; exact e h2.symm
      rw [World.cell?_setCell_other (w := w) (h := h9), h.cell j hj', List.getElem_set_ne (Ne.symm e)]
  · rw [List.length_set] at hj
    have := h.free j hj
    rw [← this]
    exact World.frozen?_setCell _ _ _ _
  · have := h.lt
    simpa using this

theorem bytes_conv {P : Program} {w : World} {g : Nat} {l : List UInt8} (h : BytesAt w g l) (src dst e : TypeId) (n cap : Nat) (hn : n = l.length) (hs : P.underlying src = some (.slice e)) (he : P.underlying e = some (.int .u8)) (hd : P.underlying dst = some .string) :
    (convert src dst (.slice (some ⟨g, 0, none⟩) n cap)).run P w = .ok (S l) w := by
  subst hn
  refine run_convert_bytes_back w src dst e ⟨g, 0, none⟩ cap l hs he hd ?_
  intro j hj
  rw [Addr.add_lit, Nat.zero_add]
  exact h.cell j hj

theorem bytes_drew {w : World} {g : Nat} {l : List UInt8} (h : BytesAt w g l) : BytesAt w.drew g l := ⟨fun j hj => h.cell j hj, fun j hj => h.free j hj, h.lt⟩
end Go.Proofs.Ytijggjgdepjjgaa
