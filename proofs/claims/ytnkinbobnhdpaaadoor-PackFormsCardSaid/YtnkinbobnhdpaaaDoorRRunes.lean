/- text.Runes, text.Len -/
import Derived.Test.YtnkinbobnhdpaaaDoorRMay
namespace Go.Proofs.YtnkinbobnhdpaaaDoor
open Go.RowKit Go.Lib

/-- what Runes tells of a text that may be -/
def RunesPost (s : ByteArray) (w : World) (e : Ending) (w' : World) : Prop :=
  ∃ a cap, e = .returned (.tuple #[.slice a (rns s).length cap, .int .i64 0]) ∧ RunesAt w' a (rns s) ∧ (rns s).length ≤ cap ∧ cap ≤ maxLen ∧ Below w.heap.size w w'
def NonePost (w : World) (e : Ending) (w' : World) : Prop := e = .returned (.tuple #[.slice none 0 0, .int .i64 1]) ∧ Below w.heap.size w w'

set_option maxRecDepth 100000 in
set_option maxHeartbeats 1000000 in
theorem Runes_bad (s : ByteArray) (w : World) (hk : okT s = false) : Calls Tryd.prog 132 #[.string s] w (NonePost w) := by
  go_enter Tryd.func132, Tryd.ntmps132
  go_wp2_with (go_at_call 134; refine (Check_any s _).mono ?_; rintro e w' ⟨he, hb⟩; rw [errOf_bad hk] at he; subst he)
  go_ret2
  exact ⟨rfl, hb⟩

set_option maxRecDepth 100000 in
set_option maxHeartbeats 1000000 in
theorem Runes_ok (s : ByteArray) (w : World) (hk : okT s = true) (hs : s.size ≤ 60000) : Calls Tryd.prog 132 #[.string s] w (RunesPost s w) := by
  obtain ⟨i0, hi, hz0, hz1, hz2⟩ := info_parts Tryd.info21
  have HK := Lib.hid hk
  clear hk
  go_enter Tryd.func132, Tryd.ntmps132
  go_wp2_with (go_at_call 134; refine (Check_any s _).mono ?_; rintro e w1 ⟨he, hb⟩; rw [errOf_ok HK.out] at he; subst he)
  go_loopw [5] (fun v wr => ∃ (pos fuel : Nat) (pre : List Int), Rest s pos fuel pre ∧ wr.heap[w1.heap.size]? = some (.stringIter s pos) ∧ Below w.heap.size w wr ∧ wr.ownsRow (w1.heap.size + 1) 21 1 v pre.length (rv pre)) (fun _ wr => s.size - wr.iterPos w1.heap.size)
  case atStart => exact ⟨0, s.size, [], Rest.start s, World.iter_heap w1 s 0, hb.alloc hb.size _, World.ownsRow_nil _ _ _ _⟩
  case round =>
    obtain ⟨pos, fuel, pre, hR, hit, hbw, hown⟩ := hrel
    have hsz : w1.heap.size < wr.heap.size := (Array.getElem?_eq_some_iff.1 hit).1
    have hsb : w.heap.size ≤ w1.heap.size := hb.size
    have HR := Lib.hid hR
    clear hR
    by_cases hp : pos < s.size
    · have hnx : ∀ ty, (Instr.next (.pointer (some ⟨w1.heap.size, 0, none⟩)) true ty).run Tryd.prog wr = _ := fun ty => Lib.run_next_any_at wr w1.heap.size s pos ty hit hp
      have hwd := decode_width_pos s pos hp
      have HI := Lib.hid (Lib.iterAt_heap wr w1.heap.size s pos (pos + (Utf8.decode s pos).2) hit)
      have HB := Lib.hid (Lib.below_iterAt hbw (k := w1.heap.size) (by omega) s (pos + (Utf8.decode s pos).2))
      have hown1 := owns_iterAt hown (k := w1.heap.size) (by omega) s (pos + (Utf8.decode s pos).2)
      have hsz1 : w1.heap.size < (wr.iterAt w1.heap.size s (pos + (Utf8.decode s pos).2)).heap.size := by rw [Lib.iterAt_size]; exact hsz
      have HT := Lib.hid hit
      have hlt := HR.out.lt hp
      have HN := Lib.hid (HR.out.next hp (HR.out.here hp HK.out))
      have c2 : pre.length + 1 ≤ maxLen := by unfold maxLen; omega
      have c3 : (pre.length + 1) * 4 ≤ 140737488355328 := by omega
      clear hit hbw hown
      generalize hd : (Utf8.decode s pos) = d at *
      have HD := Lib.hid hd
      clear hd
      generalize hW : wr.iterAt w1.heap.size s (pos + d.2) = W at *
      have HW := Lib.hid hW
      clear hW
      go_wp2_with (first | (at_builtin; refine wpList_append_own _ rfl _ _ 88 rfl (w1.heap.size + 1) 21 i0 (.int .i32 0) 1 4 Tryd.underlying88 hi hz0 hz1 hz2 rfl (by decide) _ _ _ rfl (hown1.alloc _) ⟨W.heap.size, 0, none⟩ 1 1 [.int .i32 d.1] rfl rfl (cell_one_new _ _ _) (oneInt _ _) c2 c3 (by simp; omega) ?_) | fail)
      intro v2 w2 hown2 hgrow2 _
      rw [rv_snoc] at hown2
      have hb2 : Below w.heap.size w w2 := (HB.out.alloc (by omega) _).grown hgrow2 (by simp; omega) (fun k h => by have := own_ge hown1 k h; omega)
      have hi2 : w2.heap[w1.heap.size]? = some (.stringIter s (pos + d.2)) := by
        rw [hgrow2.block w1.heap.size (by simp; omega) (fun e => by have := own_ge hown1 _ e.symm; omega), Below.heap_alloc _ _ _ hsz1]
        exact HI.out
      have H2 := Lib.hid hi2
      clear hi2 hown1 hgrow2
      go_wp2
      go_roundw
      case rel => exact ⟨_, _, _, HN.out, H2.out, hb2, by rw [List.length_append, List.length_singleton]; exact hown2⟩
      case measure =>
        simp only [World.iterPos, H2.out, HT.out]
        omega
    · have hnx : ∀ ty, (Instr.next (.pointer (some ⟨w1.heap.size, 0, none⟩)) true ty).run Tryd.prog wr = _ := fun ty => Lib.run_next_end_at wr w1.heap.size s pos ty hit hp
      have HN := Lib.hid (HR.out.done hp)
      obtain ⟨a, cap, rfl, hra, hc, hm⟩ := reads_own hown (by rw [← HN.out.1]; exact rns_i32 s)
      have HX := Lib.hid hra
      clear hra hown hit
      go_wp2
      go_ret2
      refine ⟨a, cap, ?_, ?_, ?_, hm, hbw⟩
      · rw [HN.out.1]; rfl
      · rw [HN.out.1]; exact HX.out
      · rw [HN.out.1]; exact hc

/-- what Len tells -/
def LenPost (s : ByteArray) (w : World) (e : Ending) (w' : World) : Prop := e = .returned (.tuple #[.int .i64 (if okT s then (rns s).length else 0 : Nat), .int .i64 (errOf s)]) ∧ Below w.heap.size w w'
set_option maxRecDepth 100000 in
set_option maxHeartbeats 1000000 in
theorem Len_any (s : ByteArray) (w : World) (hs : s.size ≤ 60000) : Calls Tryd.prog 128 #[.string s] w (LenPost s w) := by
  cases hk : okT s
  · go_enter Tryd.func128, Tryd.ntmps128
    go_wp2_with (go_at_call 132; refine (Runes_bad s _ hk).mono ?_; rintro e w1 ⟨rfl, hb⟩)
    go_ret2
    refine ⟨?_, hb⟩
    rw [errOf_bad hk, hk]; rfl
  · have HK := Lib.hid hk
    have c := Runes_ok s w hk hs
    clear hk
    go_enter Tryd.func128, Tryd.ntmps128
    go_wp2_with (go_at_call 132; refine c.mono ?_; rintro e w1 ⟨a, cap, rfl, _, _, _, hb⟩)
    go_ret2
    refine ⟨?_, hb⟩
    rw [errOf_ok HK.out, HK.out]; rfl
end Go.Proofs.YtnkinbobnhdpaaaDoor
