/- the page's own Rune and Runes; the two tables of unicode/utf8 -/
import Derived.Test.YtdcgccjbkdbaiaaRBase
import Derived.Test.YtdcgccjbkdbaiaaShelfU
import Derived.BigQuiet
import Derived.Deep.QuietTactic
namespace Go.Proofs.Ytdcgccjbkdbaiaa
open Go.RowKit Go.Lib

theorem get_tail (s : ByteArray) (i j : Nat) : (s.extract i s.size).get! j = s.get! (i + j) := by
  show (s.extract i s.size).data[j]! = s.data[i + j]!
  rw [Lib.extract_eq]
  simp only [getElem!_def]
  have e : ((List.drop i s.data.toList).take (s.size - i)).toArray[j]? = s.data[i + j]? := by
    rw [List.take_of_length_le (by rw [List.length_drop]; exact Nat.le_refl _)]
    simp
  rw [e]
theorem decode_tail (s : ByteArray) (i : Nat) (h : i < s.size) : Lib.decodeGo (s.extract i s.size) = Utf8.decode s i := by
  have hz : (s.extract i s.size).size = s.size - i := by simp
  unfold Lib.decodeGo
  rw [if_neg (by omega), Lib.decode_at, Lib.decode_at, hz]
  simp only [get_tail]
  simp

theorem owns_bel {w w' : World} {base : Nat} {e : TypeId} {size : Nat} {v : Value} {n : Nat} {xs : List Value} (h : w.ownsRow base e size v n xs) (hb : Below w.heap.size w w') : w'.ownsRow base e size v n xs := by
  obtain ⟨h1, h2⟩ := h
  refine ⟨h1, ?_⟩
  rcases h2 with h2 | ⟨g, cap, cur, hv, hg, hh, r⟩
  · exact .inl h2
  · refine .inr ⟨g, cap, cur, hv, hg, ?_, r⟩
    rw [hb.block g (by by_cases hlt : g < w.heap.size; exact hlt; rw [Array.getElem?_eq_none (by omega)] at hh; cases hh)]
    exact hh

set_option maxHeartbeats 400000 in
theorem rRune_yes (r : Int) (w : World) (h : okR r = true) : Calls Try.prog 12 #[.int .i32 r] w (Boo true w) := by
  have h1 := okR_of h
  clear h
  by_cases h10 : r = 10
  · subst h10
    go_enter Try.func12, Try.ntmps12
    go_wp2
    go_ret
    exact ⟨rfl, rfl⟩
  · have e1 : (r == 10) = false := by simp; omega
    by_cases h2 : 32 ≤ r ∧ r ≤ 55295
    · obtain ⟨a, b⟩ := h2
      have e2 : (r != 127) = true := by simp; omega
      have a' : decide ((32 : Int) ≤ r) = true := by simp; omega
      have b' : decide (r ≤ 55295) = true := by simp; omega
      clear h1 h10
      go_enter Try.func12, Try.ntmps12
      go_wp2
      go_ret
      exact ⟨rfl, rfl⟩
    · have e3 : (r != 65533) = true := by simp; omega
      have a' : decide ((32 : Int) ≤ r) = true := by simp; omega
      have b' : decide (r ≤ 55295) = false := by simp; omega
      have c' : decide ((57344 : Int) ≤ r) = true := by simp; omega
      have d' : decide (r ≤ 1114111) = true := by simp; omega
      clear h1 h2 h10
      go_enter Try.func12, Try.ntmps12
      go_wp2
      go_ret
      exact ⟨rfl, rfl⟩
set_option maxHeartbeats 1000000 in
theorem rRune_no (r : Int) (w : World) (h : okR r = false) : Calls Try.prog 12 #[.int .i32 r] w (Boo false w) := by
  have h1 := okR_not h
  clear h
  have e1 : (r == 10) = false := by simp; omega
  by_cases h32 : 32 ≤ r
  · have a' : decide ((32 : Int) ≤ r) = true := by simp; omega
    by_cases h2 : r ≤ 55295
    · obtain rfl : r = 127 := by omega
      go_enter Try.func12, Try.ntmps12
      go_wp2
      go_ret
      exact ⟨rfl, rfl⟩
    · have b' : decide (r ≤ 55295) = false := by simp; omega
      by_cases h3 : 57344 ≤ r
      · have c' : decide ((57344 : Int) ≤ r) = true := by simp; omega
        by_cases h4 : r ≤ 1114111
        · obtain rfl : r = 65533 := by omega
          go_enter Try.func12, Try.ntmps12
          go_wp2
          go_ret
          exact ⟨rfl, rfl⟩
        · have d' : decide (r ≤ 1114111) = false := by simp; omega
          clear h1
          go_enter Try.func12, Try.ntmps12
          go_wp2
          go_ret
          exact ⟨rfl, rfl⟩
      · have c' : decide ((57344 : Int) ≤ r) = false := by simp; omega
        clear h1
        go_enter Try.func12, Try.ntmps12
        go_wp2
        go_ret
        exact ⟨rfl, rfl⟩
  · have a' : decide ((32 : Int) ≤ r) = false := by simp; omega
    have c' : decide ((57344 : Int) ≤ r) = false := by simp; omega
    clear h1
    go_enter Try.func12, Try.ntmps12
    go_wp2
    go_ret
    exact ⟨rfl, rfl⟩
theorem rRune_any (r : Int) (w : World) : Calls Try.prog 12 #[.int .i32 r] w (Boo (okR r) w) := by
  cases h : okR r
  · exact rRune_no r w h
  · exact rRune_yes r w h

/-- what the page's own Runes tells -/
def RRunesPost (s : ByteArray) (w : World) (e : Ending) (w' : World) : Prop :=
  ∃ a cap, e = .returned (.tuple #[.slice a (rns s).length cap, .bool true]) ∧ RunesAt w' a (rns s) ∧ (rns s).length ≤ cap ∧ cap ≤ maxLen ∧ Below w.heap.size w w'
def RNonePost (w : World) (e : Ending) (w' : World) : Prop := e = .returned (.tuple #[.slice none 0 0, .bool false]) ∧ Below w.heap.size w w'
def RPost (s : ByteArray) (w : World) (e : Ending) (w' : World) : Prop := (okT s = true ∧ RRunesPost s w e w') ∨ (okT s = false ∧ RNonePost w e w')
theorem Rest.pos {s : ByteArray} {pos fuel : Nat} {pre : List Int} (_h : Rest s pos fuel pre) (hp : pos < s.size) (hk : okR (Utf8.decode s pos).1 = true) : pos + (Utf8.decode s pos).2 ≤ s.size := by
  refine (decode_back s pos hp ?_).1
  intro e
  have := okR_of hk
  rw [e] at this
  omega

end Go.Proofs.Ytdcgccjbkdbaiaa
