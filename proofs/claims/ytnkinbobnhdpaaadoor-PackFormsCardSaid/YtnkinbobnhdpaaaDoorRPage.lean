/- the page's own Rune and Runes; the two tables of unicode/utf8 -/
import Derived.Test.YtnkinbobnhdpaaaDoorRBase
import Derived.Test.YtnkinbobnhdpaaaDoorShelfU
import Derived.BigQuiet
import Derived.Deep.QuietTactic
namespace Go.Proofs.YtnkinbobnhdpaaaDoor
open Go.RowKit Go.Lib

/-- the two tables of unicode/utf8 -/
def Tabs (w : World) : Prop := Lib.Utf8Tabs 0 1 w
theorem Tabs.lt {w : World} (h : Tabs w) : 0 < w.heap.size ∧ 1 < w.heap.size :=
  ⟨World.block_lt_of_cell? w _ (h.1 0 (by decide)), World.block_lt_of_cell? w _ (h.2 0 (by decide)).1⟩
theorem Tabs.below {w w' : World} {B : Nat} (h : Tabs w) (hb : Below B w w') (h0 : 0 < B) (h1 : 1 < B) : Tabs w' :=
  ⟨fun c hc => (hb.cell (p := ⟨0, c, none⟩) h0).trans (h.1 c hc), fun i hi => ⟨(hb.cell (p := ⟨1, 2 * i, none⟩) h1).trans (h.2 i hi).1, (hb.cell (p := ⟨1, 2 * i + 1, none⟩) h1).trans (h.2 i hi).2⟩⟩
theorem Tabs.next {w w' : World} (h : Tabs w) (hb : Below w.heap.size w w') : Tabs w' := h.below hb h.lt.1 h.lt.2

theorem get_tail (s : ByteArray) (i j : Nat) : (s.extract i s.size).get! j = s.get! (i + j) := by
  show (s.extract i s.size).data[j]! = s.data[i + j]!
  rw [Lib.extract_eq]
  simp only [getElem!_def]
  have e : ((List.drop i s.data.toList).take (s.size - i)).toArray[j]? = s.data[i + j]? := by
    rw [List.take_of_length_le (by rw [List.length_drop]; exact Nat.le_refl _)]
    simp
  rw [e]
theorem decode_tail (s : ByteArray) (i : Nat) (h : i < s.size) : Lib.decodeGo (s.extract i s.size) = Utf8.decode s i := by
  have hz : (s.extract i s.size).size = s.size - i := by simp
  unfold Lib.decodeGo
  rw [if_neg (by omega), Lib.decode_at, Lib.decode_at, hz]
  simp only [get_tail]
  simp

theorem owns_bel {w w' : World} {base : Nat} {e : TypeId} {size : Nat} {v : Value} {n : Nat} {xs : List Value} (h : w.ownsRow base e size v n xs) (hb : Below w.heap.size w w') : w'.ownsRow base e size v n xs := by
  obtain ⟨h1, h2⟩ := h
  refine ⟨h1, ?_⟩
  rcases h2 with h2 | ⟨g, cap, cur, hv, hg, hh, r⟩
  · exact .inl h2
  · refine .inr ⟨g, cap, cur, hv, hg, ?_, r⟩
    rw [hb.block g (by by_cases hlt : g < w.heap.size; exact hlt; rw [Array.getElem?_eq_none (by omega)] at hh; cases hh)]
    exact hh

set_option maxHeartbeats 400000 in
theorem rRune_yes (r : Int) (w : World) (h : okR r = true) : Calls Tryd.prog 83 #[.int .i32 r] w (Boo true w) := by
  have h1 := okR_of h
  clear h
  by_cases h10 : r = 10
  · subst h10
    go_enter Tryd.func83, Tryd.ntmps83
    go_wp2
    go_ret
    exact ⟨rfl, rfl⟩
  · have e1 : (r == 10) = false := by simp; omega
    by_cases h2 : 32 ≤ r ∧ r ≤ 55295
    · obtain ⟨a, b⟩ := h2
      have e2 : (r != 127) = true := by simp; omega
      have a' : decide ((32 : Int) ≤ r) = true := by simp; omega
      have b' : decide (r ≤ 55295) = true := by simp; omega
      clear h1 h10
      go_enter Tryd.func83, Tryd.ntmps83
      go_wp2
      go_ret
      exact ⟨rfl, rfl⟩
    · have e3 : (r != 65533) = true := by simp; omega
      have a' : decide ((32 : Int) ≤ r) = true := by simp; omega
      have b' : decide (r ≤ 55295) = false := by simp; omega
      have c' : decide ((57344 : Int) ≤ r) = true := by simp; omega
      have d' : decide (r ≤ 1114111) = true := by simp; omega
      clear h1 h2 h10
      go_enter Tryd.func83, Tryd.ntmps83
      go_wp2
      go_ret
      exact ⟨rfl, rfl⟩
set_option maxHeartbeats 1000000 in
theorem rRune_no (r : Int) (w : World) (h : okR r = false) : Calls Tryd.prog 83 #[.int .i32 r] w (Boo false w) := by
  have h1 := okR_not h
  clear h
  have e1 : (r == 10) = false := by simp; omega
  by_cases h32 : 32 ≤ r
  · have a' : decide ((32 : Int) ≤ r) = true := by simp; omega
    by_cases h2 : r ≤ 55295
    · obtain rfl : r = 127 := by omega
      go_enter Tryd.func83, Tryd.ntmps83
      go_wp2
      go_ret
      exact ⟨rfl, rfl⟩
    · have b' : decide (r ≤ 55295) = false := by simp; omega
      by_cases h3 : 57344 ≤ r
      · have c' : decide ((57344 : Int) ≤ r) = true := by simp; omega
        by_cases h4 : r ≤ 1114111
        · obtain rfl : r = 65533 := by omega
          go_enter Tryd.func83, Tryd.ntmps83
          go_wp2
          go_ret
          exact ⟨rfl, rfl⟩
        · have d' : decide (r ≤ 1114111) = false := by simp; omega
          clear h1
          go_enter Tryd.func83, Tryd.ntmps83
          go_wp2
          go_ret
          exact ⟨rfl, rfl⟩
      · have c' : decide ((57344 : Int) ≤ r) = false := by simp; omega
        clear h1
        go_enter Tryd.func83, Tryd.ntmps83
        go_wp2
        go_ret
        exact ⟨rfl, rfl⟩
  · have a' : decide ((32 : Int) ≤ r) = false := by simp; omega
    have c' : decide ((57344 : Int) ≤ r) = false := by simp; omega
    clear h1
    go_enter Tryd.func83, Tryd.ntmps83
    go_wp2
    go_ret
    exact ⟨rfl, rfl⟩
theorem rRune_any (r : Int) (w : World) : Calls Tryd.prog 83 #[.int .i32 r] w (Boo (okR r) w) := by
  cases h : okR r
  · exact rRune_no r w h
  · exact rRune_yes r w h

/-- what the page's own Runes tells -/
def RRunesPost (s : ByteArray) (w : World) (e : Ending) (w' : World) : Prop :=
  ∃ a cap, e = .returned (.tuple #[.slice a (rns s).length cap, .bool true]) ∧ RunesAt w' a (rns s) ∧ (rns s).length ≤ cap ∧ cap ≤ maxLen ∧ Below w.heap.size w w'
def RNonePost (w : World) (e : Ending) (w' : World) : Prop := e = .returned (.tuple #[.slice none 0 0, .bool false]) ∧ Below w.heap.size w w'
def RPost (s : ByteArray) (w : World) (e : Ending) (w' : World) : Prop := (okT s = true ∧ RRunesPost s w e w') ∨ (okT s = false ∧ RNonePost w e w')
theorem Rest.pos {s : ByteArray} {pos fuel : Nat} {pre : List Int} (_h : Rest s pos fuel pre) (hp : pos < s.size) (hk : okR (Utf8.decode s pos).1 = true) : pos + (Utf8.decode s pos).2 ≤ s.size := by
  refine (decode_back s pos hp ?_).1
  intro e
  have := okR_of hk
  rw [e] at this
  omega

set_option maxRecDepth 100000 in
set_option maxHeartbeats 1000000 in
theorem rRunes_any (s : ByteArray) (w : World) (hT : Tabs w) (hs : s.size ≤ 60000) : Calls Tryd.prog 52 #[.string s] w (RPost s w) := by
  obtain ⟨i0, hi, hz0, hz1, hz2⟩ := info_parts Tryd.info21
  have HTB := Lib.hid hT
  clear hT
  go_enter Tryd.func52, Tryd.ntmps52
  go_wp2
  go_loopw [4, 5] (fun v i wr => ∃ (pos fuel : Nat) (pre : List Int), pos ≤ s.size ∧ i = .int .i64 pos ∧ Rest s pos fuel pre ∧ Below w.heap.size w wr ∧ wr.ownsRow w.heap.size 21 1 v pre.length (rv pre)) (fun _ i _ => s.size - (RowKit.intOf i).toNat)
  case atStart => exact ⟨0, s.size, [], by omega, rfl, Rest.start s, Below.refl _ _, World.ownsRow_nil _ _ _ _⟩
  case round =>
    obtain ⟨pos, fuel, pre, hpl, rfl, hR, hbw, hown⟩ := hrel
    have HR := Lib.hid hR
    clear hR
    by_cases hp : pos < s.size
    · have hwd := decode_width_pos s pos hp
      have hw4 := decode_width_le s pos
      have htw := HTB.out.next hbw
      have cD := Any.utf8_DecodeRuneInString Tryd.lays197 (s.extract pos s.size) wr htw
      rw [decode_tail s pos hp] at cD
      have hlt := HR.out.lt hp
      have hi32 := decode_le s pos
      have c2 : pre.length + 1 ≤ maxLen := by unfold maxLen; omega
      have c3 : (pre.length + 1) * 4 ≤ 140737488355328 := by omega
      cases hk : okR (Utf8.decode s pos).1
      · have HN := Lib.hid (HR.out.stop hp hk)
        generalize hd : (Utf8.decode s pos) = d at *
        have HD := Lib.hid hd
        clear hd
        go_wp2_with fail
        refine (cD).mono ?_
        rintro e w2 ⟨rfl, hb2⟩
        have hbw2 := hbw.trans (hb2.mono hbw.size)
        clear hb2 hbw cD hown
        go_wp2_with fail
        refine (rRune_no _ _ hk).mono ?_
        rintro e w3 ⟨rfl, rfl⟩
        go_wp2
        go_ret2
        exact .inr ⟨HN.out, rfl, hbw2⟩
      · have hpe := HR.out.pos hp hk
        have HN := Lib.hid (HR.out.next hp hk)
        generalize hd : (Utf8.decode s pos) = d at *
        have HD := Lib.hid hd
        clear hd
        go_wp2_with fail
        refine (cD).mono ?_
        rintro e w2 ⟨rfl, hb2⟩
        have hbw2 := hbw.trans (hb2.mono hbw.size)
        have hown2 := owns_bel hown hb2
        clear hb2 hbw cD hown
        go_wp2_with fail
        refine (rRune_yes _ _ hk).mono ?_
        rintro e w3 ⟨rfl, rfl⟩
        go_wp2_with (first | (at_builtin; refine wpList_append_own _ rfl _ _ 88 rfl w.heap.size 21 i0 (.int .i32 0) 1 4 Tryd.underlying88 hi hz0 hz1 hz2 rfl (by decide) _ _ _ rfl (hown2.alloc _) ⟨w2.heap.size, 0, none⟩ 1 1 [.int .i32 d.1] rfl rfl (cell_one_new _ _ _) (oneInt _ _) c2 c3 (by have := hbw2.size; simp; omega) ?_) | fail)
        intro v2 w3 hown3 hgrow3 _
        rw [rv_snoc] at hown3
        have hb3 : Below w.heap.size w w3 := (hbw2.alloc hbw2.size _).grown hgrow3 (by have := hbw2.size; simp; omega) (fun k h => own_ge hown2 k h)
        clear hown2 hgrow3 hbw2
        go_wp2
        go_roundw
        case rel => exact ⟨pos + d.2, _, _, hpe, by go_num, HN.out, hb3, by rw [List.length_append, List.length_singleton]; exact hown3⟩
        case measure => simp [RowKit.intOf]; omega
    · have HN := Lib.hid (HR.out.done hp)
      obtain ⟨a, cap, rfl, hra, hc, hm⟩ := reads_own hown (by rw [← HN.out.1]; exact rns_i32 s)
      have HX := Lib.hid hra
      clear hra hown
      go_wp2
      go_ret2
      refine .inl ⟨HN.out.2, a, cap, ?_, ?_, ?_, hm, hbw⟩
      · rw [HN.out.1]; rfl
      · rw [HN.out.1]; exact HX.out
      · rw [HN.out.1]; exact hc
theorem rRunes_ok (s : ByteArray) (w : World) (hT : Tabs w) (hs : s.size ≤ 60000) (hk : okT s = true) : Calls Tryd.prog 52 #[.string s] w (RRunesPost s w) :=
  (rRunes_any s w hT hs).mono fun _ _ hp => by
    rcases hp with ⟨_, h⟩ | ⟨h, _⟩
    · exact h
    · rw [hk] at h; cases h
theorem rRunes_bad (s : ByteArray) (w : World) (hT : Tabs w) (hs : s.size ≤ 60000) (hk : okT s = false) : Calls Tryd.prog 52 #[.string s] w (RNonePost w) :=
  (rRunes_any s w hT hs).mono fun _ _ hp => by
    rcases hp with ⟨h, _⟩ | ⟨_, h⟩
    · rw [hk] at h; cases h
    · exact h
end Go.Proofs.YtnkinbobnhdpaaaDoor
