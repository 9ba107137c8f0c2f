/- contracts beside: Rune; of the page's own Runes, All; EqRunes -/
import Derived.Test.YtppaiajligakpaaDoorCDoor
namespace Go.Proofs.YtppaiajligakpaaDoor
open Go.RowKit Go.Lib

theorem ret_bool {a b : Bool} (h : a = b) : Ending.returned (.bool a) = .returned (.bool b) := by rw [h]
theorem below_drewN' {B : Nat} {w wr : World} (h : Below B w wr) (n : Nat) : Below B w (wr.drewN n) := h.trans ⟨rfl, rfl, rfl, Nat.le_refl _, fun _ _ => rfl⟩
def errR (r : Int) : Int := if okR r then 0 else 1
theorem tRune_any (r : Int) (w : World) : Calls Tryd.prog 14 #[.int .i32 r] w fun e w' => e = .returned (.int .i64 (errR r)) ∧ w = w' := by
  cases h : okR r
  · rw [show errR r = 1 from by unfold errR; rw [h]; rfl]
    go_enter Tryd.func14, Tryd.ntmps14
    go_wp2_with (go_at_call 21; refine (mayBe_no _ _ h).mono ?_; rintro e w' ⟨rfl, rfl⟩)
    go_ret
    exact ⟨rfl, rfl⟩
  · rw [show errR r = 0 from by unfold errR; rw [h]; rfl]
    go_enter Tryd.func14, Tryd.ntmps14
    go_wp2_with (go_at_call 21; refine (mayBe_yes _ _ h).mono ?_; rintro e w' ⟨rfl, rfl⟩)
    go_ret
    exact ⟨rfl, rfl⟩
theorem rRune_any (r : Int) (w : World) : Calls Tryd.prog 15 #[.int .i32 r] w (Boo (okR r) w) := by
  cases h : okR r
  · exact rRune_no r w h
  · exact rRune_yes r w h

set_option maxRecDepth 100000 in
set_option maxHeartbeats 1000000 in
theorem rAll_any (a : Option Addr) (cap : Nat) (l : List Int) (w : World) (h : RunesAt w a l) (hl : l.length ≤ 60000) : Calls Tryd.prog 17 #[.slice a l.length cap] w (Boo (l.all okR) w) := by
  have H := Lib.hid h
  clear h
  go_enter Tryd.func17, Tryd.ntmps17
  go_wp2
  go_loop [3] (fun i => ∃ k : Nat, k ≤ l.length ∧ i = .int .i64 k ∧ (l.take k).all okR = true) (fun i => l.length - (RowKit.intOf i).toNat)
  case atStart => exact ⟨0, by omega, rfl, rfl⟩
  case round =>
    obtain ⟨k, hk, rfl, hall⟩ := hrel
    have HA := Lib.hid hall
    clear hall
    by_cases hlt : k < l.length
    · obtain ⟨b, off, ha, hb, hc⟩ := H.out.cell k hlt
      cases hok : okR l[k]
      · have HS := Lib.hid (all_stop hlt hok)
        generalize l[k] = r at *
        subst ha
        go_wp2_with (go_at_call 15; refine (rRune_no _ _ hok).mono ?_; rintro e w' ⟨rfl, rfl⟩)
        go_ret
        exact ⟨ret_bool HS.out.symm, rfl⟩
      · have HS := Lib.hid (all_take hlt HA.out hok)
        generalize l[k] = r at *
        subst ha
        go_wp2_with (go_at_call 15; refine (rRune_yes _ _ hok).mono ?_; rintro e w' ⟨rfl, rfl⟩)
        go_round
        case rel => exact ⟨k + 1, by omega, by go_num, HS.out⟩
        case measure => simp [RowKit.intOf]; omega
    · have HT := Lib.hid (List.take_of_length_le (l := l) (i := k) (by omega))
      go_wp2
      go_ret
      exact ⟨ret_bool (by rw [← HT.out, HA.out]), rfl⟩

set_option maxRecDepth 100000 in
set_option maxHeartbeats 1000000 in
theorem EqRunes_yes (a b : Option Addr) (ca cb : Nat) (l : List Int) (w : World) (ha : RunesAt w a l) (hb : RunesAt w b l) (hl : l.length ≤ 60000) : Calls Tryd.prog 11 #[.slice a l.length ca, .slice b l.length cb] w fun e w' => e = .returned (.bool true) ∧ Below w.heap.size w w' := by
  have HA := Lib.hid ha
  have HB := Lib.hid hb
  clear ha hb
  go_enter Tryd.func11, Tryd.ntmps11
  go_wp2
  go_loopw [5] (fun i wr => ∃ k : Nat, k ≤ l.length ∧ i = .int .i64 k ∧ Below w.heap.size w wr) (fun i _ => l.length - (RowKit.intOf i).toNat)
  case atStart => exact ⟨0, by omega, rfl, Below.refl _ _⟩
  case round =>
    obtain ⟨k, hk, rfl, hbel⟩ := hrel
    by_cases hlt : k < l.length
    · obtain ⟨b1, o1, h1, hb1, hc1⟩ := HA.out.cell k hlt
      obtain ⟨b2, o2, h2, hb2, hc2⟩ := HB.out.cell k hlt
      have hr1 : wr.cell? ⟨b1, o1 + k, none⟩ = some (.int .i32 l[k]) := (hbel.cell (p := ⟨b1, o1 + k, none⟩) hb1).trans hc1
      have hr2 : wr.cell? ⟨b2, o2 + k, none⟩ = some (.int .i32 l[k]) := (hbel.cell (p := ⟨b2, o2 + k, none⟩) hb2).trans hc2
      clear hc1 hc2
      generalize l[k] = r at *
      subst h1 h2
      go_wp2
      go_quiet (fail)
      go_wp2
      go_roundw
      case rel => exact ⟨k + 1, by omega, by go_num, below_drewN' hbel _⟩
      case measure => simp [RowKit.intOf]; omega
    · go_wp2
      go_ret
      exact ⟨rfl, hbel⟩

/-- what the page's own Runes tells -/
def RRunesPost (s : ByteArray) (w : World) (e : Ending) (w' : World) : Prop :=
  ∃ a cap, e = .returned (.tuple #[.slice a (rns s).length cap, .bool true]) ∧ RunesAt w' a (rns s) ∧ (rns s).length ≤ cap ∧ cap ≤ maxLen ∧ Below w.heap.size w w'
def RNonePost (w : World) (e : Ending) (w' : World) : Prop := e = .returned (.tuple #[.slice none 0 0, .bool false]) ∧ Below w.heap.size w w'
def RPost (s : ByteArray) (w : World) (e : Ending) (w' : World) : Prop := (okT s = true ∧ RRunesPost s w e w') ∨ (okT s = false ∧ RNonePost w e w')
theorem Rest.pos {s : ByteArray} {pos fuel : Nat} {pre : List Int} (_h : Rest s pos fuel pre) (hp : pos < s.size) (hk : okR (Utf8.decode s pos).1 = true) : pos + (Utf8.decode s pos).2 ≤ s.size := by
  refine (decode_back s pos hp ?_).1
  intro e
  have := okR_of hk
  rw [e] at this
  omega

set_option maxRecDepth 100000 in
set_option maxHeartbeats 1000000 in
theorem rRunes_any (s : ByteArray) (w : World) (hT : Tabs w) (hs : s.size ≤ 60000) : Calls Tryd.prog 8 #[.string s] w (RPost s w) := by
  obtain ⟨i0, hi, hz0, hz1, hz2⟩ := info_parts Tryd.info21
  have HTB := Lib.hid hT
  clear hT
  go_enter Tryd.func8, Tryd.ntmps8
  go_wp2
  go_loopw [4, 5] (fun v i wr => ∃ (pos fuel : Nat) (pre : List Int), pos ≤ s.size ∧ i = .int .i64 pos ∧ Rest s pos fuel pre ∧ Below w.heap.size w wr ∧ wr.ownsRow w.heap.size 21 1 v pre.length (rv pre)) (fun _ i _ => s.size - (RowKit.intOf i).toNat)
  case atStart => exact ⟨0, s.size, [], by omega, rfl, Rest.start s, Below.refl _ _, World.ownsRow_nil _ _ _ _⟩
  case round =>
    obtain ⟨pos, fuel, pre, hpl, rfl, hR, hbw, hown⟩ := hrel
    have HR := Lib.hid hR
    clear hR
    by_cases hp : pos < s.size
    · have hwd := decode_width_pos s pos hp
      have hw4 := decode_width_le s pos
      have htw := HTB.out.next hbw
      have cD := Any.utf8_DecodeRuneInString Tryd.lays197 (s.extract pos s.size) wr htw
      rw [decode_tail s pos hp] at cD
      have hlt := HR.out.lt hp
      have hi32 := decode_le s pos
      have c2 : pre.length + 1 ≤ maxLen := by unfold maxLen; omega
      have c3 : (pre.length + 1) * 4 ≤ 140737488355328 := by omega
      cases hk : okR (Utf8.decode s pos).1
      · have HN := Lib.hid (HR.out.stop hp hk)
        generalize hd : (Utf8.decode s pos) = d at *
        have HD := Lib.hid hd
        clear hd
        go_wp2_with fail
        refine (cD).mono ?_
        rintro e w2 ⟨rfl, hb2⟩
        have hbw2 := hbw.trans (hb2.mono hbw.size)
        clear hb2 hbw cD hown
        go_wp2_with fail
        refine (rRune_no _ _ hk).mono ?_
        rintro e w3 ⟨rfl, rfl⟩
        go_wp2
        go_ret2
        exact .inr ⟨HN.out, rfl, hbw2⟩
      · have hpe := HR.out.pos hp hk
        have HN := Lib.hid (HR.out.next hp hk)
        generalize hd : (Utf8.decode s pos) = d at *
        have HD := Lib.hid hd
        clear hd
        go_wp2_with fail
        refine (cD).mono ?_
        rintro e w2 ⟨rfl, hb2⟩
        have hbw2 := hbw.trans (hb2.mono hbw.size)
        have hown2 := owns_bel hown hb2
        clear hb2 hbw cD hown
        go_wp2_with fail
        refine (rRune_yes _ _ hk).mono ?_
        rintro e w3 ⟨rfl, rfl⟩
        go_wp2_with (first | (at_builtin; refine wpList_append_own _ rfl _ _ 23 rfl w.heap.size 21 i0 (.int .i32 0) 1 4 Tryd.underlying23 hi hz0 hz1 hz2 rfl (by decide) _ _ _ rfl (hown2.alloc _) ⟨w2.heap.size, 0, none⟩ 1 1 [.int .i32 d.1] rfl rfl (cell_one_new _ _ _) (oneInt _ _) c2 c3 (by have := hbw2.size; simp; omega) ?_) | fail)
        intro v2 w3 hown3 hgrow3 _
        rw [rv_snoc] at hown3
        have hb3 : Below w.heap.size w w3 := (hbw2.alloc hbw2.size _).grown hgrow3 (by have := hbw2.size; simp; omega) (fun k h => own_ge hown2 k h)
        clear hown2 hgrow3 hbw2
        go_wp2
        go_roundw
        case rel => exact ⟨pos + d.2, _, _, hpe, by go_num, HN.out, hb3, by rw [List.length_append, List.length_singleton]; exact hown3⟩
        case measure => simp [RowKit.intOf]; omega
    · have HN := Lib.hid (HR.out.done hp)
      obtain ⟨a, cap, rfl, hra, hc, hm⟩ := reads_own hown (by rw [← HN.out.1]; exact rns_i32 s)
      have HX := Lib.hid hra
      clear hra hown
      go_wp2
      go_ret2
      refine .inl ⟨HN.out.2, a, cap, ?_, ?_, ?_, hm, hbw⟩
      · rw [HN.out.1]; rfl
      · rw [HN.out.1]; exact HX.out
      · rw [HN.out.1]; exact hc
theorem rRunes_ok (s : ByteArray) (w : World) (hT : Tabs w) (hs : s.size ≤ 60000) (hk : okT s = true) : Calls Tryd.prog 8 #[.string s] w (RRunesPost s w) :=
  (rRunes_any s w hT hs).mono fun _ _ hp => by
    rcases hp with ⟨_, h⟩ | ⟨h, _⟩
    · exact h
    · rw [hk] at h; cases h
theorem rRunes_bad (s : ByteArray) (w : World) (hT : Tabs w) (hs : s.size ≤ 60000) (hk : okT s = false) : Calls Tryd.prog 8 #[.string s] w (RNonePost w) :=
  (rRunes_any s w hT hs).mono fun _ _ hp => by
    rcases hp with ⟨h, _⟩ | ⟨_, h⟩
    · rw [hk] at h; cases h
    · exact h
theorem EqRunes_n (a b : Option Addr) (ca cb n : Nat) (l : List Int) (w : World) (ha : RunesAt w a l) (hb : RunesAt w b l) (hn : l.length = n) (hl : n ≤ 60000) : Calls Tryd.prog 11 #[.slice a n ca, .slice b n cb] w fun e w' => e = .returned (.bool true) ∧ Below w.heap.size w w' := by
  subst hn; exact EqRunes_yes a b ca cb l w ha hb hl
end Go.Proofs.YtppaiajligakpaaDoor
