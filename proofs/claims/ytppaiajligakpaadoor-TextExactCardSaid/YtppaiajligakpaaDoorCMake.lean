/- contracts of package text: Make, Cut; of the page's own Make -/
import Derived.Test.YtppaiajligakpaaDoorCRunes
import Derived.Laws.Runes
namespace Go.Proofs.YtppaiajligakpaaDoor
open Go.RowKit Go.Lib

/-- what Make tells -/
def MakeOk (l : List Int) (w : World) (e : Ending) (w' : World) : Prop := e = .returned (.tuple #[S (mk l), .int .i64 0]) ∧ Below w.heap.size w w'
def MakeNo (w : World) (e : Ending) (w' : World) : Prop := e = .returned (.tuple #[S [], .int .i64 1]) ∧ Below w.heap.size w w'
def MakePost (l : List Int) (w : World) (e : Ending) (w' : World) : Prop := (l.all okR = true ∧ MakeOk l w e w') ∨ (l.all okR = false ∧ MakeNo w e w')

theorem take_snoc' {l : List Int} {k : Nat} (h : k < l.length) : l.take (k + 1) = l.take k ++ [l[k]] := List.take_succ_eq_append_getElem h
theorem all_stop {l : List Int} {k : Nat} (h : k < l.length) (hk : okR l[k] = false) : l.all okR = false := by
  rw [List.all_eq_false]
  exact ⟨l[k], List.getElem_mem h, by rw [hk]; simp⟩
theorem all_take {l : List Int} {k : Nat} (h : k < l.length) (ha : (l.take k).all okR = true) (hk : okR l[k] = true) : (l.take (k + 1)).all okR = true := by
  rw [take_snoc' h, List.all_append, ha]; simp [hk]

set_option maxRecDepth 100000 in
set_option maxHeartbeats 1000000 in
theorem Make_any (a : Option Addr) (cap : Nat) (l : List Int) (w : World) (h : RunesAt w a l) (hl : l.length ≤ 60000) : Calls Tryd.prog 16 #[.slice a l.length cap] w (MakePost l w) := by
  have H := Lib.hid h
  clear h
  go_enter Tryd.func16, Tryd.ntmps16
  go_wp2
  go_loopw [9] (fun i wr => ∃ k : Nat, k ≤ l.length ∧ i = .int .i64 k ∧ Lib.IsBuilderF 54 5 w.heap.size w.heap.size (Lib.byteCells (mk (l.take k))) wr ∧ Below w.heap.size w wr ∧ (l.take k).all okR = true) (fun i _ => l.length - (RowKit.intOf i).toNat)
  case atStart => exact ⟨0, by omega, rfl, Lib.IsBuilderF.of (Lib.fresh_isBuilder 54 5 w), (Below.refl _ w).alloc (Nat.le_refl _) _, rfl⟩
  case round =>
    obtain ⟨k, hk, rfl, hI, hbw, hall⟩ := hrel
    have HA := Lib.hid hall
    clear hall
    have hsz : w.heap.size ≤ wr.heap.size := hbw.size
    by_cases hlt : k < l.length
    · obtain ⟨b, off, ha, hb, hc⟩ := H.out.cell k hlt
      have hr := H.out.i32 l[k] (List.getElem_mem hlt)
      have hc2 : wr.cell? ⟨b, off + k, none⟩ = some (.int .i32 l[k]) := (hbw.cell (p := ⟨b, off + k, none⟩) hb).trans hc
      have hml := mk_length (l.take k)
      have hlk : (l.take k).length ≤ k := List.length_take_le _ _
      have HT := Lib.hid (take_snoc' hlt)
      cases hok : okR l[k]
      · have HS := Lib.hid (all_stop hlt hok)
        clear hc
        generalize l[k] = r at *
        subst ha
        go_wp2_with (go_at_call 21; refine (mayBe_no _ _ hok).mono ?_; rintro e w' ⟨rfl, rfl⟩)
        go_ret2
        exact .inr ⟨HS.out, rfl, hbw⟩
      · have HS := Lib.hid (all_take hlt HA.out hok)
        clear hc
        generalize l[k] = r at *
        subst ha
        have cW := Any.Builder_WriteRune_k Tryd.lays168 Tryd.Builder_Extra_168 w.heap.size w.heap.size _ r hr.1 hr.2 wr hI (by rw [Lib.byteCells_length]; omega) hsz
        go_wp2_with (first | (go_at_call 21; refine (mayBe_yes _ _ hok).mono ?_; rintro e w' ⟨rfl, rfl⟩) | (go_at_call 22; refine Calls.mono cW ?_))
        rintro e W1 ⟨rfl, h1, b1, k1⟩
        have hb1 := hbw.trans b1
        clear k1 b1 hI cW
        go_wp2
        go_roundw
        case rel => exact ⟨k + 1, by omega, by go_num, by rw [HT.out, mk_append, Lib.byteCells_append, show mk [r] = Lib.encodeRune r from by simp [mk], Lib.byteCells_encodeRune]; exact Or.inr h1, hb1, HS.out⟩
        case measure => simp [RowKit.intOf]; omega
    · have HT := Lib.hid (List.take_of_length_le (l := l) (i := k) (by omega))
      have cS := Any.Builder_String_any_k Tryd.lays169 Tryd.Builder_Extra_169 w.heap.size w.heap.size (mk (l.take k)) wr hI hsz
      go_wp2_with (go_at_call 23; refine Calls.mono cS ?_)
      rintro e W1 ⟨rfl, _, b1, _⟩
      have hb1 := hbw.trans b1
      clear b1 hI cS
      go_wp2
      go_ret2
      exact .inl ⟨by rw [← HT.out]; exact HA.out, (show Ending.returned (.tuple #[S (mk (l.take k)), .int .i64 0]) = .returned (.tuple #[S (mk l), .int .i64 0]) by rw [HT.out]), hb1⟩

theorem Make_ok (a : Option Addr) (cap : Nat) (l : List Int) (w : World) (h : RunesAt w a l) (hl : l.length ≤ 60000) (hk : l.all okR = true) : Calls Tryd.prog 16 #[.slice a l.length cap] w (MakeOk l w) :=
  (Make_any a cap l w h hl).mono fun _ _ hp => by
    rcases hp with ⟨_, h1⟩ | ⟨h0, _⟩
    · exact h1
    · rw [hk] at h0; cases h0
theorem Make_okn (a : Option Addr) (cap n : Nat) (l : List Int) (w : World) (h : RunesAt w a l) (hn : l.length = n) (hl : n ≤ 60000) (hk : l.all okR = true) : Calls Tryd.prog 16 #[.slice a n cap] w (MakeOk l w) := by
  subst hn; exact Make_ok a cap l w h hl hk
theorem Make_no (a : Option Addr) (cap : Nat) (l : List Int) (w : World) (h : RunesAt w a l) (hl : l.length ≤ 60000) (hk : l.all okR = false) : Calls Tryd.prog 16 #[.slice a l.length cap] w (MakeNo w) :=
  (Make_any a cap l w h hl).mono fun _ _ hp => by
    rcases hp with ⟨h0, _⟩ | ⟨_, h1⟩
    · rw [hk] at h0; cases h0
    · exact h1

/-- what Cut tells -/
def CutIs (out : List UInt8) (err : Int) (w : World) (e : Ending) (w' : World) : Prop := e = .returned (.tuple #[S out, .int .i64 err]) ∧ Below w.heap.size w w'
def sub (l : List Int) (f t : Nat) : List Int := (l.drop f).take (t - f)
theorem sub_length {l : List Int} {f t : Nat} (_h1 : f ≤ t) (h2 : t ≤ l.length) : (sub l f t).length = t - f := by
  unfold sub; rw [List.length_take, List.length_drop]; omega
theorem sub_all {l : List Int} (h : l.all okR = true) (f t : Nat) : (sub l f t).all okR = true := by
  rw [List.all_eq_true] at h ⊢
  exact fun r hr => h r (List.mem_of_mem_drop (List.mem_of_mem_take hr))

set_option maxRecDepth 100000 in
set_option maxHeartbeats 1000000 in
theorem Cut_bad (s : ByteArray) (f t : Int) (w : World) (hk : okT s = false) : Calls Tryd.prog 12 #[.string s, .int .i64 f, .int .i64 t] w (CutIs [] 1 w) := by
  go_enter Tryd.func12, Tryd.ntmps12
  go_wp2_with (go_at_call 6; refine (Runes_bad s _ hk).mono ?_; rintro e w1 ⟨rfl, hb⟩)
  go_ret2
  exact ⟨rfl, hb⟩

set_option maxRecDepth 100000 in
set_option maxHeartbeats 1000000 in
theorem Cut_lim (s : ByteArray) (f t : Int) (w : World) (hk : okT s = true) (hs : s.size ≤ 60000) (hl : f < 0 ∨ t < f ∨ ((rns s).length : Int) < t) : Calls Tryd.prog 12 #[.string s, .int .i64 f, .int .i64 t] w (CutIs [] 2 w) := by
  have c := Runes_ok s w hk hs
  by_cases h1 : f < 0
  · have d1 : decide (f < 0) = true := by simp; omega
    clear hl
    go_enter Tryd.func12, Tryd.ntmps12
    go_wp2_with (go_at_call 6; refine c.mono ?_; rintro e w1 ⟨a, cap, rfl, _, _, _, hb⟩)
    go_ret2
    exact ⟨rfl, hb⟩
  have d1 : decide (f < 0) = false := by simp; omega
  by_cases h2 : t < f
  · have d2 : decide (t < f) = true := by simp; omega
    clear hl
    go_enter Tryd.func12, Tryd.ntmps12
    go_wp2_with (go_at_call 6; refine c.mono ?_; rintro e w1 ⟨a, cap, rfl, _, _, _, hb⟩)
    go_ret2
    exact ⟨rfl, hb⟩
  have d2 : decide (t < f) = false := by simp; omega
  have h3 : ((rns s).length : Int) < t := by omega
  have d3 : decide (((rns s).length : Int) < t) = true := by simp; omega
  clear hl
  go_enter Tryd.func12, Tryd.ntmps12
  go_wp2_with (go_at_call 6; refine c.mono ?_; rintro e w1 ⟨a, cap, rfl, _, _, _, hb⟩)
  go_ret2
  exact ⟨rfl, hb⟩

theorem RunesAt.sub {w : World} {a : Option Addr} {l : List Int} (h : RunesAt w a l) {f t cap : Nat} (_h1 : f ≤ t) (_h2 : t ≤ l.length) (hc : l.length ≤ cap) : RunesAt w (if cap = f then a else a.map (·.add f)) (sub l f t) := by
  by_cases hf : f < l.length
  · rw [if_neg (by omega)]
    exact (h.drop hf).take _
  · have : Go.Proofs.YtppaiajligakpaaDoor.sub l f t = [] := by unfold Go.Proofs.YtppaiajligakpaaDoor.sub; rw [List.drop_eq_nil_of_le (by omega)]; simp
    rw [this]
    exact RunesAt.nil _

set_option maxRecDepth 100000 in
set_option maxHeartbeats 1000000 in
theorem Cut_ok (s : ByteArray) (f t : Nat) (w : World) (hk : okT s = true) (hs : s.size ≤ 60000) (h1 : f ≤ t) (h2 : t ≤ (rns s).length) : Calls Tryd.prog 12 #[.string s, .int .i64 f, .int .i64 t] w (CutIs (mk (sub (rns s) f t)) 0 w) := by
  have c := Runes_ok s w hk hs
  have hrl := rns_length s
  have hall : (sub (rns s) f t).all okR = true := sub_all hk f t
  have HA := Lib.hid hall
  clear hall
  have HL := Lib.hid (sub_length h1 h2)
  clear hk
  have d1 : decide ((f : Int) < 0) = false := by simp
  have d2 : decide (t < f) = false := by simp; omega
  have d3 : decide ((rns s).length < t) = false := by simp; omega
  go_enter Tryd.func12, Tryd.ntmps12
  go_wp2_with (go_at_call 6; refine c.mono ?_; rintro e w1 ⟨a, cap, rfl, hr, hc, hm, hb⟩; have HR := Lib.hid (hr.sub h1 h2 hc); clear hr; unfold maxLen at hm)
  all_goals
    refine (Make_okn _ _ _ (sub (rns s) f t) _ ?_ HL.out (by omega) HA.out).mono ?_
    · have h := HR.out
      first
        | (rw [if_pos ‹_›] at h; exact h)
        | (rw [if_neg ‹_›] at h; exact h)
    rintro e w2 ⟨rfl, hb2⟩
    have hb3 := hb.trans (hb2.mono hb.size)
    go_wp2
    go_ret2
    exact ⟨rfl, hb3⟩

theorem ba_join (a b : List UInt8) : Value.string ((⟨a.toArray⟩ : ByteArray) ++ (⟨b.toArray⟩ : ByteArray)) = S (a ++ b) := by
  unfold S
  congr 1
/-- the page's own Make -/
def StrPost (l : List UInt8) (w : World) (e : Ending) (w' : World) : Prop := e = .returned (S l) ∧ w = w'
set_option maxRecDepth 100000 in
set_option maxHeartbeats 1000000 in
theorem rMake (a : Option Addr) (cap : Nat) (l : List Int) (w : World) (h : RunesAt w a l) (hl : l.length ≤ 60000) : Calls Tryd.prog 13 #[.slice a l.length cap] w (StrPost (mk l) w) := by
  have H := Lib.hid h
  clear h
  go_enter Tryd.func13, Tryd.ntmps13
  go_wp2
  go_loop [3, 4] (fun t i => ∃ k : Nat, k ≤ l.length ∧ i = .int .i64 k ∧ t = S (mk (l.take k))) (fun _ i => l.length - (RowKit.intOf i).toNat)
  case atStart => exact ⟨0, by omega, rfl, rfl⟩
  case round =>
    obtain ⟨k, hk, rfl, rfl⟩ := hrel
    by_cases hlt : k < l.length
    · obtain ⟨b, off, ha, hb, hc⟩ := H.out.cell k hlt
      have HT := Lib.hid (take_snoc' hlt)
      have hml := mk_length (l.take k)
      have hlk : (l.take k).length ≤ k := List.length_take_le _ _
      have hel := encodeRune_le l[k]
      generalize l[k] = r at *
      have hen := encode_eq r
      generalize hM : mk (l.take k) = M at *
      generalize hE : Lib.encodeRune r = E at *
      have HM := Lib.hid hM
      have HE := Lib.hid hE
      clear hM hE
      subst ha
      go_wp2
      go_round
      case rel =>
        refine ⟨k + 1, by omega, by go_num, ?_⟩
        rw [HT.out, mk_append, HM.out, show mk [r] = Lib.encodeRune r from by simp [mk], HE.out]
        exact ba_join M E
      case measure => simp [RowKit.intOf]; omega
    · have HT := Lib.hid (List.take_of_length_le (l := l) (i := k) (by omega))
      go_wp2
      go_ret
      exact ⟨(show Ending.returned (S (mk (l.take k))) = .returned (S (mk l)) by rw [HT.out]), rfl⟩
end Go.Proofs.YtppaiajligakpaaDoor
