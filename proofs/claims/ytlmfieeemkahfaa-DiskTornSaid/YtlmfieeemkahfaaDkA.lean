/- rows of texts, of sectors, of numbers; disks: what may be read, what is of the call's own -/
import Derived.Test.YtlmfieeemkahfaaProg
import Derived.WalkKit
import Derived.BigCall
import Derived.Below
import Derived.Lib.Hide
import Derived.BigQuiet
import Derived.Deep.QuietTactic
import Derived.Maps.AppendAt
import Derived.WalkLawsBesides
import Derived.Handy
import Derived.Lib.QuietBelow
import Derived.IntWalk
import Derived.Laws.OwnMore
import Derived.StillTailTactics
import Derived.Deep.AppendLies
import Derived.Deep.RegionLaw
import Derived.Deep.RegionHeld3
import Derived.Deep.DeepCutAuto
import Derived.Deep.CutBlock
import Derived.Lib.ConvBytes
namespace Go.Proofs.Ytlmfieeemkahfaa
open Go.RowKit Go.Lib

def BIG : Nat := 140737488351232
theorem big_is : (BIG : Int) ≤ 140737488351232 := by decide
theorem ret_bool {a b : Bool} (h : a = b) : Ending.returned (.bool a) = .returned (.bool b) := by rw [h]
def Bo (b : Bool) (w : World) (e : Ending) (w' : World) : Prop := e = .returned (.bool b) ∧ w = w'
def BoB (b : Bool) (w : World) (e : Ending) (w' : World) : Prop := e = .returned (.bool b) ∧ Below w.heap.size w w'
def IntB (n : Int) (w : World) (e : Ending) (w' : World) : Prop := e = .returned (.int .i64 n) ∧ Below w.heap.size w w'
theorem below_al (w : World) (o : Obj) : Below w.heap.size w (w.alloc o) := (Below.refl _ _).alloc (Nat.le_refl _) o
theorem below_alx {w1 wx : World} (h : Below w1.heap.size w1 wx) (o : Obj) : Below w1.heap.size w1 (wx.alloc o) := h.alloc h.size o
theorem below_dr (w : World) : Below w.heap.size w w.drew := (Below.refl _ _).drew
theorem below_drN {B : Nat} {w wr : World} (h : Below B w wr) (n : Nat) : Below B w (wr.drewN n) := h.trans ⟨rfl, rfl, rfl, Nat.le_refl _, fun _ _ => rfl⟩
theorem below_next {w1 wc w2 : World} (h : Below w1.heap.size w1 wc) (hs : Below wc.heap.size wc w2) : Below w1.heap.size w1 w2 := h.trans (hs.mono h.size)
theorem owns_belE {w w' : World} {base : Nat} {e : TypeId} {size : Nat} {v : Value} {n : Nat} {xs : List Value} (h : w.ownsRow base e size v n xs) (hb : Below w.heap.size w w') : w'.ownsRow base e size v n xs := by
  obtain ⟨h1, h2⟩ := h
  refine ⟨h1, ?_⟩
  rcases h2 with h2 | ⟨g, cap, cur, hv, hg, hh, r⟩
  · exact .inl h2
  · refine .inr ⟨g, cap, cur, hv, hg, ?_, r⟩
    rw [hb.block g (by by_cases hlt : g < w.heap.size; exact hlt; rw [Array.getElem?_eq_none (by omega)] at hh; cases hh)]
    exact hh
theorem owns_base {w : World} {b b' : Nat} {e : TypeId} {size : Nat} {v : Value} {n : Nat} {xs : List Value} (h : w.ownsRow b e size v n xs) (hb : b' ≤ b) : w.ownsRow b' e size v n xs := by
  obtain ⟨h1, h2⟩ := h
  refine ⟨h1, ?_⟩
  rcases h2 with h2 | ⟨g, cap, cur, hv, hg, r⟩
  · exact .inl h2
  · exact .inr ⟨g, cap, cur, hv, Nat.le_trans hb hg, r⟩
theorem own_ge {w : World} {base : Nat} {e : TypeId} {size : Nat} {v : Value} {n : Nat} {xs : List Value} (h : w.ownsRow base e size v n xs) : ∀ k, v.ownBlock = some k → base ≤ k := fun k hk => (h.lt k hk).1
theorem kset_other {w : World} {b c : Nat} {v : Value} {k : Nat} (h : k ≠ b) : (w.setCell ⟨b, c, none⟩ v).heap[k]? = w.heap[k]? := Below.heap_setCell w _ v k h
theorem bcell9 {W w1 : World} (hb : Below W.heap.size W w1) : (∀ b o, b < W.heap.size → w1.cell? ⟨b, o, none⟩ = W.cell? ⟨b, o, none⟩) ∧ (∀ b o, b < W.heap.size → w1.frozen? ⟨b, o, none⟩ = W.frozen? ⟨b, o, none⟩) ∧ W.heap.size ≤ w1.heap.size :=
  ⟨fun b o h => hb.cell (p := ⟨b, o, none⟩) h, fun b o h => hb.frozen (p := ⟨b, o, none⟩) h, hb.size⟩
theorem new_heap (w : World) (cs : Array Value) (t : TypeId) : (w.alloc (.cells cs t)).heap[w.heap.size]? = some (.cells cs t (0, 0)) := by
  show (w.heap.push _)[w.heap.size]? = _
  rw [Array.getElem?_push, if_pos rfl]
/-- a block of cells -/
structure Hp (t : TypeId) (w : World) (b : Nat) (cs : Array Value) : Prop where
  heap : w.heap[b]? = some (.cells cs t (0, 0))
theorem Hp.lt {t : TypeId} {w : World} {b : Nat} {cs : Array Value} (h : Hp t w b cs) : b < w.heap.size := (Array.getElem?_eq_some_iff.1 h.heap).1
theorem Hp.cell {t : TypeId} {w : World} {b : Nat} {cs : Array Value} (h : Hp t w b cs) (j : Nat) {u : Value} (hu : cs[j]? = some u) : w.cell? ⟨b, j, none⟩ = some u := by rw [cell_of_row w b j _ _ _ h.heap]; exact hu
theorem Hp.fr {t : TypeId} {w : World} {b : Nat} {cs : Array Value} (h : Hp t w b cs) (j : Nat) : w.frozen? ⟨b, j, none⟩ = false := by simp [World.frozen?, h.heap]
theorem Hp.new (w : World) (cs : Array Value) (t : TypeId) : Hp t (w.alloc (.cells cs t)) w.heap.size cs := ⟨new_heap w cs t⟩
theorem Hp.step {t : TypeId} {w w' : World} {b : Nat} {cs : Array Value} (h : Hp t w b cs) (hb : Below w.heap.size w w') : Hp t w' b cs := ⟨(hb.block b h.lt).trans h.heap⟩
theorem Hp.below {t : TypeId} {w w' : World} {b B : Nat} {cs : Array Value} (h : Hp t w b cs) (hb : Below B w w') (hlt : b < B) : Hp t w' b cs := ⟨(hb.block b hlt).trans h.heap⟩
theorem Hp.far {t : TypeId} {w : World} {b k c : Nat} {cs : Array Value} (h : Hp t w b cs) (hne : b ≠ k) (v : Value) : Hp t (w.setCell ⟨k, c, none⟩ v) b cs := ⟨(kset_other hne).trans h.heap⟩
theorem Hp.set {t : TypeId} {w : World} {b : Nat} {cs : Array Value} (h : Hp t w b cs) (c : Nat) (v : Value) : Hp t (w.setCell ⟨b, c, none⟩ v) b (cs.setIfInBounds c v) := ⟨heap_setCell_same w b c _ _ v h.heap⟩

theorem Try.infoStr : (Try.prog.info? 9).map (fun i => (i.zero, i.size, i.bytes)) = some (some (.string ⟨#[]⟩), 1, 16) := by kernel_rfl
theorem Try.infoInt : (Try.prog.info? 3).map (fun i => (i.zero, i.size, i.bytes)) = some (some (.int .i64 0), 1, 8) := by kernel_rfl
theorem Try.infoSec : (Try.prog.info? 73).map (fun i => (i.zero, i.size, i.bytes)) = some (some (.agg #[.int .i64 0, .string ⟨#[]⟩]), 2, 24) := by kernel_rfl
/-- texts that may be read -/
structure StrsAt (w : World) (a : Option Addr) (ss : List ByteArray) : Prop where
  cell : ∀ j (h : j < ss.length), ∃ b off, a = some ⟨b, off, none⟩ ∧ b < w.heap.size ∧ w.cell? ⟨b, off + j, none⟩ = some (.string ss[j])
  len : ss.length ≤ BIG
  size : ∀ j (h : j < ss.length), ss[j].size ≤ BIG
theorem StrsAt.below {w w' : World} {a : Option Addr} {ss : List ByteArray} (h : StrsAt w a ss) (hb : Below w.heap.size w w') : StrsAt w' a ss :=
  ⟨fun j hj => by obtain ⟨b, off, h1, h2, h3⟩ := h.cell j hj; exact ⟨b, off, h1, Nat.lt_of_lt_of_le h2 hb.size, (hb.cell (p := ⟨b, off + j, none⟩) h2).trans h3⟩, h.len, h.size⟩
/-- numbers that may be read -/
structure NumsAt (w : World) (a : Option Addr) (l : List Int) : Prop where
  cell : ∀ j (h : j < l.length), ∃ b off, a = some ⟨b, off, none⟩ ∧ b < w.heap.size ∧ w.cell? ⟨b, off + j, none⟩ = some (.int .i64 l[j])
  len : l.length ≤ BIG
theorem NumsAt.below {w w' : World} {a : Option Addr} {l : List Int} (h : NumsAt w a l) (hb : Below w.heap.size w w') : NumsAt w' a l :=
  ⟨fun j hj => by obtain ⟨b, off, h1, h2, h3⟩ := h.cell j hj; exact ⟨b, off, h1, Nat.lt_of_lt_of_le h2 hb.size, (hb.cell (p := ⟨b, off + j, none⟩) h2).trans h3⟩, h.len⟩
/-- a sector that waits -/
structure SeD where
  pl : Int
  text : ByteArray
def SeD.cs (s : SeD) : List Value := [.int .i64 s.pl, .string s.text]
def SeD.v (s : SeD) : Value := .agg #[.int .i64 s.pl, .string s.text]
def scs (l : List SeD) : List Value := l.flatMap SeD.cs
theorem scs_append (a b : List SeD) : scs (a ++ b) = scs a ++ scs b := by simp [scs]
theorem scs_length (l : List SeD) : (scs l).length = 2 * l.length := by
  induction l with
  | nil => rfl
  | cons e l ih => show (SeD.cs e ++ scs l).length = _; rw [List.length_append, ih, List.length_cons]; show 2 + _ = _; omega
theorem scs_get (l : List SeD) (j c : Nat) (h : j < l.length) (hc : c < 2) : (scs l)[j * 2 + c]? = (SeD.cs l[j])[c]? := by
  induction l generalizing j with
  | nil => exact absurd h (by simp)
  | cons e l ih =>
    show (SeD.cs e ++ scs l)[j * 2 + c]? = _
    cases j with
    | zero =>
      rw [List.getElem?_append_left (by show 0 * 2 + c < 2; omega)]
      simp
    | succ j =>
      rw [List.getElem?_append_right (by show 2 ≤ _; omega)]
      have : (j + 1) * 2 + c - (SeD.cs e).length = j * 2 + c := by show (j + 1) * 2 + c - 2 = _; omega
      rw [this, ih j (by simpa using h)]
      simp
theorem se_one (e : SeD) : ∀ u ∈ SeD.cs e, u.oneCell' = true := by
  intro u hu
  simp only [SeD.cs, List.mem_cons, List.not_mem_nil, or_false] at hu
  rcases hu with rfl | rfl <;> rfl
theorem scs_one (l : List SeD) : ∀ u ∈ scs l, u.oneCell' = true := by
  intro u hu
  obtain ⟨r, _, h⟩ := List.mem_flatMap.1 hu
  exact se_one r u h
structure SecsAt (w : World) (a : Option Addr) (l : List SeD) : Prop where
  cell : ∀ j (h : j < l.length), ∃ b off, a = some ⟨b, off, none⟩ ∧ b < w.heap.size ∧ w.cell? ⟨b, off + j * 2, none⟩ = some (.int .i64 l[j].pl) ∧ w.cell? ⟨b, off + j * 2 + 1, none⟩ = some (.string l[j].text)
  len : l.length ≤ BIG
  size : ∀ j (h : j < l.length), l[j].text.size ≤ BIG
theorem SecsAt.below {w w' : World} {a : Option Addr} {l : List SeD} (h : SecsAt w a l) (hb : Below w.heap.size w w') : SecsAt w' a l :=
  ⟨fun j hj => by
    obtain ⟨b, off, h1, h2, h3, h4⟩ := h.cell j hj
    exact ⟨b, off, h1, Nat.lt_of_lt_of_le h2 hb.size, (hb.cell (p := ⟨b, off + j * 2, none⟩) h2).trans h3, (hb.cell (p := ⟨b, off + j * 2 + 1, none⟩) h2).trans h4⟩, h.len, h.size⟩
theorem SecsAt.nil (w : World) : SecsAt w none [] := ⟨fun j hj => absurd hj (by simp), Nat.zero_le _, fun j hj => absurd hj (by simp)⟩
theorem StrsAt.nil (w : World) : StrsAt w none [] := ⟨fun j hj => absurd hj (by simp), Nat.zero_le _, fun j hj => absurd hj (by simp)⟩
/-- texts, numbers as cells -/
def svs (l : List ByteArray) : List Value := l.map Value.string
def nvs (l : List Int) : List Value := l.map (Value.int .i64)
theorem svs_append (a b : List ByteArray) : svs (a ++ b) = svs a ++ svs b := List.map_append
theorem nvs_append (a b : List Int) : nvs (a ++ b) = nvs a ++ nvs b := List.map_append
theorem svs_length (l : List ByteArray) : (svs l).length = l.length := List.length_map _
theorem svs_get {l : List ByteArray} {j : Nat} (h : j < l.length) : (svs l)[j]? = some (.string l[j]) := by simp [svs, h]
theorem nvs_get {l : List Int} {j : Nat} (h : j < l.length) : (nvs l)[j]? = some (.int .i64 l[j]) := by simp [nvs, h]
/-- texts in a row of the call's own -/
structure OwnS (base : Nat) (w : World) (v : Value) (SS : List ByteArray) : Prop where
  own : w.ownsRow base 9 1 v SS.length (svs SS)
  size : ∀ x ∈ SS, x.size ≤ BIG
  len : SS.length ≤ BIG
structure OwnE (base : Nat) (w : World) (v : Value) (l : List SeD) : Prop where
  own : w.ownsRow base 73 2 v l.length (scs l)
  size : ∀ x ∈ l, x.text.size ≤ BIG
  len : l.length ≤ BIG
structure OwnN (base : Nat) (w : World) (v : Value) (l : List Int) : Prop where
  own : w.ownsRow base 3 1 v l.length (nvs l)
  len : l.length ≤ BIG
theorem OwnS.below {base : Nat} {w w' : World} {v : Value} {SS : List ByteArray} (h : OwnS base w v SS) (hb : Below w.heap.size w w') : OwnS base w' v SS := ⟨owns_belE h.own hb, h.size, h.len⟩
theorem OwnE.below {base : Nat} {w w' : World} {v : Value} {SS : List SeD} (h : OwnE base w v SS) (hb : Below w.heap.size w w') : OwnE base w' v SS := ⟨owns_belE h.own hb, h.size, h.len⟩
theorem OwnN.below {base : Nat} {w w' : World} {v : Value} {l : List Int} (h : OwnN base w v l) (hb : Below w.heap.size w w') : OwnN base w' v l := ⟨owns_belE h.own hb, h.len⟩
theorem OwnS.at_ {base : Nat} {w : World} {v : Value} {SS : List ByteArray} (h : OwnS base w v SS) : ∃ a c, v = .slice a SS.length c ∧ StrsAt w a SS ∧ SS.length ≤ c ∧ (SS.length = 0 ∨ ∃ g, a = some ⟨g, 0, none⟩ ∧ base ≤ g) := by
  rcases h.own.2 with ⟨hv, h0⟩ | ⟨g, cap, cur, hv, hg, hh, hc, hm, hcs, ht⟩
  · exact ⟨none, 0, by rw [hv, h0], ⟨fun j hj => by omega, h.len, fun j hj => by omega⟩, by omega, .inl h0⟩
  · refine ⟨_, cap, hv, ⟨fun j hj => ⟨g, 0, rfl, (Array.getElem?_eq_some_iff.1 hh).1, ?_⟩, h.len, fun j hj => h.size _ (List.getElem_mem hj)⟩, hc, .inr ⟨g, rfl, hg⟩⟩
    have h1 := h.own
    subst hv
    rw [Nat.zero_add]
    have h2 := h1.cellAt j (by omega)
    rw [h2]
    exact svs_get hj
theorem OwnE.at_ {base : Nat} {w : World} {v : Value} {l : List SeD} (h : OwnE base w v l) : ∃ a c, v = .slice a l.length c ∧ SecsAt w a l ∧ l.length ≤ c ∧ (l.length = 0 ∨ ∃ g, a = some ⟨g, 0, none⟩ ∧ base ≤ g) := by
  rcases h.own.2 with ⟨hv, h0⟩ | ⟨g, cap, cur, hv, hg, hh, hc, hm, hcs, ht⟩
  · exact ⟨none, 0, by rw [hv, h0], ⟨fun j hj => by omega, h.len, fun j hj => by omega⟩, by omega, .inl h0⟩
  · have h1 := h.own
    refine ⟨_, cap, hv, ⟨fun j hj => ⟨g, 0, rfl, (Array.getElem?_eq_some_iff.1 hh).1, ?_, ?_⟩, h.len, fun j hj => h.size _ (List.getElem_mem hj)⟩, hc, .inr ⟨g, rfl, hg⟩⟩
    all_goals subst hv
    · rw [Nat.zero_add, h1.cellAt (j * 2) (by omega)]
      exact scs_get l j 0 hj (by decide)
    · rw [Nat.zero_add, h1.cellAt (j * 2 + 1) (by omega)]
      exact scs_get l j 1 hj (by decide)
theorem OwnN.at_ {base : Nat} {w : World} {v : Value} {l : List Int} (h : OwnN base w v l) : ∃ a c, v = .slice a l.length c ∧ NumsAt w a l ∧ l.length ≤ c := by
  rcases h.own.2 with ⟨hv, h0⟩ | ⟨g, cap, cur, hv, hg, hh, hc, hm, hcs, ht⟩
  · exact ⟨none, 0, by rw [hv, h0], ⟨fun j hj => by omega, h.len⟩, by omega⟩
  · refine ⟨_, cap, hv, ⟨fun j hj => ⟨g, 0, rfl, (Array.getElem?_eq_some_iff.1 hh).1, ?_⟩, h.len⟩, hc⟩
    have h1 := h.own
    subst hv
    rw [Nat.zero_add]
    have h2 := h1.cellAt j (by omega)
    rw [h2]
    exact nvs_get hj
theorem strs_none {w : World} {l : List ByteArray} (h : StrsAt w none l) : l = [] := by
  by_cases h0 : 0 < l.length
  · obtain ⟨b, off, h1, _⟩ := h.cell 0 h0
    cases h1
  · exact List.eq_nil_of_length_eq_zero (by omega)
theorem secs_none {w : World} {l : List SeD} (h : SecsAt w none l) : l = [] := by
  by_cases h0 : 0 < l.length
  · obtain ⟨b, off, h1, _⟩ := h.cell 0 h0
    cases h1
  · exact List.eq_nil_of_length_eq_zero (by omega)
theorem strs_news {w : World} {ad : Addr} {l : List ByteArray} (h : StrsAt w (some ad) l) : ∀ j u, (svs l)[j]? = some u → w.cell? (ad.add j) = some u := by
  intro j u hu
  have hj : j < l.length := by have := (List.getElem?_eq_some_iff.1 hu).1; rw [svs_length] at this; exact this
  obtain ⟨b, off, h1, h2, h3⟩ := h.cell j hj
  simp only [Option.some.injEq] at h1
  subst h1
  rw [Addr.add_lit, h3, ← hu, svs_get hj]
theorem secs_news {w : World} {ad : Addr} {l : List SeD} (h : SecsAt w (some ad) l) : ∀ j u, (scs l)[j]? = some u → w.cell? (ad.add j) = some u := by
  intro t u hu
  have ht : t < (scs l).length := (List.getElem?_eq_some_iff.1 hu).1
  rw [scs_length] at ht
  have hj : t / 2 < l.length := by omega
  obtain ⟨b, off, h1, h2, h3, h4⟩ := h.cell (t / 2) hj
  simp only [Option.some.injEq] at h1
  subst h1
  rw [Addr.add_lit]
  have e : t = t / 2 * 2 + t % 2 := by omega
  rw [e, scs_get l _ _ hj (by omega)] at hu
  rcases (by omega : t % 2 = 0 ∨ t % 2 = 1) with h0 | h0
  · rw [h0] at hu e
    rw [show off + t = off + t / 2 * 2 from by omega, h3]
    exact hu
  · rw [h0] at hu e
    rw [show off + t = off + t / 2 * 2 + 1 from by omega, h4]
    exact hu

/-- a disk -/
structure DkD where
  safe : List ByteArray
  wait : List SeD
def DkD.v (d : DkD) (sa : Option Addr) (sc : Nat) (wa : Option Addr) (wc : Nat) : Value := .agg #[.slice sa d.safe.length sc, .slice wa d.wait.length wc]
structure DkAt (w : World) (d : DkD) (sa wa : Option Addr) : Prop where
  safe : StrsAt w sa d.safe
  wait : SecsAt w wa d.wait
theorem DkAt.below {w w' : World} {d : DkD} {sa wa : Option Addr} (h : DkAt w d sa wa) (hb : Below w.heap.size w w') : DkAt w' d sa wa := ⟨h.safe.below hb, h.wait.below hb⟩
structure DkOwn (base : Nat) (w : World) (d : DkD) (v u : Value) : Prop where
  safe : OwnS base w v d.safe
  wait : OwnE base w u d.wait
theorem DkOwn.below {base : Nat} {w w' : World} {d : DkD} {v u : Value} (h : DkOwn base w d v u) (hb : Below w.heap.size w w') : DkOwn base w' d v u := ⟨h.safe.below hb, h.wait.below hb⟩
def noD : DkD := ⟨[], []⟩
theorem noD_at (w : World) : DkAt w noD none none := ⟨StrsAt.nil w, SecsAt.nil w⟩
theorem noS_own (base : Nat) (w : World) : OwnS base w (.slice none 0 0) [] := ⟨World.ownsRow_nil _ _ _ _, fun x hx => (by cases hx), Nat.zero_le _⟩
theorem noE_own (base : Nat) (w : World) : OwnE base w (.slice none 0 0) [] := ⟨World.ownsRow_nil _ _ _ _, fun x hx => (by cases hx), Nat.zero_le _⟩
theorem noD_own (base : Nat) (w : World) : DkOwn base w noD (.slice none 0 0) (.slice none 0 0) := ⟨noS_own _ _, noE_own _ _⟩
/-- what a call tells: a disk of its own -/
def DkP (d : DkD) (w : World) (e : Ending) (w' : World) : Prop := ∃ v u, e = .returned (.agg #[v, u]) ∧ DkOwn w.heap.size w' d v u ∧ Below w.heap.size w w'
def DkE (d : DkD) (n : Int) (w : World) (e : Ending) (w' : World) : Prop := ∃ v u, e = .returned (.tuple #[.agg #[v, u], .int .i64 n]) ∧ DkOwn w.heap.size w' d v u ∧ Below w.heap.size w w'
end Go.Proofs.Ytlmfieeemkahfaa
