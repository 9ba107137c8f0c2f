/- The law TextExact: small lemmas ahead of the walk. -/
import Derived.Test.YtppaiajligakpaaDoorCHeavy3
import Derived.Test.YtppaiajligakpaaDoorCDoor2
import Derived.Laws.AppendOwnNone
import Derived.Deep.DeepCutAuto
import Derived.Deep.RegionWith
import Derived.Lib.QuietBelow
import Derived.StillTailTactics
namespace Go.Proofs.YtppaiajligakpaaDoor
open Go.RowKit Go.Lib

/-- 'append(out, xs...)', out the call's own, xs whatever: nil, empty or not. -/
theorem wpList_append_from {P : Program} {w : World} {ops : Array Oper} {rest : List Oper} {o : Oper} {a : Act} {Q : Exit → Act → World → Prop} (hgd : o.guard = none) (s x : Operand) (t : TypeId)
    (ho : o.op = .call { callee := .builtin .append, args := #[s, x], argTypes := #[t, t] })
    (base : Nat) (e : TypeId) (i : TypeInfo) (z : Value) (bytes : Nat) (ht : P.underlying t = some (.slice e)) (hi : P.info? e = some i) (hz : i.zero = some z)
    (hsize : i.size = 1) (hby : i.bytes = bytes) (hzs : z.cells.size = 1)
    (v : Value) (n : Nat) (xs : List Value) (hs : a.eval s = v) (hown : w.ownsRow base e 1 v n xs)
    (ao : Option Addr) (m c : Nat) (news : List Value) (hx : a.eval x = .slice ao m c) (hl : news.length = m) (hnone : ao = none → m = 0 ∧ c = 0) (hnews : ∀ ad, ao = some ad → ∀ j u, news[j]? = some u → w.cell? (ad.add j) = some u) (h1 : ∀ u ∈ news, u.oneCell' = true)
    (h63 : n + m ≤ maxLen) (hbytes : (n + m) * bytes ≤ 140737488355328) (hbase : base ≤ w.heap.size)
    (h : ∀ v' w', w'.ownsRow base e 1 v' (n + m) (xs ++ news) → w.grownBy w' v.ownBlock → wpList P ops Q rest (a.put o.dst v') w') : wpList P ops Q (o :: rest) a w := by
  cases ao with
  | none =>
    obtain ⟨rfl, rfl⟩ := hnone rfl
    obtain rfl : news = [] := List.eq_nil_of_length_eq_zero hl
    refine wpList_append_own_none hgd s x t ho base e i 1 ht hi v n xs hs hown hx ?_
    exact h v w (by simpa using hown) (World.grownBy.refl _ _)
  | some ad =>
    refine wpList_append_own _ hgd s x t ho base e i z 1 bytes ht hi hz hsize hby hzs (by decide) v n xs hs hown ad m c news hx (by omega) (hnews ad rfl) h1 h63 hbytes hbase ?_
    intro v' w' h2 h3 _
    exact h v' w' h2 h3

theorem ints_news {w : World} {a : Option Addr} {zs : List Int} (h : IntsAt w a zs) : ∀ ad, a = some ad → ∀ j u, (zs.map (Value.int .i64))[j]? = some u → w.cell? (ad.add j) = some u := by
  intro ad had j u hu
  have hj : j < zs.length := by
    have := (List.getElem?_eq_some_iff.1 hu).1
    simpa using this
  obtain ⟨b, off, ha, hb, hc⟩ := h.cell j hj
  rw [had] at ha
  obtain rfl := Option.some.inj ha
  rw [Addr.add_lit, hc]
  simp [hj] at hu
  rw [← hu]
theorem strs_news {w : World} {a : Option Addr} {ss : List ByteArray} (h : StrsAt w a ss) : ∀ ad, a = some ad → ∀ j u, (ss.map Value.string)[j]? = some u → w.cell? (ad.add j) = some u := by
  intro ad had j u hu
  have hj : j < ss.length := by
    have := (List.getElem?_eq_some_iff.1 hu).1
    simpa using this
  obtain ⟨b, off, ha, hb, hc⟩ := h.cell j hj
  rw [had] at ha
  obtain rfl := Option.some.inj ha
  rw [Addr.add_lit, hc]
  simp [hj] at hu
  rw [← hu]
theorem strs_one (ss : List ByteArray) : ∀ u ∈ ss.map Value.string, u.oneCell' = true := by
  intro u hu
  obtain ⟨_, _, rfl⟩ := List.mem_map.1 hu
  rfl
theorem two_str (a b : ByteArray) : ∀ u ∈ [Value.string a, Value.string b], u.oneCell' = true := strs_one [a, b]
theorem runes_news {w : World} {a : Option Addr} {zs : List Int} (h : RunesAt w a zs) : ∀ ad, a = some ad → ∀ j u, (rv zs)[j]? = some u → w.cell? (ad.add j) = some u := by
  intro ad had j u hu
  have hj : j < zs.length := by
    have := (List.getElem?_eq_some_iff.1 hu).1
    simpa [rv] using this
  obtain ⟨b, off, ha, hb, hc⟩ := h.cell j hj
  rw [had] at ha
  obtain rfl := Option.some.inj ha
  rw [Addr.add_lit, hc]
  rw [rv_get hj] at hu
  exact hu
theorem rv_one (l : List Int) : ∀ u ∈ rv l, u.oneCell' = true := ints_oneCell _ l
theorem Tryd.info3 : (Tryd.prog.info? 3).map (fun i => (i.zero, i.size, i.bytes)) = some (some (.int .i64 0), 1, 8) := by kernel_rfl
theorem Tryd.info9 : (Tryd.prog.info? 9).map (fun i => (i.zero, i.size, i.bytes)) = some (some (.string ⟨#[]⟩), 1, 16) := by kernel_rfl

/-- the law's own texts and runes -/
def exT : List ByteArray := [⟨#[]⟩, ⟨#[97, 10, 98]⟩, ⟨#[128]⟩, ⟨#[127]⟩, ⟨#[239, 191, 189]⟩, ⟨#[237, 160, 128]⟩, ⟨#[195, 169, 230, 151, 165, 240, 159, 152, 128]⟩, ⟨#[97, 0]⟩]
def exR : List Int := [0, 9, 10, 31, 32, 126, 127, 128, 55295, 55296, 57343, 57344, 65532, 65533, 65534, 1114111, 1114112, -1]
theorem exT_len : exT.length = 8 := rfl
theorem exR_len : exR.length = 18 := rfl
theorem exT_small {ss : List ByteArray} (h : total ss ≤ 3000) : ∀ t ∈ exT ++ ss, t.size ≤ 3000 := by
  intro t ht
  rcases List.mem_append.1 ht with h1 | h1
  · simp only [exT, List.mem_cons, List.not_mem_nil, or_false] at h1
    rcases h1 with rfl | rfl | rfl | rfl | rfl | rfl | rfl | rfl <;> decide
  · exact Nat.le_trans (total_mem h1) h
theorem exR_i32 {rs : List Int} (h : ∀ r ∈ rs, -2147483648 ≤ r ∧ r ≤ 2147483647) : ∀ r ∈ exR ++ rs, -2147483648 ≤ r ∧ r ≤ 2147483647 := by
  intro r hr
  rcases List.mem_append.1 hr with h1 | h1
  · have h2 : ∀ r ∈ exR, -2147483648 ≤ r ∧ r ≤ 2147483647 := by decide
    exact h2 r h1
  · exact h r h1
/-- the five numbers that stand ahead -/
def exN (L : Nat) : List Int := [0, 1, L, (L : Int) + 1, -1]
def exB : List Int := [0, 1, 0, 1, -1]
theorem exN_len (L : Nat) : (exN L).length = 5 := rfl

theorem num_below (n : Int) (w : World) : Calls Tryd.prog 9 #[.int .i64 n] w fun e w' => e = .returned (.int .i64 n) ∧ Below w.heap.size w w' :=
  (num_any n w).mono fun _ _ ⟨he, hw⟩ => ⟨he, by subst hw; exact Below.refl _ _⟩
theorem tRune_below (r : Int) (w : World) : Calls Tryd.prog 14 #[.int .i32 r] w fun e w' => e = .returned (.int .i64 (errR r)) ∧ Below w.heap.size w w' :=
  (tRune_any r w).mono fun _ _ ⟨he, hw⟩ => ⟨he, by subst hw; exact Below.refl _ _⟩
theorem rRune_below (r : Int) (w : World) : Calls Tryd.prog 15 #[.int .i32 r] w fun e w' => e = .returned (.bool (okR r)) ∧ Below w.heap.size w w' :=
  (rRune_any r w).mono fun _ _ ⟨he, hw⟩ => ⟨he, by subst hw; exact Below.refl _ _⟩
theorem errR_ok (r : Int) : (errR r == (0 : Int)) = okR r := by unfold errR; cases okR r <;> rfl
/-- three runes that the call has made -/
theorem three_at (w : World) (a b c : Int) (ha : -2147483648 ≤ a ∧ a ≤ 2147483647) (hb : -2147483648 ≤ b ∧ b ≤ 2147483647) (hc : -2147483648 ≤ c ∧ c ≤ 2147483647) :
    RunesAt (w.alloc (.cells #[.int .i32 a, .int .i32 b, .int .i32 c] 21)) (some ⟨w.heap.size, 0, none⟩) [a, b, c] := by
  refine ⟨fun j hj => ⟨w.heap.size, 0, rfl, by rw [World.size_alloc]; omega, ?_⟩, fun r hr => ?_⟩
  · rw [Nat.zero_add, World.cell?_alloc_new]
    have h3 : j < 3 := hj
    have : j = 0 ∨ j = 1 ∨ j = 2 := by omega
    rcases this with rfl | rfl | rfl <;> rfl
  · simp only [List.mem_cons, List.not_mem_nil, or_false] at hr
    rcases hr with rfl | rfl | rfl
    · exact ha
    · exact hb
    · exact hc
theorem three_drew (w : World) (a b c : Int) (ha : -2147483648 ≤ a ∧ a ≤ 2147483647) (hb : -2147483648 ≤ b ∧ b ≤ 2147483647) (hc : -2147483648 ≤ c ∧ c ≤ 2147483647) :
    RunesAt (w.alloc (.cells #[.int .i32 a, .int .i32 b, .int .i32 c] 21)).drew (some ⟨w.heap.size, 0, none⟩) [a, b, c] := ⟨(three_at w a b c ha hb hc).cell, (three_at w a b c ha hb hc).i32⟩
theorem Make_3 (g c : Nat) (l : List Int) (w : World) (h : RunesAt w (some ⟨g, 0, none⟩) l) (hl : l.length = 3) (hk : l.all okR = true) : Calls Tryd.prog 16 #[.slice (some ⟨g, 0, none⟩) 3 c] w (MakeOk l w) :=
  Make_okn _ c 3 l w h hl (by decide) hk
theorem Make_3no (g c : Nat) (l : List Int) (w : World) (h : RunesAt w (some ⟨g, 0, none⟩) l) (hl : l.length = 3) (hk : l.all okR = false) : Calls Tryd.prog 16 #[.slice (some ⟨g, 0, none⟩) 3 c] w (MakeNo w) := by
  have := Make_no (some ⟨g, 0, none⟩) c l w h (by omega) hk
  rw [hl] at this
  exact this
def MkE (out : List UInt8) (err : Int) (w : World) (e : Ending) (w' : World) : Prop := e = .returned (.tuple #[S out, .int .i64 err]) ∧ Below w.heap.size w w'
def Mk3 (l : List Int) (out : List UInt8) (err : Int) : Prop := (l.all okR = true ∧ out = mk l ∧ err = 0) ∨ (l.all okR = false ∧ out = [] ∧ err = 1)
theorem Make_3ex (l : List Int) (hl : l.length = 3) : ∃ (out : List UInt8) (err : Int), (∀ (g c : Nat) (w : World), RunesAt w (some ⟨g, 0, none⟩) l → Calls Tryd.prog 16 #[.slice (some ⟨g, 0, none⟩) 3 c] w (MkE out err w)) ∧ Mk3 l out err := by
  cases h : l.all okR
  · exact ⟨[], 1, fun g c w hr => Make_3no g c l w hr hl h, .inr ⟨h, rfl, rfl⟩⟩
  · exact ⟨mk l, 0, fun g c w hr => Make_3 g c l w hr hl h, .inl ⟨h, rfl, rfl⟩⟩
theorem rAll_3 (g c : Nat) (l : List Int) (b : Bool) (w : World) (h : RunesAt w (some ⟨g, 0, none⟩) l) (hl : l.length = 3) (hk : l.all okR = b) : Calls Tryd.prog 17 #[.slice (some ⟨g, 0, none⟩) 3 c] w (Boo b w) := by
  subst hk
  have := rAll_any (some ⟨g, 0, none⟩) c l w h (by omega)
  rw [hl] at this
  exact this
theorem num_q (n : Int) (w : World) : Calls Tryd.prog 9 #[.int .i64 n] w fun e w' => e = .returned (.int .i64 n) ∧ w' = w :=
  (num_any n w).mono fun _ _ ⟨he, hw⟩ => ⟨he, hw.symm⟩
theorem tRune_q (r : Int) (w : World) : Calls Tryd.prog 14 #[.int .i32 r] w fun e w' => e = .returned (.int .i64 (errR r)) ∧ w' = w :=
  (tRune_any r w).mono fun _ _ ⟨he, hw⟩ => ⟨he, hw.symm⟩
theorem rRune_q (r : Int) (w : World) : Calls Tryd.prog 15 #[.int .i32 r] w fun e w' => e = .returned (.bool (okR r)) ∧ w' = w :=
  (rRune_any r w).mono fun _ _ ⟨he, hw⟩ => ⟨he, hw.symm⟩
def LenE (n : Int) (err : Int) (w : World) (e : Ending) (w' : World) : Prop := e = .returned (.tuple #[.int .i64 n, .int .i64 err]) ∧ Below w.heap.size w w'
theorem Len_bad (s : ByteArray) (w : World) (hs : s.size ≤ 3000) (hk : okT s = false) : Calls Tryd.prog 7 #[.string s] w (LenE 0 1 w) :=
  (Len_any s w (by omega)).mono fun _ _ ⟨he, hb⟩ => by
    rw [hk, errOf_bad hk] at he
    exact ⟨he, hb⟩
theorem Len_okn (s : ByteArray) (L : Nat) (w : World) (hs : s.size ≤ 3000) (hk : okT s = true) (hL : (rns s).length = L) : Calls Tryd.prog 7 #[.string s] w (LenE L 0 w) :=
  (Len_any s w (by omega)).mono fun _ _ ⟨he, hb⟩ => by
    rw [hk, errOf_ok hk, hL] at he
    exact ⟨he, hb⟩
def IntE (n : Int) (w : World) (e : Ending) (w' : World) : Prop := e = .returned (.int .i64 n) ∧ Below w.heap.size w w'
theorem Check_bad (s : ByteArray) (w : World) (hk : okT s = false) : Calls Tryd.prog 10 #[.string s] w (IntE 1 w) :=
  (Check_any s w).mono fun _ _ ⟨he, hb⟩ => by
    rw [errOf_bad hk] at he
    exact ⟨he, hb⟩
theorem Check_ok (s : ByteArray) (w : World) (hk : okT s = true) : Calls Tryd.prog 10 #[.string s] w (IntE 0 w) :=
  (Check_any s w).mono fun _ _ ⟨he, hb⟩ => by
    rw [errOf_ok hk] at he
    exact ⟨he, hb⟩
theorem Eq_none (w : World) : Calls Tryd.prog 11 #[.slice none 0 0, .slice none 0 0] w fun e w' => e = .returned (.bool true) ∧ Below w.heap.size w w' :=
  EqRunes_n none none 0 0 0 [] w (RunesAt.nil _) (RunesAt.nil _) rfl (by decide)
theorem rMake_m (a : Option Addr) (cap n : Nat) (l : List Int) (w : World) (h : RunesAt w a l) (hn : l.length = n) (hl : n ≤ 60000) : Calls Tryd.prog 13 #[.slice a n cap] w (StrPost (mk l) w) := by
  subst hn; exact rMake a cap l w h hl
theorem rMake_b (a : Option Addr) (cap n : Nat) (l : List Int) (M : List UInt8) (w : World) (h : RunesAt w a l) (hn : l.length = n) (hl : n ≤ 60000) (hM : mk l = M) : Calls Tryd.prog 13 #[.slice a n cap] w fun e w' => e = .returned (S M) ∧ Below w.heap.size w w' := by
  subst hM
  exact (rMake_m a cap n l w h hn hl).mono fun _ _ ⟨he, hw⟩ => ⟨he, by subst hw; exact Below.refl _ _⟩
end Go.Proofs.YtppaiajligakpaaDoor
