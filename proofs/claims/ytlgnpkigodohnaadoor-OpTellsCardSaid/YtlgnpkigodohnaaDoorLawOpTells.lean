/- the law OpTells -/
import Derived.Test.YtlgnpkigodohnaaDoorLWakes
import Derived.Test.YtlgnpkigodohnaaDoorORop
import Derived.Test.YtlgnpkigodohnaaDoorORNeeds
import Derived.Test.YtlgnpkigodohnaaDoorPElemN
import Derived.Deep.DeepCutAuto
import Derived.Deep.CutBlock
import Derived.Deep.RegionWith
import Derived.Laws.AppendOwnNone
namespace Go.Proofs.YtlgnpkigodohnaaDoor
open Go.RowKit Go.Lib

/-- 'append(out, xs...)', out the call's own, xs whatever: nil, empty or not. -/
theorem wpList_append_from {P : Program} {w : World} {ops : Array Oper} {rest : List Oper} {o : Oper} {a : Act} {Q : Exit → Act → World → Prop} (hgd : o.guard = none) (s x : Operand) (t : TypeId)
    (ho : o.op = .call { callee := .builtin .append, args := #[s, x], argTypes := #[t, t] })
    (base : Nat) (e : TypeId) (i : TypeInfo) (z : Value) (bytes : Nat) (ht : P.underlying t = some (.slice e)) (hi : P.info? e = some i) (hz : i.zero = some z)
    (hsize : i.size = 1) (hby : i.bytes = bytes) (hzs : z.cells.size = 1)
    (v : Value) (n : Nat) (xs : List Value) (hs : a.eval s = v) (hown : w.ownsRow base e 1 v n xs)
    (ao : Option Addr) (m c : Nat) (news : List Value) (hx : a.eval x = .slice ao m c) (hl : news.length = m) (hnone : ao = none → m = 0 ∧ c = 0) (hnews : ∀ ad, ao = some ad → ∀ j u, news[j]? = some u → w.cell? (ad.add j) = some u) (h1 : ∀ u ∈ news, u.oneCell' = true)
    (h63 : n + m ≤ maxLen) (hbytes : (n + m) * bytes ≤ 140737488355328) (hbase : base ≤ w.heap.size)
    (h : ∀ v' w', w'.ownsRow base e 1 v' (n + m) (xs ++ news) → w.grownBy w' v.ownBlock → wpList P ops Q rest (a.put o.dst v') w') : wpList P ops Q (o :: rest) a w := by
  cases ao with
  | none =>
    obtain ⟨rfl, rfl⟩ := hnone rfl
    obtain rfl : news = [] := List.eq_nil_of_length_eq_zero hl
    refine wpList_append_own_none hgd s x t ho base e i 1 ht hi v n xs hs hown hx ?_
    exact h v w (by simpa using hown) (World.grownBy.refl _ _)
  | some ad =>
    refine wpList_append_own _ hgd s x t ho base e i z 1 bytes ht hi hz hsize hby hzs (by decide) v n xs hs hown ad m c news hx (by omega) (hnews ad rfl) h1 h63 hbytes hbase ?_
    intro v' w' h2 h3 _
    exact h v' w' h2 h3


theorem Tryd.infoInt : (Tryd.prog.info? 3).map (fun i => (i.zero, i.size, i.bytes)) = some (some (.int .i64 0), 1, 8) := by kernel_rfl
theorem nums_news {w : World} {a : Option Addr} {zs : List Int} (h : NumsAt w a zs) : ∀ ad, a = some ad → ∀ j u, (zs.map (Value.int .i64))[j]? = some u → w.cell? (ad.add j) = some u := by
  intro ad had j u hu
  have hj : j < zs.length := by
    have := (List.getElem?_eq_some_iff.1 hu).1
    simpa using this
  obtain ⟨b, off, ha, hb, hc⟩ := h.cell j hj
  rw [had] at ha
  obtain rfl := Option.some.inj ha
  rw [Addr.add_lit, hc]
  simp [hj] at hu
  rw [← hu]
theorem ints_one (zs : List Int) : ∀ u ∈ zs.map (Value.int .i64), u.oneCell' = true := ints_oneCell .i64 zs
theorem nums_own {w : World} {base : Nat} {v : Value} {NS : List Int} {n : Nat} (h : w.ownsRow base 3 1 v n (NS.map (Value.int .i64))) (hn : NS.length = n) :
    ∃ a cap, v = .slice a n cap ∧ NumsAt w a NS := by
  subst hn
  rcases h.2 with ⟨hv, h0⟩ | ⟨g, cap, cur, hv, hg, hh, hc, hm, hcs, ht⟩
  · exact ⟨none, 0, by rw [hv, h0], by rw [List.eq_nil_of_length_eq_zero h0]; exact ⟨fun j hj => absurd hj (by simp)⟩⟩
  · refine ⟨_, cap, hv, ⟨fun j hj => ⟨g, 0, rfl, (Array.getElem?_eq_some_iff.1 hh).1, ?_⟩⟩⟩
    subst hv
    rw [Nat.zero_add, h.cellAt j (by omega)]
    simp [hj]
theorem lit_own (w : World) : (w.alloc (.cells #[.int .i64 0, .int .i64 1, .int .i64 (-1), .int .i64 11, .int .i64 12] 3)).ownsRow w.heap.size 3 1 (.slice (some ⟨w.heap.size, 0, none⟩) 5 5) 5 [.int .i64 0, .int .i64 1, .int .i64 (-1), .int .i64 11, .int .i64 12] :=
  ⟨rfl, .inr ⟨w.heap.size, 5, #[.int .i64 0, .int .i64 1, .int .i64 (-1), .int .i64 11, .int .i64 12], rfl, Nat.le_refl _, by show (w.heap.push _)[w.heap.size]? = _; simp, Nat.le_refl _, by decide, rfl, rfl⟩⟩
/-- an op's cells within a row -/
structure BoxAt (w : World) (b off : Nat) (o : OpD) (a : Option Addr) (cap : Nat) : Prop where
  lt : b < w.heap.size
  c0 : w.cell? ⟨b, off, none⟩ = some (.int .i64 o.site)
  c1 : w.cell? ⟨b, off + 1, none⟩ = some (.int .i64 o.seq)
  c2 : w.cell? ⟨b, off + 2, none⟩ = some (.int .i64 o.kind)
  c3 : w.cell? ⟨b, off + 3, none⟩ = some (.int .i64 o.after.s)
  c4 : w.cell? ⟨b, off + 4, none⟩ = some (.int .i64 o.after.q)
  c5 : w.cell? ⟨b, off + 5, none⟩ = some (.int .i64 o.after.i)
  c6 : w.cell? ⟨b, off + 6, none⟩ = some (.string o.text)
  c7 : w.cell? ⟨b, off + 7, none⟩ = some (.slice a o.gone.length cap)
  c8 : w.cell? ⟨b, off + 8, none⟩ = some (.int .i64 o.of)
  c9 : w.cell? ⟨b, off + 9, none⟩ = some (.int .i64 o.num)
  ca : w.cell? ⟨b, off + 10, none⟩ = some (.int .i64 o.gen)
theorem BoxAt.step {w w' : World} {b off : Nat} {o : OpD} {a : Option Addr} {cap : Nat} (h : BoxAt w b off o a cap) (hb : Below w.heap.size w w') : BoxAt w' b off o a cap :=
  have hB := h.lt
  ⟨Nat.lt_of_lt_of_le h.lt hb.size, (hb.cell (p := ⟨b, off, none⟩) hB).trans h.c0, (hb.cell (p := ⟨b, off + 1, none⟩) hB).trans h.c1, (hb.cell (p := ⟨b, off + 2, none⟩) hB).trans h.c2, (hb.cell (p := ⟨b, off + 3, none⟩) hB).trans h.c3, (hb.cell (p := ⟨b, off + 4, none⟩) hB).trans h.c4, (hb.cell (p := ⟨b, off + 5, none⟩) hB).trans h.c5, (hb.cell (p := ⟨b, off + 6, none⟩) hB).trans h.c6, (hb.cell (p := ⟨b, off + 7, none⟩) hB).trans h.c7, (hb.cell (p := ⟨b, off + 8, none⟩) hB).trans h.c8, (hb.cell (p := ⟨b, off + 9, none⟩) hB).trans h.c9, (hb.cell (p := ⟨b, off + 10, none⟩) hB).trans h.ca⟩
/-- elements and an error -/
def PairPost (l : List El) (er : Int) (w : World) (e : Ending) (w' : World) : Prop :=
  ∃ a cap, e = .returned (.tuple #[.slice a l.length cap, .int .i64 er]) ∧ w'.ownsRow w.heap.size 29 3 (.slice a l.length cap) l.length (ecs l) ∧ Below w.heap.size w w'
def elemsU (o : OpD) : List El := if okOp o then mine o.site o.seq (nR o.text) else []
def needsU (o : OpD) : List El := if okOp o then needs o else []
theorem elemsU_len (o : OpD) : (elemsU o).length ≤ 12 := by
  unfold elemsU
  split
  · rw [mine_length]; exact (okOp_text ‹_›).2.1
  · simp
theorem needsU_len (o : OpD) : (needsU o).length ≤ o.gone.length + 1 := by
  unfold needsU
  split
  · exact needs_len o
  · simp
theorem xElems_u (o : OpD) (a : Option Addr) (cap : Nat) (w : World) (hi : OpIn w o a) : Calls Tryd.prog 7 #[o.v a cap] w (PairPost (elemsU o) (errO (okOp o)) w) := by
  unfold elemsU
  cases hok : okOp o
  · refine (xElems_bad o a cap w hi hok).mono ?_
    rintro x w' ⟨rfl, hb⟩
    exact ⟨none, 0, rfl, World.ownsRow_nil _ _ _ _, hb⟩
  · refine (xElems_ok o a cap w hi hok).mono ?_
    rintro x w' ⟨a', c', rfl, hown, hb⟩
    exact ⟨a', c', rfl, hown, hb⟩
theorem xNeeds_u (o : OpD) (a : Option Addr) (cap : Nat) (w : World) (hi : OpIn w o a) : Calls Tryd.prog 8 #[o.v a cap] w (PairPost (needsU o) (errO (okOp o)) w) := by
  unfold needsU
  cases hok : okOp o
  · refine (xNeeds_bad o a cap w hi hok).mono ?_
    rintro x w' ⟨rfl, hb⟩
    exact ⟨none, 0, rfl, World.ownsRow_nil _ _ _ _, hb⟩
  · by_cases hk : o.kind = 2
    · refine (xNeeds_toggle o a cap w hi hok hk).mono ?_
      rintro x w' ⟨a', c', rfl, hown, hb⟩
      exact ⟨a', c', rfl, hown, hb⟩
    · refine (xNeeds_edit o a cap w hi hok hk).mono ?_
      rintro x w' ⟨a', c', rfl, hown, hb⟩
      exact ⟨a', c', rfl, hown, hb⟩
theorem refE_here (o : OpD) (a : Option Addr) (cap n : Nat) (w8 W : World) (bo : Nat) (hok : okOp o = true) (hn : (elemsU o).length = n) (hT : Tabs W) (hs : o.text.size ≤ 60000) (hX : BoxO w8 bo o a cap) (hb : Below w8.heap.size w8 W) :
    Calls Tryd.prog 10 #[o.v a cap] W (fun x w' => ∃ a9 c9, x = .returned (.slice a9 n c9) ∧ ElemsAt w' a9 (elemsU o) ∧ BoxO w' bo o a cap ∧ Below w8.heap.size w8 w') := by
  have he : elemsU o = mine o.site o.seq (nR o.text) := by unfold elemsU; rw [hok]; rfl
  refine (Elems4_any o a cap W hT hs).mono ?_
  rintro x w' ⟨v, rfl, hown, hb2⟩
  rw [← he, hn] at hown
  obtain ⟨aa, cc, rfl, hE, _, _, _⟩ := elems_own (l := elemsU o) (by rw [hn]; exact hown)
  have hb3 := hb.trans (hb2.mono hb.size)
  exact ⟨aa, cc, by rw [hn], hE, hX.step hb3, hb3⟩
theorem refN_here (o : OpD) (a : Option Addr) (cap n : Nat) (w8 W : World) (hok : okOp o = true) (hn : (needsU o).length = n) (hl : o.gone.length ≤ 900) (hI : OpIn w8 o a) (hb : Below w8.heap.size w8 W) :
    Calls Tryd.prog 11 #[o.v a cap] W (fun x w' => ∃ a9 c9, x = .returned (.slice a9 n c9) ∧ ElemsAt w' a9 (needsU o) ∧ Below W.heap.size W w' ∧ Below w8.heap.size w8 w') := by
  have he : needsU o = needs o := by unfold needsU; rw [hok]; rfl
  refine (rNeeds_any o a cap W (hI.gone.below hb) hl).mono ?_
  rintro x w' ⟨aa, cc, rfl, hown, hb2⟩
  rw [← he, hn] at hown ⊢
  exact ⟨aa, cc, rfl, elems_row' hown hn, hb2, hb.trans (hb2.mono hb.size)⟩
theorem own_here {o : OpD} {a4 : Option Addr} {x : Int} {y : El} {gg : Int} {v : Value} {w12 wr : World} (h : ∀ w, OpIn w o a4 → Calls Tryd.prog 15 #[v, .int .i64 x] w (OwnRes (ownR o x) w)) (hX : ownR o x = (y, gg)) (hI : OpIn w12 o a4) (hb : Below w12.heap.size w12 wr) :
    ∀ W, Below wr.heap.size wr W → Calls Tryd.prog 15 #[v, .int .i64 x] W (fun e w' => e = .returned (.tuple #[.agg #[.int .i64 y.s, .int .i64 y.q, .int .i64 y.i], .int .i64 gg]) ∧ Below W.heap.size W w' ∧ Below wr.heap.size wr w') := by
  intro W hW
  have c := h W ((hI.below hb).below hW)
  rw [hX] at c
  exact c.mono fun e w' hh => ⟨hh.1, hh.2, hW.trans (hh.2.mono hW.size)⟩
theorem zero_in {wx w9 : World} {n : Nat} (hn : n = wx.heap.size) (hb : Below (wx.alloc (.cells #[.int .i64 0, .int .i64 0, .int .i64 0] 29)).heap.size (wx.alloc (.cells #[.int .i64 0, .int .i64 0, .int .i64 0] 29)) w9) :
    w9.cell? ⟨n, 0, none⟩ = some (.int .i64 0) ∧ w9.cell? ⟨n, 1, none⟩ = some (.int .i64 0) ∧ w9.cell? ⟨n, 2, none⟩ = some (.int .i64 0) ∧ w9.frozen? ⟨n, 0, none⟩ = false ∧ w9.frozen? ⟨n, 1, none⟩ = false ∧ w9.frozen? ⟨n, 2, none⟩ = false := by
  subst hn
  have hN := BoxE.new wx ⟨0, 0, 0⟩
  have hE := hN.step hb
  have hf : ∀ j, w9.frozen? ⟨wx.heap.size, j, none⟩ = false := fun j => by
    rw [hb.frozen (p := ⟨wx.heap.size, j, none⟩) hN.lt]
    have hH : (wx.alloc (.cells #[.int .i64 0, .int .i64 0, .int .i64 0] 29)).heap[wx.heap.size]? = some (.cells #[.int .i64 0, .int .i64 0, .int .i64 0] 29 (0, 0)) := by
      show (wx.heap.push _)[wx.heap.size]? = _
      simp
    simp only [World.frozen?]
    rw [hH]
    simp
  exact ⟨hE.c0, hE.c1, hE.c2, hf 0, hf 1, hf 2⟩
theorem below_drawn {B : Nat} {w w9 : World} (h : Below B w.drew w9) : Below B w w9 := ((Below.refl B w).drew).trans h
theorem third_below (wr : World) (o : Obj) : Below wr.heap.size wr ((wr.alloc o).drew) := ((Below.refl _ wr).alloc (Nat.le_refl _) o).drew
theorem box_set {w : World} {b : Nat} {y : El} {u0 u1 u2 : Value} (h0 : w.cell? ⟨b, 0, none⟩ = some u0) (h1 : w.cell? ⟨b, 1, none⟩ = some u1) (h2 : w.cell? ⟨b, 2, none⟩ = some u2) :
    BoxE (((w.setCell ⟨b, 0, none⟩ (.int .i64 y.s)).setCell ⟨b, 1, none⟩ (.int .i64 y.q)).setCell ⟨b, 2, none⟩ (.int .i64 y.i)) b y := by
  have hlt := World.block_lt_of_cell? w _ h0
  refine ⟨by simp only [World.size_setCell]; exact hlt, ?_, ?_, ?_⟩
  · rw [World.cell?_setCell_other _ _ _ _ (by simp), World.cell?_setCell_other _ _ _ _ (by simp)]
    exact World.cell?_setCell_same _ _ _ h0
  · rw [World.cell?_setCell_other _ _ _ _ (by simp)]
    exact World.cell?_setCell_same _ _ _ ((World.cell?_setCell_other _ _ _ _ (by simp)).trans h1)
  · exact World.cell?_setCell_same _ _ _ ((World.cell?_setCell_other _ _ _ _ (by simp)).trans ((World.cell?_setCell_other _ _ _ _ (by simp)).trans h2))
theorem own_bad {o : OpD} {x gg : Int} {y : El} (hok : okOp o = false) (h : ownR o x = (y, gg)) : y = ⟨0, 0, 0⟩ ∧ gg = 1 := by
  unfold ownR at h
  rw [hok] at h
  simp at h
  exact ⟨h.1.symm, h.2.symm⟩
theorem own_cases {o : OpD} {x gg : Int} {y : El} {n1 : Nat} (hok : okOp o = true) (hn : (elemsU o).length = n1) (h : ownR o x = (y, gg)) :
    (btw x 0 ((n1 : Int) - 1) = true ∧ gg = 0 ∧ ∃ i : Nat, x = (i : Int) ∧ ∃ hi : i < (elemsU o).length, (elemsU o)[i] = y) ∨ (btw x 0 ((n1 : Int) - 1) = false ∧ y = ⟨0, 0, 0⟩ ∧ gg = 2) := by
  have he : elemsU o = mine o.site o.seq (nR o.text) := by unfold elemsU; rw [hok]; rfl
  have hnr : n1 = nR o.text := by rw [← hn, he, mine_length]
  unfold ownR at h
  rw [hok] at h
  by_cases hx : 0 ≤ x ∧ x < nR o.text
  · left
    rw [if_pos rfl, if_pos hx] at h
    obtain ⟨h1, h2⟩ := Prod.mk.inj h
    refine ⟨by unfold btw; rw [hnr]; simp; omega, h2.symm, x.toNat, by omega, by rw [hn, hnr]; omega, ?_⟩
    simp only [he]
    rw [mine_get, ← h1]
    congr 1
    omega
  · right
    rw [if_pos rfl, if_neg hx] at h
    obtain ⟨h1, h2⟩ := Prod.mk.inj h
    refine ⟨by unfold btw; rw [hnr]; simp; omega, h1.symm, h2.symm⟩
theorem box_drew {w : World} {b : Nat} {e : El} (h : BoxE w b e) : BoxE w.drew b e := ⟨h.lt, h.c0, h.c1, h.c2⟩
theorem elems_row2 {w : World} {base : Nat} {a : Option Addr} {cap n : Nat} {l : List El} (h : w.ownsRow base 29 3 (.slice a n cap) n (ecs l)) (hl : l.length = n) : ElemsAt w a l := elems_row' h hl

set_option maxRecDepth 100000 in
set_option maxHeartbeats 12000000 in
theorem opTells_walk (p : AskD) (w : World) (h : AskAt w p) (hT : Tabs w) (hn : p.an = none → p.n.length = 0 ∧ p.cn = 0) : Calls Tryd.prog 3 #[p.v] w (BoB true w) := by
  obtain ⟨i3, hi3, hz30, hz31, hz32⟩ := info_parts Tryd.infoInt
  have hb0 : Below w.heap.size w (w.alloc (.cells #[.slice p.ao p.o.length p.co, .slice p.ae p.e.length p.ce, .slice p.an p.n.length p.cn] 26)) := (Below.refl _ _).alloc (Nat.le_refl _) _
  have HX := Lib.hid (BoxA.new w p)
  have HB := Lib.hid hb0
  have HA := Lib.hid (h.below hb0)
  have HT := Lib.hid (hT.next hb0)
  have HH := Lib.hid (fun w h => Heavy_any p w h)
  have HNN := Lib.hid hn
  have hlo := h.o.len
  clear h hb0 hT hn
  cases hv : heavyB p
  case true =>
    rw [hv] at HH
    clear hv
    unfold AskD.v at *
    go_enter Tryd.func3, Tryd.ntmps3
    go_wp2_with fail
    refine (HH.out _ HA.out).mono ?_
    rintro x w1 ⟨rfl, hb1⟩
    have HB1 := Lib.hid (HB.out.trans (hb1.mono HB.out.size))
    clear hb1
    go_wp2
    go_ret
    exact ⟨rfl, HB1.out⟩
  case false =>
    rw [hv] at HH
    obtain ⟨hw1, hw2, hw3⟩ := heavy_no hv
    have HLT := Lib.hid (fun r hr => light_op (p := p) hw1 (r := r) hr)
    have hle9 : (p.e.length : Int) ≤ 900 := by omega
    have hln9 : (p.n.length : Int) ≤ 900 := by omega
    have hlo9 : (p.o.length : Int) ≤ 140737488351232 := by unfold BIG at hlo; omega
    clear hv hw1 hw2 hw3 hlo
    unfold AskD.v at *
    obtain ⟨lo, le, ln, ao, ae, an, co, ce, cn⟩ := p
    simp only at HX HB HA HH HT HNN hle9 hln9 hlo9 HLT ⊢
    go_enter Tryd.func3, Tryd.ntmps3
    go_wp2_with fail
    generalize w.alloc (.cells #[.slice ao lo.length co, .slice ae le.length ce, .slice an ln.length cn] 26) = W0 at *
    refine (HH.out _ HA.out).mono ?_
    rintro x w1 ⟨rfl, hb1⟩
    have HB1 := Lib.hid hb1
    have hzW := HX.out.lt
    have q2 := (HX.out.step hb1).c2
    have hz1 : w.heap.size < w1.heap.size := Nat.lt_of_lt_of_le hzW hb1.size
    simp only at q2
    have hown1 := lit_own w1
    have hba1 := hb1.alloc hb1.size (.cells #[.int .i64 0, .int .i64 1, .int .i64 (-1), .int .i64 11, .int .i64 12] 3)
    have HNW := Lib.hid (nums_news (HA.out.n.below hba1))
    have hm1 : 5 + ln.length ≤ maxLen := by unfold maxLen; omega
    have hm2 : (5 + ln.length) * 8 ≤ 140737488355328 := by omega
    have HM1 := Lib.hid hm1
    have HM2 := Lib.hid hm2
    clear hb1 HH hm1 hm2
    go_wp2_with (first | (at_builtin; (refine wpList_append_from rfl _ _ 24 rfl w1.heap.size 3 i3 (.int .i64 0) 8 Tryd.underlying24 hi3 hz30 hz31 hz32 rfl _ _ _ rfl hown1 an ln.length cn (ln.map (Value.int .i64)) rfl (by simp) HNN.out HNW.out (ints_one ln) HM1.out HM2.out (by simp) ?_)) | fail)
    intro v3 w3 hown3 hgrow3
    have hb3 : Below W0.heap.size W0 w3 := hba1.grown hgrow3 hba1.size (fun q hq => Nat.le_trans HB1.out.size (own_ge hown1 q hq))
    obtain ⟨a3, cap3, rfl, hns3⟩ := nums_own (NS := [0, 1, -1, 11, 12] ++ ln) (n := 5 + ln.length) (by simpa using hown3) (by simp; omega)
    have HN3 := Lib.hid hns3
    have HB3 := Lib.hid hb3
    obtain ⟨nn, hnn⟩ : ∃ nn, 5 + ln.length = nn := ⟨_, rfl⟩
    have HNS := Lib.hid (show ([0, 1, -1, 11, 12] ++ ln).length = nn from by rw [← hnn]; simp; omega)
    have hnn9 : (nn : Int) ≤ 905 := by omega
    rw [hnn]
    generalize [0, 1, -1, 11, 12] ++ ln = NS at *
    clear hown3 hgrow3 hns3 hown1 hba1 hb3 q2 hz1 HM1 HM2 HNW HNN hnn
    go_wp2_with fail
    go_loopw [4] (fun i wr => ∃ k : Nat, k ≤ lo.length ∧ i = .int .i64 k ∧ Below w3.heap.size w3 wr) (fun i _ => lo.length - (RowKit.intOf i).toNat)
    case atStart => exact ⟨0, by omega, rfl, Below.refl _ _⟩
    case round =>
      obtain ⟨k, hk, rfl, hbel⟩ := hrel
      have HXW := Lib.hid ((HX.out.step HB3.out).step hbel)
      have a0 := HXW.out.c0
      simp only at a0
      have hor : (k < lo.length ∧ (k : Int) < 10) ∨ (decide (k < lo.length) = false) ∨ (k < lo.length ∧ decide ((k : Int) < 10) = false) := by
        by_cases h1 : k < lo.length
        · by_cases h2 : (k : Int) < 10
          · exact .inl ⟨h1, h2⟩
          · right; right; exact ⟨h1, by simp; omega⟩
        · right; left; simp; omega
      rcases hor with ⟨h1, h2⟩ | hex | ⟨h1, hex⟩
      · obtain ⟨b, off, ha, hb, c0, c1, c2, c3, c4, c5, c6, c7, c8, c9, ca⟩ := ((HA.out.o.below HB3.out).below hbel).cells k h1
        have HOP := Lib.hid (((HA.out.o.below HB3.out).below hbel).op k h1)
        have HLI := Lib.hid (HLT.out lo[k] (List.getElem_mem h1))
        have HQ := Lib.hid (show BoxAt wr b (off + k * 11) lo[k].o lo[k].a lo[k].cap from ⟨hb, c0, c1, c2, c3, c4, c5, c6, c7, c8, c9, ca⟩)
        generalize lo[k] = r at *
        obtain ⟨⟨site, seq, kind, ⟨es, eq, ei⟩, text, gone, of, num, gen⟩, ra, rc⟩ := r
        simp only at c0 c1 c2 c3 c4 c5 c6 c7 c8 c9 ca HOP HLI HQ
        subst ha
        obtain ⟨o, ho⟩ : ∃ o : OpD, o = ⟨site, seq, kind, ⟨es, eq, ei⟩, text, gone, of, num, gen⟩ := ⟨_, rfl⟩
        have HCP := Lib.hid (CopyOp_any ⟨site, seq, kind, ⟨es, eq, ei⟩, text, gone, of, num, gen⟩ ra rc wr HOP.out.gone (by show gone.length ≤ 1000000; have := HLI.out.2; omega))
        unfold CopyPost OpD.v at HCP
        simp only at HCP
        go_wp2_with fail
        clear c0 c1 c2 c3 c4 c5 c6 c7 c8 c9 ca a0 hb
        refine HCP.out.mono ?_
        rintro x w4 ⟨a4, cap4, rfl, hown4, hb4⟩
        have hB4 := hbel.trans (hb4.mono hbel.size)
        have HB5 := Lib.hid (hB4.alloc hB4.size (OpD.obj ⟨site, seq, kind, ⟨es, eq, ei⟩, text, gone, of, num, gen⟩ a4 cap4))
        have HX5 := Lib.hid (BoxO.new w4 ⟨site, seq, kind, ⟨es, eq, ei⟩, text, gone, of, num, gen⟩ a4 cap4)
        have hba5 : Below w4.heap.size w4 (w4.alloc (OpD.obj ⟨site, seq, kind, ⟨es, eq, ei⟩, text, gone, of, num, gen⟩ a4 cap4)) := (Below.refl _ _).alloc (Nat.le_refl _) _
        have HQ5 := Lib.hid ((HQ.out.step hb4).step hba5)
        have HI5 := Lib.hid (show OpIn (w4.alloc (OpD.obj ⟨site, seq, kind, ⟨es, eq, ei⟩, text, gone, of, num, gen⟩ a4 cap4)) o a4 from by
          rw [ho]
          exact ⟨(elems_row2 hown4 rfl).below hba5, by show gone.length ≤ _; have := HLI.out.2; omega, by show text.size ≤ _; have := HLI.out.1; omega⟩)
        have HG5 := Lib.hid (show ElemsAt (w4.alloc (OpD.obj ⟨site, seq, kind, ⟨es, eq, ei⟩, text, gone, of, num, gen⟩ a4 cap4)) ra o.gone from by
          rw [ho]
          exact (HOP.out.gone.below hb4).below hba5)
        have HT5 := Lib.hid ((HT.out.next HB3.out).next HB5.out)
        have HOV := Lib.hid (show ∀ a c, o.v a c = .agg #[.int .i64 site, .int .i64 seq, .int .i64 kind, .int .i64 es, .int .i64 eq, .int .i64 ei, .string text, .slice a gone.length c, .int .i64 of, .int .i64 num, .int .i64 gen] from fun a c => by rw [ho]; rfl)
        have HO1 := Lib.hid (show ∀ (w : World) (a : Option Addr) (c : Nat), BoxO w w4.heap.size ⟨site, seq, kind, ⟨es, eq, ei⟩, text, gone, of, num, gen⟩ a c → BoxO w w4.heap.size o a c from fun w a c h => by rw [ho]; exact h)
        have HO2 := Lib.hid (show ∀ (w : World) (a : Option Addr) (c : Nat), BoxO w w4.heap.size o a c → BoxO w w4.heap.size ⟨site, seq, kind, ⟨es, eq, ei⟩, text, gone, of, num, gen⟩ a c from fun w a c h => by rw [ho] at h; exact h)
        have HSZ := Lib.hid (show o.text.size ≤ 60000 ∧ o.gone.length ≤ 900 ∧ o.site = site ∧ o.seq = seq from by rw [ho]; exact ⟨by show text.size ≤ _; have := HLI.out.1; omega, HLI.out.2, rfl, rfl⟩)
        unfold OpD.obj at HB5 HX5 HQ5 HI5 HG5 HT5
        simp only at HB5 HX5 HQ5 HI5 HG5 HT5
        clear hown4 hb4 hB4 hba5 hbel ho HOP HLI HQ HCP
        generalize hbo : w4.heap.size = bo at *
        go_wp2_with fail
        generalize w4.alloc (.cells #[.int .i64 site, .int .i64 seq, .int .i64 kind, .int .i64 es, .int .i64 eq, .int .i64 ei, .string text, .slice a4 gone.length cap4, .int .i64 of, .int .i64 num, .int .i64 gen] 31) = w5 at *
        have HEU := Lib.hid (fun w h => xElems_u o a4 cap4 w h)
        have HNU := Lib.hid (fun w h => xNeeds_u o a4 cap4 w h)
        have HRO := Lib.hid (fun w h1 h2 => rOp_any o ra rc w h1 HSZ.out.1 h2)
        have HCK := Lib.hid (fun w h => xCheck_any o a4 cap4 w h)
        have HOW := Lib.hid (fun (x : Int) w h => xOwn_any o a4 cap4 x w h)
        have HEQ := Lib.hid (fun w h1 h2 => EqOp_yes o a4 ra cap4 rc w h1 h2 (by have := HSZ.out.2.1; omega))
        obtain ⟨er, her⟩ : ∃ er, errO (okOp o) = er := ⟨_, rfl⟩
        have HER := Lib.hid her
        simp only [HOV.out, her] at HEU HNU HRO HCK HOW HEQ
        clear her
        obtain ⟨n1, hn1⟩ : ∃ n1, (elemsU o).length = n1 := ⟨_, rfl⟩
        obtain ⟨n2, hn2⟩ : ∃ n2, (needsU o).length = n2 := ⟨_, rfl⟩
        have hn12 : (n1 : Int) ≤ 12 := by have := elemsU_len o; omega
        have hn22 : (n2 : Int) ≤ 901 := by have := needsU_len o; have := HSZ.out.2.1; omega
        have HN1 := Lib.hid hn1
        have HN2 := Lib.hid hn2
        clear hn1 hn2
        refine (HEU.out _ HI5.out).mono ?_
        rintro x w6 ⟨a6, cap6, rfl, hown6, hb6⟩
        rw [HN1.out] at hown6 ⊢
        have HX6 := Lib.hid (HX5.out.step hb6)
        have HI6 := Lib.hid (HI5.out.below hb6)
        have HQ6 := Lib.hid (HQ5.out.step hb6)
        have HG6 := Lib.hid (HG5.out.below hb6)
        have HT6 := Lib.hid (HT5.out.next hb6)
        have HB6 := Lib.hid (HB5.out.trans (hb6.mono HB5.out.size))
        have HL6 := Lib.hid (elems_row2 hown6 HN1.out)
        clear hb6 hown6 HX5 HI5 HQ5 HG5 HT5 HB5 HEU
        have g0 := HX6.out.c0
        have g1 := HX6.out.c1
        have g2 := HX6.out.c2
        have g3 := HX6.out.c3
        have g4 := HX6.out.c4
        have g5 := HX6.out.c5
        have g6 := HX6.out.c6
        have g7 := HX6.out.c7
        have g8 := HX6.out.c8
        have g9 := HX6.out.c9
        have ga := HX6.out.ca
        simp only at g0 g1 g2 g3 g4 g5 g6 g7 g8 g9 ga
        go_wp2_with fail
        clear g0 g1 g2 g3 g4 g5 g6 g7 g8 g9 ga
        refine (HNU.out _ HI6.out).mono ?_
        rintro x w7 ⟨a7, cap7, rfl, hown7, hb7⟩
        rw [HN2.out] at hown7 ⊢
        have HX7 := Lib.hid (HX6.out.step hb7)
        have HI7 := Lib.hid (HI6.out.below hb7)
        have HQ7 := Lib.hid (HQ6.out.step hb7)
        have HG7 := Lib.hid (HG6.out.below hb7)
        have HT7 := Lib.hid (HT6.out.next hb7)
        have HB7 := Lib.hid (HB6.out.trans (hb7.mono HB6.out.size))
        have HL7 := Lib.hid (HL6.out.below hb7)
        have HO7 := Lib.hid hown7
        have HBN := Lib.hid hb7
        clear hb7 hown7 HT6 HL6 HNU
        have a0 := ((HX.out.step HB3.out).step HB7.out).c0
        have g0 := HQ7.out.c0
        have g1 := HQ7.out.c1
        have g2 := HQ7.out.c2
        have g3 := HQ7.out.c3
        have g4 := HQ7.out.c4
        have g5 := HQ7.out.c5
        have g6 := HQ7.out.c6
        have g7 := HQ7.out.c7
        have g8 := HQ7.out.c8
        have g9 := HQ7.out.c9
        have ga := HQ7.out.ca
        simp only at g0 g1 g2 g3 g4 g5 g6 g7 g8 g9 ga
        simp only at a0
        go_wp2_with fail
        clear g0 g1 g2 g3 g4 g5 g6 g7 g8 g9 ga
        clear a0
        refine (HRO.out _ HT7.out HG7.out).mono ?_
        rintro x w8 ⟨rfl, hb8⟩
        have HX8 := Lib.hid (HX7.out.step hb8)
        have HI8 := Lib.hid (HI7.out.below hb8)
        have HQ8 := Lib.hid (HQ7.out.step hb8)
        have HG8 := Lib.hid (HG7.out.below hb8)
        have HT8 := Lib.hid (HT7.out.next hb8)
        have HB8 := Lib.hid (HB7.out.trans (hb8.mono HB7.out.size))
        have HL8 := Lib.hid (HL7.out.below hb8)
        have HO8 := Lib.hid (owns_belE HO7.out hb8)
        have HBN8 := Lib.hid (HBN.out.trans (hb8.mono HBN.out.size))
        clear hb8 HX7 HI7 HQ7 HG7 HT7 HB7 HL7 HO7 HBN HRO
        go_upto_if 58 with fail
        go_cut [10, 11, 12] (fun s10 s11 s12 wx => ∃ (b1 b2 : Option Addr) (c1 c2 : Nat), s10 = .int .i64 er ∧ s11 = .slice b1 n1 c1 ∧ s12 = .slice b2 n2 c2 ∧ ElemsAt wx b1 (elemsU o) ∧ ElemsAt wx b2 (needsU o) ∧ Below w8.heap.size w8 wx)
        case first =>
          cases hok : okOp o
          · have her1 : er = 1 := by rw [← HER.out, hok]; rfl
            subst her1
            have h10 : n1 = 0 := by rw [← HN1.out]; unfold elemsU; rw [hok]; rfl
            have h20 : n2 = 0 := by rw [← HN2.out]; unfold needsU; rw [hok]; rfl
            have HE0 := Lib.hid (show elemsU o = [] from by unfold elemsU; rw [hok]; rfl)
            have HE1 := Lib.hid (show needsU o = [] from by unfold needsU; rw [hok]; rfl)
            have HZ1 := Lib.hid h10
            have HZ2 := Lib.hid h20
            clear h10 h20
            go_wp2_with fail
            go_meet
            exact ⟨none, none, 0, 0, rfl, by rw [HZ1.out], by rw [HZ2.out], by rw [HE0.out]; exact ElemsAt.nil _, by rw [HE1.out]; exact ElemsAt.nil _, Below.refl _ _⟩
          · have her1 : er = 0 := by rw [← HER.out, hok]; rfl
            subst her1
            have HRE := Lib.hid (fun W (hW : Below w8.heap.size w8 W) => refE_here o a4 cap4 n1 w8 W bo hok HN1.out (HT8.out.next hW) HSZ.out.1 (HO1.out _ _ _ HX8.out) hW)
            have HRN := Lib.hid (fun W (hW : Below w8.heap.size w8 W) => refN_here o a4 cap4 n2 w8 W hok HN2.out HSZ.out.2.1 HI8.out hW)
            simp only [HOV.out] at HRE HRN
            have d0 := (HX8.out.step (first_below w8)).c0
            have d1 := (HX8.out.step (first_below w8)).c1
            have d2 := (HX8.out.step (first_below w8)).c2
            have d3 := (HX8.out.step (first_below w8)).c3
            have d4 := (HX8.out.step (first_below w8)).c4
            have d5 := (HX8.out.step (first_below w8)).c5
            have d6 := (HX8.out.step (first_below w8)).c6
            have d7 := (HX8.out.step (first_below w8)).c7
            have d8 := (HX8.out.step (first_below w8)).c8
            have d9 := (HX8.out.step (first_below w8)).c9
            have da := (HX8.out.step (first_below w8)).ca
            simp only at d0 d1 d2 d3 d4 d5 d6 d7 d8 d9 da
            go_wp2_with fail
            go_region_law (first
              | (go_simp; go_at_call 10; refine (HRE.out _ (first_below w8)).mono ?_; rintro x9 w9 ⟨a9, c9, rfl, hE9, hX9, hb9⟩; have f0 := (HO2.out _ _ _ hX9).c0; have f1 := (HO2.out _ _ _ hX9).c1; have f2 := (HO2.out _ _ _ hX9).c2; have f3 := (HO2.out _ _ _ hX9).c3; have f4 := (HO2.out _ _ _ hX9).c4; have f5 := (HO2.out _ _ _ hX9).c5; have f6 := (HO2.out _ _ _ hX9).c6; have f7 := (HO2.out _ _ _ hX9).c7; have f8 := (HO2.out _ _ _ hX9).c8; have f9 := (HO2.out _ _ _ hX9).c9; have fa := (HO2.out _ _ _ hX9).ca; simp only at f0 f1 f2 f3 f4 f5 f6 f7 f8 f9 fa)
              | (go_simp; go_at_call 11; refine (HRN.out _ hb9).mono ?_; rintro x10 w10 ⟨a10, c10, rfl, hE10, hb910, hb10⟩))
            all_goals
              go_wp2_with fail
              go_meet
              exact ⟨a9, a10, c9, c10, rfl, rfl, rfl, hE9.below hb910, hE10, hb10⟩
        case rest =>
          obtain ⟨e1, e2, f1, f2, rfl, rfl, rfl, hE1, hE2, hbc⟩ := hcut
          have HX9 := Lib.hid (HX8.out.step hbc)
          have HI9 := Lib.hid (HI8.out.below hbc)
          have HQ9 := Lib.hid (HQ8.out.step hbc)
          have HG9 := Lib.hid (HG8.out.below hbc)
          have HB9 := Lib.hid (HB8.out.trans (hbc.mono HB8.out.size))
          have HL9 := Lib.hid (HL8.out.below hbc)
          have HO9 := Lib.hid (owns_belE HO8.out hbc)
          have HBN9 := Lib.hid (HBN8.out.trans (hbc.mono HBN8.out.size))
          have HE1 := Lib.hid hE1
          have HE2 := Lib.hid hE2
          clear hbc hE1 hE2 HX8 HI8 HQ8 HG8 HT8 HB8 HL8 HO8 HBN8
          have g0 := HX9.out.c0
          have g1 := HX9.out.c1
          have g2 := HX9.out.c2
          have g3 := HX9.out.c3
          have g4 := HX9.out.c4
          have g5 := HX9.out.c5
          have g6 := HX9.out.c6
          have g7 := HX9.out.c7
          have g8 := HX9.out.c8
          have g9 := HX9.out.c9
          have ga := HX9.out.ca
          simp only at g0 g1 g2 g3 g4 g5 g6 g7 g8 g9 ga
          go_wp2_with fail
          clear g0 g1 g2 g3 g4 g5 g6 g7 g8 g9 ga
          refine (HCK.out _ HI9.out).mono ?_
          rintro x w10 ⟨rfl, hb10⟩
          have HX10 := Lib.hid (HX9.out.step hb10)
          have HI10 := Lib.hid (HI9.out.below hb10)
          have HQ10 := Lib.hid (HQ9.out.step hb10)
          have HG10 := Lib.hid (HG9.out.below hb10)
          have HB10 := Lib.hid (HB9.out.trans (hb10.mono HB9.out.size))
          have HO10 := Lib.hid (owns_belE HO9.out hb10)
          have HBN10 := Lib.hid (HBN9.out.trans (hb10.mono HBN9.out.size))
          have HEQ1 := Lib.hid (EqElems_n a6 e1 cap6 f1 n1 (elemsU o) w10 (HL9.out.below hb10) (HE1.out.below hb10) HN1.out (by omega))
          have HE2' := Lib.hid (HE2.out.below hb10)
          have HE1 := Lib.hid (HE1.out.below hb10)
          clear hb10 HX9 HI9 HQ9 HG9 HB9 HL9 HO9 HBN9 HE2
          have her0 : (er != er) = false := by simp
          go_wp2_with (go_at_call 12; refine (num_any _ _).mono ?_; rintro x w9 ⟨rfl, rfl⟩)
          refine HEQ1.out.mono ?_
          rintro x w11 ⟨rfl, hb11⟩
          have HX11 := Lib.hid (HX10.out.step hb11)
          have HI11 := Lib.hid (HI10.out.below hb11)
          have HQ11 := Lib.hid (HQ10.out.step hb11)
          have HG11 := Lib.hid (HG10.out.below hb11)
          have HB11 := Lib.hid (HB10.out.trans (hb11.mono HB10.out.size))
          have HO11 := Lib.hid (owns_belE HO10.out hb11)
          have HBN11 := Lib.hid (HBN10.out.trans (hb11.mono HBN10.out.size))
          have HEQ2 := Lib.hid (EqElems_n a7 e2 cap7 f2 n2 (needsU o) w11 (elems_row2 HO11.out HN2.out) (HE2'.out.below hb11) HN2.out (by omega))
          have HE1 := Lib.hid (HE1.out.below hb11)
          clear hb11 HX10 HI10 HQ10 HG10 HB10 HO10 HBN10 HEQ1 HE2'
          go_wp2_with (go_at_call 12; refine (num_any _ _).mono ?_; rintro x w9 ⟨rfl, rfl⟩)
          refine HEQ2.out.mono ?_
          rintro x w12 ⟨rfl, hb12⟩
          have HX12 := Lib.hid (HX11.out.step hb12)
          have HI12 := Lib.hid (HI11.out.below hb12)
          have HQ12 := Lib.hid (HQ11.out.step hb12)
          have HG12 := Lib.hid (HG11.out.below hb12)
          have HB12 := Lib.hid (HB11.out.trans (hb12.mono HB11.out.size))
          have HO12 := Lib.hid (owns_belE HO11.out hb12)
          have HBN12 := Lib.hid (HBN11.out.trans (hb12.mono HBN11.out.size))
          have HE1 := Lib.hid (HE1.out.below hb12)
          clear hb12 HX11 HI11 HQ11 HG11 HB11 HO11 HBN11 HEQ2
          go_wp2_with fail
          go_loopw [13] (fun i wr => ∃ j : Nat, j ≤ nn ∧ i = .int .i64 j ∧ Below w12.heap.size w12 wr) (fun i _ => nn - (RowKit.intOf i).toNat)
          case atStart => exact ⟨0, by omega, rfl, Below.refl _ _⟩
          case round =>
            obtain ⟨j, hj, rfl, hbj⟩ := hrel
            have hor2 : (j < nn ∧ (j : Int) < 10) ∨ (decide (j < nn) = false) ∨ (j < nn ∧ decide ((j : Int) < 10) = false) := by
              by_cases h1 : j < nn
              · by_cases h2 : (j : Int) < 10
                · exact .inl ⟨h1, h2⟩
                · right; right; exact ⟨h1, by simp; omega⟩
              · right; left; simp; omega
            rcases hor2 with ⟨j1, j2⟩ | hex2 | ⟨j1, hex2⟩
            · obtain ⟨g3, o3, h3, hg3, hns⟩ := ((HN3.out.below HB12.out).below hbj).cell j (by rw [HNS.out]; exact j1)
              generalize NS[j]'(by rw [HNS.out]; exact j1) = x at *
              obtain ⟨y, gg, hXX⟩ : ∃ (y : El) (gg : Int), ownR o x = (y, gg) := ⟨_, _, rfl⟩
              have HXX := Lib.hid hXX
              have HOW1 := Lib.hid (own_here (HOW.out x) hXX HI12.out hbj)
              clear hXX
              subst h3
              go_upto_region 19 with fail
              go_cut [14, 15] (fun s14 s15 wx => ∃ bx, s14 = .pointer (some ⟨bx, 0, none⟩) ∧ s15 = .int .i64 gg ∧ BoxE wx bx y ∧ Below wr.heap.size wr wx)
              case first =>
                have d0 := ((HX12.out.step hbj).step (first_below wr)).c0
                have d1 := ((HX12.out.step hbj).step (first_below wr)).c1
                have d2 := ((HX12.out.step hbj).step (first_below wr)).c2
                have d3 := ((HX12.out.step hbj).step (first_below wr)).c3
                have d4 := ((HX12.out.step hbj).step (first_below wr)).c4
                have d5 := ((HX12.out.step hbj).step (first_below wr)).c5
                have d6 := ((HX12.out.step hbj).step (first_below wr)).c6
                have d7 := ((HX12.out.step hbj).step (first_below wr)).c7
                have d8 := ((HX12.out.step hbj).step (first_below wr)).c8
                have d9 := ((HX12.out.step hbj).step (first_below wr)).c9
                have da := ((HX12.out.step hbj).step (first_below wr)).ca
                simp only at d0 d1 d2 d3 d4 d5 d6 d7 d8 d9 da
                have dn : wr.drew.cell? ⟨g3, o3 + j, none⟩ = some (.int .i64 x) := hns
                have dn2 : wr.cell? ⟨g3, o3 + j, none⟩ = some (.int .i64 x) := hns
                have e0 : wr.cell? _ = _ := d0
                have e1' : wr.cell? _ = _ := d1
                have e2' : wr.cell? _ = _ := d2
                have e3' : wr.cell? _ = _ := d3
                have e4' : wr.cell? _ = _ := d4
                have e5' : wr.cell? _ = _ := d5
                have e6' : wr.cell? _ = _ := d6
                have e7' : wr.cell? _ = _ := d7
                have e8' : wr.cell? _ = _ := d8
                have e9' : wr.cell? _ = _ := d9
                have ea' : wr.cell? _ = _ := da
                have hl1 : bo < wr.heap.size := (HX12.out.step hbj).lt
                clear hns
                go_region_law (first
                  | (go_simp; go_at_call 15; refine (HOW1.out _ (first_below wr)).mono ?_; rintro x9 w9 ⟨rfl, hbW9, hb9⟩)
                  | (go_simp; go_at_call 15; refine (HOW1.out _ (second_below wr _)).mono ?_; rintro x9 w9 ⟨rfl, hbW9, hb9⟩; obtain ⟨z0, z1, z2, zf0, zf1, zf2⟩ := zero_in (n := wr.heap.size) (wx := wr.drew) rfl hbW9)
                  | (go_simp; go_at_call 15; refine (HOW1.out _ (third_below wr _)).mono ?_; rintro x9 w9 ⟨rfl, hbW9, hb9⟩; obtain ⟨z0, z1, z2, zf0, zf1, zf2⟩ := zero_in (n := wr.heap.size) (wx := wr) rfl (below_drawn hbW9)))
                all_goals
                  go_wp2_with fail
                  go_meet
                  first
                    | exact ⟨_, rfl, rfl, BoxE.new w9 y, hb9.alloc hb9.size _⟩
                    | exact ⟨_, rfl, rfl, box_set (y := y) z0 z1 z2, ((hb9.setCell (Nat.le_refl _) _).setCell (Nat.le_refl _) _).setCell (Nat.le_refl _) _⟩
              case rest =>
                obtain ⟨bx, rfl, rfl, hxE, hbx⟩ := hcut
                have HXE := Lib.hid hxE
                have HBX := Lib.hid hbx
                have hnc : wc.cell? ⟨g3, o3 + j, none⟩ = some (.int .i64 x) := (hbx.cell (p := ⟨g3, o3 + j, none⟩) hg3).trans hns
                clear hns hxE hbx
                have hg3c : g3 < wc.heap.size := Nat.lt_of_lt_of_le hg3 HBX.out.size
                have HE2 := Lib.hid ((HE1.out.below hbj).below (show Below wr.heap.size wr wc from HBX.out))
                go_upto_if 114 with fail
                go_cut [16] (fun s16 wx => s16 = .int .i64 gg ∧ BoxE wx wc.heap.size y ∧ BoxE wx bx y ∧ Below wr.heap.size wr wx)
                case first =>
                  have HZ := Lib.hid (BoxE.new wc ⟨0, 0, 0⟩)
                  have HBA := Lib.hid ((Below.refl wc.heap.size wc).alloc (Nat.le_refl _) (.cells #[.int .i64 0, .int .i64 0, .int .i64 0] 29))
                  cases hok : okOp o
                  · have her1 : er = 1 := by rw [← HER.out, hok]; rfl
                    obtain ⟨hy, hg⟩ := own_bad hok HXX.out
                    subst hy hg her1
                    go_wp2_with fail
                    go_meet
                    exact ⟨rfl, HZ.out, HXE.out.step HBA.out, HBX.out.alloc HBX.out.size _⟩
                  · have her1 : er = 0 := by rw [← HER.out, hok]; rfl
                    subst her1
                    rcases own_cases hok HN1.out HXX.out with ⟨hbt, hg, i, hxi, hi, hy⟩ | ⟨hbt, hy, hg⟩
                    · subst hg hxi
                      have HNM := Lib.hid (fun w => (rNum_any (i : Int) ((n1 : Int) - 1) w).mono (fun e w' h => (show e = .returned (.bool true) ∧ w' = w from by unfold Bo at h; rw [hbt] at h; first | exact h | exact ⟨h.1, h.2.symm⟩)))
                      obtain ⟨eb, eo, he1, heb, c0, c1, c2⟩ := HE2.out.cell i hi
                      rw [hy] at c0 c1 c2
                      have hin : i < n1 := by rw [← HN1.out]; exact hi
                      have HI := Lib.hid hin
                      clear hbt hy hi
                      subst he1
                      go_wp2_with (go_at_call 16; refine (HNM.out _).mono ?_; rintro x9 w9 ⟨rfl, rfl⟩)
                      obtain ⟨z0, z1, z2, zf0, zf1, zf2⟩ := zero_in (n := wc.heap.size) (wx := wc) rfl (((Below.refl _ _).drew) : Below (wc.alloc (.cells #[.int .i64 0, .int .i64 0, .int .i64 0] 29)).heap.size (wc.alloc (.cells #[.int .i64 0, .int .i64 0, .int .i64 0] 29)) (wc.alloc (.cells #[.int .i64 0, .int .i64 0, .int .i64 0] 29)).drew)
                      have hb9 := HBA.out.drew
                      go_region_law (first | fail)
                      all_goals
                        go_wp2_with fail
                        go_meet
                        first
                          | exact ⟨rfl, box_set (y := y) z0 z1 z2, HXE.out.step (((hb9.setCell (Nat.le_refl _) _).setCell (Nat.le_refl _) _).setCell (Nat.le_refl _) _), (HBX.out.trans ((((hb9.setCell (Nat.le_refl _) _).setCell (Nat.le_refl _) _).setCell (Nat.le_refl _) _).mono HBX.out.size))⟩
                          | exact ⟨rfl, box_drew (BoxE.new wc y), HXE.out.step ((Below.refl wc.heap.size wc).alloc (Nat.le_refl _) _).drew, (HBX.out.alloc HBX.out.size _).drew⟩
                    · subst hy hg
                      have HNM := Lib.hid (fun w => (rNum_any x ((n1 : Int) - 1) w).mono (fun e w' h => (show e = .returned (.bool false) ∧ w' = w from by unfold Bo at h; rw [hbt] at h; first | exact h | exact ⟨h.1, h.2.symm⟩)))
                      clear hbt
                      go_wp2_with (go_at_call 16; refine (HNM.out _).mono ?_; rintro x9 w9 ⟨rfl, rfl⟩)
                      go_meet
                      exact ⟨rfl, HZ.out, HXE.out.step HBA.out, HBX.out.alloc HBX.out.size _⟩
                case rest =>
                  obtain ⟨rfl, hxW, hxE, hbx⟩ := hcut
                  have HBR := Lib.hid (hbj.trans (hbx.mono hbj.size))
                  have c0 := hxE.c0
                  have c1 := hxE.c1
                  have c2 := hxE.c2
                  have v0 := hxW.c0
                  have v1 := hxW.c1
                  have v2 := hxW.c2
                  have hgg : (gg != gg) = false := by simp
                  clear hxW hxE hbx
                  go_wp2_with (go_at_call 12; refine (num_any _ _).mono ?_; rintro x9 w9 ⟨rfl, rfl⟩)
                  go_roundw
                  case rel => exact ⟨j + 1, by omega, by go_num, HBR.out⟩
                  case measure => simp [RowKit.intOf]; omega
            · as_aux_lemma =>
                have HOt := Lib.hid (owns_belE HO12.out hbj)
                have HBt := Lib.hid (HBN12.out.trans (hbj.mono HBN12.out.size))
                clear hbj
                go_wp2_with fail
                refine (Spoil_own a7 cap7 n2 w6.heap.size w6.heap.size (ecs (needsU o)) w6 _ HOt.out (Nat.le_refl _) HBt.out (by omega)).mono ?_
                rintro x w13 ⟨rfl, hb13⟩
                have HX13 := Lib.hid (HX6.out.step hb13)
                have HQ13 := Lib.hid (HQ6.out.step hb13)
                have HB13 := Lib.hid (HB6.out.trans (hb13.mono HB6.out.size))
                have HER := Lib.hid (fun d os => HEQ.out (Sort.grow (redrawn w13 d) os) ((HI6.out.below hb13).gone.below (below_regrown w13 d os)) ((HG6.out.below hb13).below (below_regrown w13 d os)))
                have a0 := cell_regrown ((HX.out.step HB3.out).step HB13.out).c0
                simp only at a0
                clear hb13
                have g0 := cell_regrown HX13.out.c0
                have g1 := cell_regrown HX13.out.c1
                have g2 := cell_regrown HX13.out.c2
                have g3 := cell_regrown HX13.out.c3
                have g4 := cell_regrown HX13.out.c4
                have g5 := cell_regrown HX13.out.c5
                have g6 := cell_regrown HX13.out.c6
                have g7 := cell_regrown HX13.out.c7
                have g8 := cell_regrown HX13.out.c8
                have g9 := cell_regrown HX13.out.c9
                have ga := cell_regrown HX13.out.ca
                simp only at g0 g1 g2 g3 g4 g5 g6 g7 g8 g9 ga
                have q0 := cell_regrown HQ13.out.c0
                have q1 := cell_regrown HQ13.out.c1
                have q2 := cell_regrown HQ13.out.c2
                have q3 := cell_regrown HQ13.out.c3
                have q4 := cell_regrown HQ13.out.c4
                have q5 := cell_regrown HQ13.out.c5
                have q6 := cell_regrown HQ13.out.c6
                have q7 := cell_regrown HQ13.out.c7
                have q8 := cell_regrown HQ13.out.c8
                have q9 := cell_regrown HQ13.out.c9
                have qa := cell_regrown HQ13.out.ca
                simp only at q0 q1 q2 q3 q4 q5 q6 q7 q8 q9 qa
                go_wp2_with fail
                refine wp_region_quiet_below (by kernel_rfl) (by kernel_rfl) ?_
                repeat (first | go_big_quiet_step (exact Calls.regrown_of (HER.out _ _)) | quiet_step (exact Calls.regrown_of (HER.out _ _)))
                refine wpQuiet_nil ?_
                intro _ hw'
                obtain ⟨⟨dq, osq⟩, hw''⟩ := hw'
                subst hw''
                have hbv := HB13.out.trans ((below_regrown w13 dq osq).mono HB13.out.size)
                clear a0 g0 g1 g2 g3 g4 g5 g6 g7 g8 g9 ga q0 q1 q2 q3 q4 q5 q6 q7 q8 q9 qa
                generalize Sort.grow (redrawn w13 dq) osq = wv at *
                go_wp2_with fail
                go_roundw
                case rel => exact ⟨k + 1, by omega, by go_num, hbv⟩
                case measure => simp [RowKit.intOf]; omega
            · as_aux_lemma =>
                have HOt := Lib.hid (owns_belE HO12.out hbj)
                have HBt := Lib.hid (HBN12.out.trans (hbj.mono HBN12.out.size))
                clear hbj
                go_wp2_with fail
                refine (Spoil_own a7 cap7 n2 w6.heap.size w6.heap.size (ecs (needsU o)) w6 _ HOt.out (Nat.le_refl _) HBt.out (by omega)).mono ?_
                rintro x w13 ⟨rfl, hb13⟩
                have HX13 := Lib.hid (HX6.out.step hb13)
                have HQ13 := Lib.hid (HQ6.out.step hb13)
                have HB13 := Lib.hid (HB6.out.trans (hb13.mono HB6.out.size))
                have HER := Lib.hid (fun d os => HEQ.out (Sort.grow (redrawn w13 d) os) ((HI6.out.below hb13).gone.below (below_regrown w13 d os)) ((HG6.out.below hb13).below (below_regrown w13 d os)))
                have a0 := cell_regrown ((HX.out.step HB3.out).step HB13.out).c0
                simp only at a0
                clear hb13
                have g0 := cell_regrown HX13.out.c0
                have g1 := cell_regrown HX13.out.c1
                have g2 := cell_regrown HX13.out.c2
                have g3 := cell_regrown HX13.out.c3
                have g4 := cell_regrown HX13.out.c4
                have g5 := cell_regrown HX13.out.c5
                have g6 := cell_regrown HX13.out.c6
                have g7 := cell_regrown HX13.out.c7
                have g8 := cell_regrown HX13.out.c8
                have g9 := cell_regrown HX13.out.c9
                have ga := cell_regrown HX13.out.ca
                simp only at g0 g1 g2 g3 g4 g5 g6 g7 g8 g9 ga
                have q0 := cell_regrown HQ13.out.c0
                have q1 := cell_regrown HQ13.out.c1
                have q2 := cell_regrown HQ13.out.c2
                have q3 := cell_regrown HQ13.out.c3
                have q4 := cell_regrown HQ13.out.c4
                have q5 := cell_regrown HQ13.out.c5
                have q6 := cell_regrown HQ13.out.c6
                have q7 := cell_regrown HQ13.out.c7
                have q8 := cell_regrown HQ13.out.c8
                have q9 := cell_regrown HQ13.out.c9
                have qa := cell_regrown HQ13.out.ca
                simp only at q0 q1 q2 q3 q4 q5 q6 q7 q8 q9 qa
                go_wp2_with fail
                refine wp_region_quiet_below (by kernel_rfl) (by kernel_rfl) ?_
                repeat (first | go_big_quiet_step (exact Calls.regrown_of (HER.out _ _)) | quiet_step (exact Calls.regrown_of (HER.out _ _)))
                refine wpQuiet_nil ?_
                intro _ hw'
                obtain ⟨⟨dq, osq⟩, hw''⟩ := hw'
                subst hw''
                have hbv := HB13.out.trans ((below_regrown w13 dq osq).mono HB13.out.size)
                clear a0 g0 g1 g2 g3 g4 g5 g6 g7 g8 g9 ga q0 q1 q2 q3 q4 q5 q6 q7 q8 q9 qa
                generalize Sort.grow (redrawn w13 dq) osq = wv at *
                go_wp2_with fail
                go_roundw
                case rel => exact ⟨k + 1, by omega, by go_num, hbv⟩
                case measure => simp [RowKit.intOf]; omega
      · go_wp2_with fail
        have HWR := Lib.hid (HB3.out.trans (hbel.mono HB3.out.size))
        have HE := Lib.hid HA.out.e
        have hz8 := hbel.size
        clear a0 hbel
        go_loopw [18] (fun i wx => ∃ k : Nat, k ≤ le.length ∧ i = .int .i64 k ∧ Below W0.heap.size W0 wx) (fun i _ => le.length - (RowKit.intOf i).toNat)
        case atStart => exact ⟨0, by omega, rfl, HWR.out⟩
        case round =>
          obtain ⟨k1, hk1, rfl, hbel⟩ := hrel
          have a1 := (HX.out.step hbel).c1
          simp only at a1
          have hor1 : (k1 < le.length ∧ (k1 : Int) < 20) ∨ (decide (k1 < le.length) = false) ∨ (k1 < le.length ∧ decide ((k1 : Int) < 20) = false) := by
            by_cases h1 : k1 < le.length
            · by_cases h2 : (k1 : Int) < 20
              · exact .inl ⟨h1, h2⟩
              · right; right; exact ⟨h1, by simp; omega⟩
            · right; left; simp; omega
          rcases hor1 with ⟨i1, i2⟩ | hex1 | ⟨i1, hex1⟩
          · obtain ⟨b1, o1, hae, hb1, x0, x1, x2⟩ := HE.out.cell k1 i1
            simp only at hae x0 x1 x2
            subst hae
            have G0 := Lib.hid x0
            have G1 := Lib.hid x1
            have G2 := Lib.hid x2
            have p0 := (hbel.cell (p := ⟨b1, o1 + k1 * 3, none⟩) hb1).trans x0
            have p1 := (hbel.cell (p := ⟨b1, o1 + k1 * 3 + 1, none⟩) hb1).trans x1
            have p2 := (hbel.cell (p := ⟨b1, o1 + k1 * 3 + 2, none⟩) hb1).trans x2
            clear x0 x1 x2
            generalize le[k1] = x at *
            have HXE := Lib.hid (fun w => xElem_any x w)
            have HRE := Lib.hid (fun w => rElem_any x w)
            have HNB := Lib.hid (fun (n : Int) w => num_below n w)
            have P0 := Lib.hid p0
            have P1 := Lib.hid p1
            have P2 := Lib.hid p2
            have A1 := Lib.hid a1
            clear p0 p1 p2
            go_wp2_with fail
            have r0 := cell_regrown P0.out
            have r1 := cell_regrown P1.out
            have r2 := cell_regrown P2.out
            have t1 := cell_regrown A1.out
            clear a1
            go_cut [174] (fun s wx => s = .bool false ∧ Below W0.heap.size W0 wx)
            case first =>
              cases hb : x.ok
              all_goals
                rw [hb] at HXE HRE
                first | rw [show errO false = 1 from rfl] at HXE | rw [show errO true = 0 from rfl] at HXE
                clear hb
                refine wp_region_quiet_below (by kernel_rfl) (by kernel_rfl) ?_
                repeat (first | go_big_quiet_step (first | exact Calls.regrown_of (HXE.out _) | exact Calls.regrown_of (HRE.out _) | exact Calls.regrown_of (HNB.out _ _)) | quiet_step (first | exact Calls.regrown_of (HXE.out _) | exact Calls.regrown_of (HRE.out _) | exact Calls.regrown_of (HNB.out _ _)))
                refine wpQuiet_nil ?_
                intro _ hw'
                obtain ⟨⟨dq, osq⟩, hw''⟩ := hw'
                subst hw''
                have hbv := hbel.trans ((below_regrown _ dq osq).mono hbel.size)
                clear r0 r1 r2 t1
                generalize Sort.grow (redrawn _ dq) osq = wv at *
                go_wp2_with fail
                go_meet
                exact ⟨rfl, hbv⟩
            case rest =>
              obtain ⟨rfl, hbv⟩ := hcut
              clear hbel r0 r1 r2 t1 P0 P1 P2 A1 HXE HRE HNB
              go_wp2_with fail
              go_loopw [19] (fun i wx => ∃ k : Nat, k ≤ le.length ∧ i = .int .i64 k ∧ Below W0.heap.size W0 wx) (fun i _ => le.length - (RowKit.intOf i).toNat)
              case atStart => exact ⟨0, by omega, rfl, hbv⟩
              case round =>
                clear hbv
                obtain ⟨k2, hk2, rfl, hbel⟩ := hrel
                have a1 := (HX.out.step hbel).c1
                simp only at a1
                have hor2 : (k2 < le.length ∧ (k2 : Int) < 20) ∨ (decide (k2 < le.length) = false) ∨ (k2 < le.length ∧ decide ((k2 : Int) < 20) = false) := by
                  by_cases h1 : k2 < le.length
                  · by_cases h2 : (k2 : Int) < 20
                    · exact .inl ⟨h1, h2⟩
                    · right; right; exact ⟨h1, by simp; omega⟩
                  · right; left; simp; omega
                rcases hor2 with ⟨j1, j2⟩ | hex2 | ⟨j1, hex2⟩
                · obtain ⟨b2, o2, hae2, hb2, y0, y1, y2⟩ := HE.out.cell k2 j1
                  simp only [Option.some.injEq, Addr.mk.injEq] at hae2
                  obtain ⟨rfl, rfl, _⟩ := hae2
                  have p0 := (hbel.cell (p := ⟨b1, o1 + k1 * 3, none⟩) hb1).trans G0.out
                  have p1 := (hbel.cell (p := ⟨b1, o1 + k1 * 3 + 1, none⟩) hb1).trans G1.out
                  have p2 := (hbel.cell (p := ⟨b1, o1 + k1 * 3 + 2, none⟩) hb1).trans G2.out
                  have q0 := (hbel.cell (p := ⟨b1, o1 + k2 * 3, none⟩) hb1).trans y0
                  have q1 := (hbel.cell (p := ⟨b1, o1 + k2 * 3 + 1, none⟩) hb1).trans y1
                  have q2 := (hbel.cell (p := ⟨b1, o1 + k2 * 3 + 2, none⟩) hb1).trans y2
                  clear y0 y1 y2
                  generalize le[k2] = y at *
                  have HLA := Lib.hid (fun w => xLess_any x y w)
                  have HLB := Lib.hid (fun w => Less_any x y w)
                  have P0 := Lib.hid p0
                  have P1 := Lib.hid p1
                  have P2 := Lib.hid p2
                  have K0 := Lib.hid q0
                  have K1 := Lib.hid q1
                  have K2 := Lib.hid q2
                  have A1 := Lib.hid a1
                  clear p0 p1 p2 q0 q1 q2
                  go_wp2_with fail
                  have r0 := cell_regrown P0.out
                  have r1 := cell_regrown P1.out
                  have r2 := cell_regrown P2.out
                  have s0 := cell_regrown K0.out
                  have s1 := cell_regrown K1.out
                  have s2 := cell_regrown K2.out
                  have t1 := cell_regrown A1.out
                  clear a1
                  go_cut [208] (fun s wx => s = .bool false ∧ Below W0.heap.size W0 wx)
                  case first =>
                    cases hb : x.lt y
                    all_goals
                      rw [hb] at HLA HLB
                      clear hb
                      refine wp_region_quiet_below (by kernel_rfl) (by kernel_rfl) ?_
                      repeat (first | go_big_quiet_step (first | exact Calls.regrown_of (HLA.out _) | exact Calls.regrown_of (HLB.out _)) | quiet_step (first | exact Calls.regrown_of (HLA.out _) | exact Calls.regrown_of (HLB.out _)))
                      refine wpQuiet_nil ?_
                      intro _ hw'
                      obtain ⟨⟨dq, osq⟩, hw''⟩ := hw'
                      subst hw''
                      have hbv := hbel.trans ((below_regrown _ dq osq).mono hbel.size)
                      clear r0 r1 r2 s0 s1 s2 t1
                      generalize Sort.grow (redrawn _ dq) osq = wv at *
                      go_wp2_with fail
                      go_meet
                      exact ⟨rfl, hbv⟩
                  case rest =>
                    obtain ⟨rfl, hbv⟩ := hcut
                    clear hbel r0 r1 r2 s0 s1 s2 t1 P0 P1 P2 K0 K1 K2 A1 HLA HLB
                    as_aux_lemma =>
                      go_wp2_with fail
                      go_roundw
                      case rel => exact ⟨k2 + 1, by omega, by go_num, hbv⟩
                      case measure => simp [RowKit.intOf]; omega
                · as_aux_lemma =>
                    go_wp2_with fail
                    go_roundw
                    case rel => exact ⟨k1 + 1, by omega, by go_num, hbel⟩
                    case measure => simp [RowKit.intOf]; omega
                · as_aux_lemma =>
                    go_wp2_with fail
                    go_roundw
                    case rel => exact ⟨k1 + 1, by omega, by go_num, hbel⟩
                    case measure => simp [RowKit.intOf]; omega
          · have HBF := Lib.hid (HB.out.trans (hbel.mono HB.out.size))
            clear hbel
            as_aux_lemma =>
              go_wp2_with fail
              refine (wakes_any _).mono ?_
              rintro x w9 ⟨rfl, hb9⟩
              go_wp2
              go_ret
              exact ⟨rfl, HBF.out.trans (hb9.mono HBF.out.size)⟩
          · have HBF := Lib.hid (HB.out.trans (hbel.mono HB.out.size))
            clear hbel
            as_aux_lemma =>
              go_wp2_with fail
              refine (wakes_any _).mono ?_
              rintro x w9 ⟨rfl, hb9⟩
              go_wp2
              go_ret
              exact ⟨rfl, HBF.out.trans (hb9.mono HBF.out.size)⟩
      · go_wp2_with fail
        have HWR := Lib.hid (HB3.out.trans (hbel.mono HB3.out.size))
        have HE := Lib.hid HA.out.e
        have hz8 := hbel.size
        clear a0 hbel
        go_loopw [18] (fun i wx => ∃ k : Nat, k ≤ le.length ∧ i = .int .i64 k ∧ Below W0.heap.size W0 wx) (fun i _ => le.length - (RowKit.intOf i).toNat)
        case atStart => exact ⟨0, by omega, rfl, HWR.out⟩
        case round =>
          obtain ⟨k1, hk1, rfl, hbel⟩ := hrel
          have a1 := (HX.out.step hbel).c1
          simp only at a1
          have hor1 : (k1 < le.length ∧ (k1 : Int) < 20) ∨ (decide (k1 < le.length) = false) ∨ (k1 < le.length ∧ decide ((k1 : Int) < 20) = false) := by
            by_cases h1 : k1 < le.length
            · by_cases h2 : (k1 : Int) < 20
              · exact .inl ⟨h1, h2⟩
              · right; right; exact ⟨h1, by simp; omega⟩
            · right; left; simp; omega
          rcases hor1 with ⟨i1, i2⟩ | hex1 | ⟨i1, hex1⟩
          · obtain ⟨b1, o1, hae, hb1, x0, x1, x2⟩ := HE.out.cell k1 i1
            simp only at hae x0 x1 x2
            subst hae
            have G0 := Lib.hid x0
            have G1 := Lib.hid x1
            have G2 := Lib.hid x2
            have p0 := (hbel.cell (p := ⟨b1, o1 + k1 * 3, none⟩) hb1).trans x0
            have p1 := (hbel.cell (p := ⟨b1, o1 + k1 * 3 + 1, none⟩) hb1).trans x1
            have p2 := (hbel.cell (p := ⟨b1, o1 + k1 * 3 + 2, none⟩) hb1).trans x2
            clear x0 x1 x2
            generalize le[k1] = x at *
            have HXE := Lib.hid (fun w => xElem_any x w)
            have HRE := Lib.hid (fun w => rElem_any x w)
            have HNB := Lib.hid (fun (n : Int) w => num_below n w)
            have P0 := Lib.hid p0
            have P1 := Lib.hid p1
            have P2 := Lib.hid p2
            have A1 := Lib.hid a1
            clear p0 p1 p2
            go_wp2_with fail
            have r0 := cell_regrown P0.out
            have r1 := cell_regrown P1.out
            have r2 := cell_regrown P2.out
            have t1 := cell_regrown A1.out
            clear a1
            go_cut [174] (fun s wx => s = .bool false ∧ Below W0.heap.size W0 wx)
            case first =>
              cases hb : x.ok
              all_goals
                rw [hb] at HXE HRE
                first | rw [show errO false = 1 from rfl] at HXE | rw [show errO true = 0 from rfl] at HXE
                clear hb
                refine wp_region_quiet_below (by kernel_rfl) (by kernel_rfl) ?_
                repeat (first | go_big_quiet_step (first | exact Calls.regrown_of (HXE.out _) | exact Calls.regrown_of (HRE.out _) | exact Calls.regrown_of (HNB.out _ _)) | quiet_step (first | exact Calls.regrown_of (HXE.out _) | exact Calls.regrown_of (HRE.out _) | exact Calls.regrown_of (HNB.out _ _)))
                refine wpQuiet_nil ?_
                intro _ hw'
                obtain ⟨⟨dq, osq⟩, hw''⟩ := hw'
                subst hw''
                have hbv := hbel.trans ((below_regrown _ dq osq).mono hbel.size)
                clear r0 r1 r2 t1
                generalize Sort.grow (redrawn _ dq) osq = wv at *
                go_wp2_with fail
                go_meet
                exact ⟨rfl, hbv⟩
            case rest =>
              obtain ⟨rfl, hbv⟩ := hcut
              clear hbel r0 r1 r2 t1 P0 P1 P2 A1 HXE HRE HNB
              go_wp2_with fail
              go_loopw [19] (fun i wx => ∃ k : Nat, k ≤ le.length ∧ i = .int .i64 k ∧ Below W0.heap.size W0 wx) (fun i _ => le.length - (RowKit.intOf i).toNat)
              case atStart => exact ⟨0, by omega, rfl, hbv⟩
              case round =>
                clear hbv
                obtain ⟨k2, hk2, rfl, hbel⟩ := hrel
                have a1 := (HX.out.step hbel).c1
                simp only at a1
                have hor2 : (k2 < le.length ∧ (k2 : Int) < 20) ∨ (decide (k2 < le.length) = false) ∨ (k2 < le.length ∧ decide ((k2 : Int) < 20) = false) := by
                  by_cases h1 : k2 < le.length
                  · by_cases h2 : (k2 : Int) < 20
                    · exact .inl ⟨h1, h2⟩
                    · right; right; exact ⟨h1, by simp; omega⟩
                  · right; left; simp; omega
                rcases hor2 with ⟨j1, j2⟩ | hex2 | ⟨j1, hex2⟩
                · obtain ⟨b2, o2, hae2, hb2, y0, y1, y2⟩ := HE.out.cell k2 j1
                  simp only [Option.some.injEq, Addr.mk.injEq] at hae2
                  obtain ⟨rfl, rfl, _⟩ := hae2
                  have p0 := (hbel.cell (p := ⟨b1, o1 + k1 * 3, none⟩) hb1).trans G0.out
                  have p1 := (hbel.cell (p := ⟨b1, o1 + k1 * 3 + 1, none⟩) hb1).trans G1.out
                  have p2 := (hbel.cell (p := ⟨b1, o1 + k1 * 3 + 2, none⟩) hb1).trans G2.out
                  have q0 := (hbel.cell (p := ⟨b1, o1 + k2 * 3, none⟩) hb1).trans y0
                  have q1 := (hbel.cell (p := ⟨b1, o1 + k2 * 3 + 1, none⟩) hb1).trans y1
                  have q2 := (hbel.cell (p := ⟨b1, o1 + k2 * 3 + 2, none⟩) hb1).trans y2
                  clear y0 y1 y2
                  generalize le[k2] = y at *
                  have HLA := Lib.hid (fun w => xLess_any x y w)
                  have HLB := Lib.hid (fun w => Less_any x y w)
                  have P0 := Lib.hid p0
                  have P1 := Lib.hid p1
                  have P2 := Lib.hid p2
                  have K0 := Lib.hid q0
                  have K1 := Lib.hid q1
                  have K2 := Lib.hid q2
                  have A1 := Lib.hid a1
                  clear p0 p1 p2 q0 q1 q2
                  go_wp2_with fail
                  have r0 := cell_regrown P0.out
                  have r1 := cell_regrown P1.out
                  have r2 := cell_regrown P2.out
                  have s0 := cell_regrown K0.out
                  have s1 := cell_regrown K1.out
                  have s2 := cell_regrown K2.out
                  have t1 := cell_regrown A1.out
                  clear a1
                  go_cut [208] (fun s wx => s = .bool false ∧ Below W0.heap.size W0 wx)
                  case first =>
                    cases hb : x.lt y
                    all_goals
                      rw [hb] at HLA HLB
                      clear hb
                      refine wp_region_quiet_below (by kernel_rfl) (by kernel_rfl) ?_
                      repeat (first | go_big_quiet_step (first | exact Calls.regrown_of (HLA.out _) | exact Calls.regrown_of (HLB.out _)) | quiet_step (first | exact Calls.regrown_of (HLA.out _) | exact Calls.regrown_of (HLB.out _)))
                      refine wpQuiet_nil ?_
                      intro _ hw'
                      obtain ⟨⟨dq, osq⟩, hw''⟩ := hw'
                      subst hw''
                      have hbv := hbel.trans ((below_regrown _ dq osq).mono hbel.size)
                      clear r0 r1 r2 s0 s1 s2 t1
                      generalize Sort.grow (redrawn _ dq) osq = wv at *
                      go_wp2_with fail
                      go_meet
                      exact ⟨rfl, hbv⟩
                  case rest =>
                    obtain ⟨rfl, hbv⟩ := hcut
                    clear hbel r0 r1 r2 s0 s1 s2 t1 P0 P1 P2 K0 K1 K2 A1 HLA HLB
                    as_aux_lemma =>
                      go_wp2_with fail
                      go_roundw
                      case rel => exact ⟨k2 + 1, by omega, by go_num, hbv⟩
                      case measure => simp [RowKit.intOf]; omega
                · as_aux_lemma =>
                    go_wp2_with fail
                    go_roundw
                    case rel => exact ⟨k1 + 1, by omega, by go_num, hbel⟩
                    case measure => simp [RowKit.intOf]; omega
                · as_aux_lemma =>
                    go_wp2_with fail
                    go_roundw
                    case rel => exact ⟨k1 + 1, by omega, by go_num, hbel⟩
                    case measure => simp [RowKit.intOf]; omega
          · have HBF := Lib.hid (HB.out.trans (hbel.mono HB.out.size))
            clear hbel
            as_aux_lemma =>
              go_wp2_with fail
              refine (wakes_any _).mono ?_
              rintro x w9 ⟨rfl, hb9⟩
              go_wp2
              go_ret
              exact ⟨rfl, HBF.out.trans (hb9.mono HBF.out.size)⟩
          · have HBF := Lib.hid (HB.out.trans (hbel.mono HB.out.size))
            clear hbel
            as_aux_lemma =>
              go_wp2_with fail
              refine (wakes_any _).mono ?_
              rintro x w9 ⟨rfl, hb9⟩
              go_wp2
              go_ret
              exact ⟨rfl, HBF.out.trans (hb9.mono HBF.out.size)⟩
end Go.Proofs.YtlgnpkigodohnaaDoor
