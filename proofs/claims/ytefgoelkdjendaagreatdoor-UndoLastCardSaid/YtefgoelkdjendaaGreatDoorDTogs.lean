/- a copy of a row with a toggle more, in new memory; what of such a row is told -/
import Derived.Test.YtefgoelkdjendaaGreatDoorDIdle
import Derived.Test.YtefgoelkdjendaaGreatDoorDTog
import Derived.Test.YtefgoelkdjendaaGreatDoorYCut
namespace Go.Proofs.YtefgoelkdjendaaGreatDoor
open Go.RowKit Go.Lib Go.Sort

/-- an op's cells within a row -/
structure OpC (w : World) (b p : Nat) (o : OpD) : Prop where
  lt : b < w.heap.size
  c0 : w.cell? ⟨b, p, none⟩ = some (.int .i64 o.site)
  c1 : w.cell? ⟨b, p + 1, none⟩ = some (.int .i64 o.seq)
  c2 : w.cell? ⟨b, p + 2, none⟩ = some (.int .i64 o.kind)
  c3 : w.cell? ⟨b, p + 3, none⟩ = some (.int .i64 o.after.s)
  c4 : w.cell? ⟨b, p + 4, none⟩ = some (.int .i64 o.after.q)
  c5 : w.cell? ⟨b, p + 5, none⟩ = some (.int .i64 o.after.i)
  c6 : w.cell? ⟨b, p + 6, none⟩ = some (.string o.text)
  c7 : w.cell? ⟨b, p + 7, none⟩ = some (.slice none o.gone.length 0)
  c8 : w.cell? ⟨b, p + 8, none⟩ = some (.int .i64 o.of)
  c9 : w.cell? ⟨b, p + 9, none⟩ = some (.int .i64 o.num)
  ca : w.cell? ⟨b, p + 10, none⟩ = some (.int .i64 o.gen)
theorem OpC.below {w w' : World} {b p : Nat} {o : OpD} (h : OpC w b p o) (hb : Below w.heap.size w w') : OpC w' b p o :=
  ⟨Nat.lt_of_lt_of_le h.lt hb.size, (hb.cell (p := ⟨b, p, none⟩) h.lt).trans h.c0, (hb.cell (p := ⟨b, p + 1, none⟩) h.lt).trans h.c1, (hb.cell (p := ⟨b, p + 2, none⟩) h.lt).trans h.c2, (hb.cell (p := ⟨b, p + 3, none⟩) h.lt).trans h.c3, (hb.cell (p := ⟨b, p + 4, none⟩) h.lt).trans h.c4, (hb.cell (p := ⟨b, p + 5, none⟩) h.lt).trans h.c5, (hb.cell (p := ⟨b, p + 6, none⟩) h.lt).trans h.c6, (hb.cell (p := ⟨b, p + 7, none⟩) h.lt).trans h.c7, (hb.cell (p := ⟨b, p + 8, none⟩) h.lt).trans h.c8, (hb.cell (p := ⟨b, p + 9, none⟩) h.lt).trans h.c9, (hb.cell (p := ⟨b, p + 10, none⟩) h.lt).trans h.ca⟩
/-- a row os and an op behind it, in new memory -/
def TogAt (os : List OpD) (o : OpD) (m : Nat) (w : World) (v : Value) (wx : World) : Prop := ∃ (g off c : Nat) (L : List OpR), v = .slice (some ⟨g, off, none⟩) m c ∧ OpsAt wx (some ⟨g, off, none⟩) L ∧ L.length = m ∧ OpR.os L = os ++ [o] ∧ m ≤ c ∧ OpC wx g (off + (m - 1) * 11) o ∧ Below w.heap.size w wx
theorem TogAt.bel {os : List OpD} {o : OpD} {m : Nat} {w : World} {v : Value} {wx : World} (h : TogAt os o m w v wx) : Below w.heap.size w wx := by
  obtain ⟨_, _, _, _, _, _, _, _, _, _, hb⟩ := h
  exact hb
theorem tog_is {base n g c : Nat} {w w8 : World} {L : List OpR} {os : List OpD} {o : OpD} (h : OwnO base w8 (.slice (some ⟨g, 0, none⟩) (n + 1) c) (L ++ [⟨o, none, 0⟩])) (hL : L.length = n) (hos : OpR.os L = os) (hn : n ≤ 100000) (hc : n + 1 ≤ c) (hb : Below w.heap.size w w8) : TogAt os o (n + 1) w (.slice (some ⟨g, 0, none⟩) (n + 1) c) w8 := by
  have hlen : (L ++ [(⟨o, none, 0⟩ : OpR)]).length = n + 1 := by rw [List.length_append, hL]; rfl
  obtain ⟨a9, c9, hv, hops, _⟩ := h.ops (by rw [hlen]; unfold BIG; omega)
  rw [hlen] at hv
  simp only [Value.slice.injEq] at hv
  obtain ⟨rfl, -, rfl⟩ := hv
  refine ⟨g, 0, c, _, rfl, hops, hlen, by rw [← hos]; simp [OpR.os], hc, ?_, hb⟩
  obtain ⟨b, off, he, hlt, c0, c1, c2, c3, c4, c5, c6, c7, c8, c9', ca⟩ := hops.cells n (by omega)
  simp only [Option.some.injEq, Addr.mk.injEq] at he
  obtain ⟨rfl, rfl, _⟩ := he
  have hg : (L ++ [(⟨o, none, 0⟩ : OpR)])[n]'(by omega) = ⟨o, none, 0⟩ := by
    rw [List.getElem_append_right (by omega)]
    simp [hL]
  rw [hg] at c0 c1 c2 c3 c4 c5 c6 c7 c8 c9' ca
  rw [show n + 1 - 1 = n from rfl]
  exact ⟨hlt, c0, c1, c2, c3, c4, c5, c6, c7, c8, c9', ca⟩
theorem own_cap6 {w : World} {base g cap n : Nat} {t : TypeId} {size : Nat} {xs : List Value} (h : w.ownsRow base t size (.slice (some ⟨g, 0, none⟩) n cap) n xs) : n ≤ cap := by
  rcases h.2 with ⟨h', _⟩ | ⟨g', cap', cur, h', _, _, hnc, _⟩
  · simp at h'
  · simp only [Value.slice.injEq] at h'
    rw [h'.2.2]; exact hnc
theorem OwnO.push0 {base : Nat} {w w8 : World} {v v8 : Value} {L : List OpR} {r : OpR} (h : OwnO base w v L) (hr : OpAt w r.o r.a r.cap) (hra : ∀ ad, r.a = some ad → some ad.block ≠ v.ownBlock ∧ ad.block < w.heap.size ∧ base ≤ ad.block)
    (ho : w8.ownsRow base 33 11 v8 (L.length + 1) (ocs L ++ r.cs)) (hg : w.grownBy w8 v.ownBlock) (hat : v8.ownBlock = v.ownBlock ∨ v8.ownBlock = some w.heap.size) : OwnO base w8 v8 (L ++ [r]) := by
  have hkp : Kp v.ownBlock w w8 := ⟨hg.os, hg.tape, hg.output, hg.size, hg.block⟩
  have hap : ∀ ad : Addr, some ad.block ≠ v.ownBlock ∧ ad.block < w.heap.size → some ad.block ≠ v8.ownBlock ∧ ad.block < w8.heap.size := by
    intro ad ⟨h1, h2⟩
    refine ⟨?_, Nat.lt_of_lt_of_le h2 hkp.size⟩
    rcases hat with e | e
    · rw [e]; exact h1
    · rw [e]
      intro e2
      simp at e2
      omega
  refine ⟨?_, fun x hx => ?_, fun x hx ad ha => ?_, fun x hx ad ha => ?_⟩
  · rw [List.length_append, ocs_append, ocs_one]
    exact ho
  · rcases List.mem_append.1 hx with hx | hx
    · exact (h.at_ x hx).kp hkp (fun ad ha => (h.apart x hx ad ha).1)
    · have : x = r := by simpa using hx
      subst this
      exact hr.kp hkp (fun ad ha => (hra ad ha).1)
  · rcases List.mem_append.1 hx with hx | hx
    · exact hap ad (h.apart x hx ad ha)
    · have : x = r := by simpa using hx
      subst this
      exact hap ad ⟨(hra ad ha).1, (hra ad ha).2.1⟩
  · rcases List.mem_append.1 hx with hx | hx
    · exact h.ge x hx ad ha
    · have : x = r := by simpa using hx
      subst this
      exact (hra ad ha).2.2
theorem tog_op (w : World) {o : OpD} (hg : o.gone = []) (ht : o.text.size = 0) : OpAt w o none 0 := ⟨by rw [hg]; exact ElemsAt.nil none, by rw [hg]; exact Nat.zero_le _, by rw [ht]; exact Nat.zero_le _, fun _ => ⟨by rw [hg]; rfl, rfl⟩⟩
/-- the copy first, then the op's block -/
theorem tog_a {n g c : Nat} {w w3 w8 : World} {ob : Obj} {v3 : Value} {L : List OpR} {os : List OpD} {o : OpD} (h : OwnO w.heap.size w3 v3 L) (hL : L.length = n) (hos : OpR.os L = os) (hn : n ≤ 100000) (hgn : o.gone = []) (ht : o.text.size = 0) (hb : Below w.heap.size w w3)
    (hown : w8.ownsRow w.heap.size 33 11 (.slice (some ⟨g, 0, none⟩) (n + 1) c) (n + 1) (ocs L ++ OpR.cs ⟨o, none, 0⟩)) (hg : (w3.alloc ob).grownBy w8 v3.ownBlock) (hat : v3.ownBlock = some g ∨ g = (w3.alloc ob).heap.size) : TogAt os o (n + 1) w (.slice (some ⟨g, 0, none⟩) (n + 1) c) w8 := by
  subst hL
  have hb8 : Below w.heap.size w w8 := (hb.alloc hb.size _).grown hg (by have := hb.size; simp; omega) (fun q hq => own_ge h.own q hq)
  exact tog_is (h.push (r := ⟨o, none, 0⟩) (tog_op w3 hgn ht) (fun ad ha => by cases ha) hown hg (by rcases hat with e | e; exact .inl e.symm; right; rw [e]; rfl)) rfl hos hn (own_cap6 hown) hb8
/-- the op's block first, then the copy -/
theorem tog_b {n g c : Nat} {w w3 w8 : World} {v3 : Value} {L : List OpR} {os : List OpD} {o : OpD} (h : OwnO w.heap.size w3 v3 L) (hL : L.length = n) (hos : OpR.os L = os) (hn : n ≤ 100000) (hgn : o.gone = []) (ht : o.text.size = 0) (hb : Below w.heap.size w w3)
    (hown : w8.ownsRow w.heap.size 33 11 (.slice (some ⟨g, 0, none⟩) (n + 1) c) (n + 1) (ocs L ++ OpR.cs ⟨o, none, 0⟩)) (hg : w3.grownBy w8 v3.ownBlock) (hat : v3.ownBlock = some g ∨ g = w3.heap.size) : TogAt os o (n + 1) w (.slice (some ⟨g, 0, none⟩) (n + 1) c) w8 := by
  subst hL
  have hb8 : Below w.heap.size w w8 := hb.grown hg hb.size (fun q hq => own_ge h.own q hq)
  exact tog_is (h.push0 (r := ⟨o, none, 0⟩) (tog_op w3 hgn ht) (fun ad ha => by cases ha) hown hg (by rcases hat with e | e; exact .inl e.symm; right; rw [e]; rfl)) rfl hos hn (own_cap6 hown) hb8
def CopB (n : Nat) (os : List OpD) (wB w : World) (x : Ending) (w' : World) : Prop := ∃ a c L, x = .returned (.slice a n c) ∧ OwnO wB.heap.size w' (.slice a n c) L ∧ L.length = n ∧ OpR.os L = os ∧ w'.ownsRow wB.heap.size 33 11 (.slice a n c) n (ocs L) ∧ Below w.heap.size w w' ∧ Below wB.heap.size wB w'
theorem CopyOps_b (a : Option Addr) (cap n : Nat) (l : List OpR) (os : List OpD) (wB w : World) (h : OpsAt w a l) (hg : ∀ r ∈ l, r.o.gone.length ≤ 1000000) (hl : l.length = n) (hos : OpR.os l = os) (hn : n ≤ 1000000) (hb : Below wB.heap.size wB w) : Calls Tryz.prog 28 #[.slice a n cap] w (CopB n os wB w) := by
  subst hl
  refine (CopyOps_any a cap l w h hg hn).mono ?_
  rintro x w' ⟨v, L, rfl, hown0, hos2, hb2⟩
  have hlen : L.length = l.length := by have h := congrArg List.length hos2; rwa [os_len, os_len] at h
  have hown := hown0.wide hb.size
  obtain ⟨a3, c3, hv3, _, _⟩ := hown.ops (by rw [hlen]; unfold BIG; omega)
  rw [hlen] at hv3
  subst hv3
  refine ⟨a3, c3, L, rfl, hown, hlen, hos2.trans hos, ?_, hb2, hb.trans (hb2.mono hb.size)⟩
  have h9 := hown.own
  rwa [hlen] at h9
theorem togs_first (wu : World) : Below wu.heap.size wu wu.drew := (Below.refl _ wu).drew
theorem togs_second (wu : World) (o : Obj) : Below wu.heap.size wu (wu.drew.alloc o) := ((Below.refl _ wu).drew).alloc (Nat.le_refl _) o
theorem togs_third (wu : World) (o : Obj) : Below wu.heap.size wu (wu.alloc o).drew := ((Below.refl _ wu).alloc (Nat.le_refl _) o).drew
theorem news_o {W w7 : World} {r : OpR} (hb : Below (W.drew.alloc (.cells #[.int .i64 r.o.site, .int .i64 r.o.seq, .int .i64 r.o.kind, .int .i64 r.o.after.s, .int .i64 r.o.after.q, .int .i64 r.o.after.i, .string r.o.text, .slice r.a r.o.gone.length r.cap, .int .i64 r.o.of, .int .i64 r.o.num, .int .i64 r.o.gen] 33)).heap.size (W.drew.alloc (.cells #[.int .i64 r.o.site, .int .i64 r.o.seq, .int .i64 r.o.kind, .int .i64 r.o.after.s, .int .i64 r.o.after.q, .int .i64 r.o.after.i, .string r.o.text, .slice r.a r.o.gone.length r.cap, .int .i64 r.o.of, .int .i64 r.o.num, .int .i64 r.o.gen] 33)) w7) :
    ∀ j u, (r.cs)[j]? = some u → w7.cell? ((⟨W.heap.size, 0, none⟩ : Addr).add j) = some u := by
  intro j u hu
  have h := cell_op_newR W.drew r 33 j u hu
  rw [Addr.add_lit] at h ⊢
  exact (hb.cell (p := ⟨W.heap.size, 0 + j, none⟩) (World.block_lt_of_cell? _ _ h)).trans h
/-! what is told of a row of which the ops are known -/
theorem text_of {a : Option Addr} {c m : Nat} {L : List OpR} {D : List OpD} (hl : L.length = m) (hd : OpR.os L = D) (hr : rowP D) (w : World) (h : OpsAt w a L) : Calls Tryz.prog 9 #[.slice a m c] w (TextPost (docT D) 0 w) := by
  subst hl hd
  exact dText_ok a c L w h hr
end Go.Proofs.YtefgoelkdjendaaGreatDoor
