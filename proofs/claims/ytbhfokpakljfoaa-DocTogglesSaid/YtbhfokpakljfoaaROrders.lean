/- lectionaryref4.Under -/
import Derived.Test.YtbhfokpakljfoaaRGo
import Derived.Test.YtbhfokpakljfoaaTPages
import Derived.Test.YtbhfokpakljfoaaTUnders
import Derived.Deep.AppendLies
import Derived.Deep.LoopGhost
namespace Go.Proofs.Ytbhfokpakljfoaa
open Go.RowKit Go.Lib Go.Sort

theorem up_len (e : El) (L : List OpD) : (up e L).length ≤ L.length := by
  induction L with
  | nil => exact Nat.le_refl _
  | cons o r ih =>
    rw [up, List.length_append, List.length_cons]
    have : (if o.text = ⟨#[]⟩ then ([] : List El) else if o.after = e then [⟨o.site, o.seq, 0⟩] else []).length ≤ 1 := by
      split
      · simp
      · split <;> simp
    omega
theorem up_step {l : List OpR} {j : Nat} (hj : j < l.length) (e : El) : up e ((OpR.os l).drop j) = up e ((OpR.os l).drop (j + 1)) ++ (if l[j].o.text = ⟨#[]⟩ then [] else if l[j].o.after = e then [⟨l[j].o.site, l[j].o.seq, 0⟩] else []) := by
  rw [List.drop_eq_getElem_cons (by rw [os_len]; exact hj), up]
  simp [OpR.os]
theorem same_drew (w : World) : Same w w.drew := ⟨rfl, rfl, rfl, rfl⟩
def mOf : Value → Nat
  | .slice _ n _ => n
  | _ => 0
theorem own_form {w : World} {base : Nat} {v : Value} {n : Nat} {xs : List Value} {t : TypeId} {size : Nat} (h : w.ownsRow base t size v n xs) : ∃ a c, v = .slice a n c := by
  rcases h.2 with ⟨hv, h0⟩ | ⟨g, cap, cur, hv, _⟩
  · exact ⟨none, 0, by rw [hv, h0]⟩
  · exact ⟨_, cap, hv⟩
end Go.Proofs.Ytbhfokpakljfoaa
/- lectionaryref4.Order: a search in depth -/
namespace Go.Proofs.Ytbhfokpakljfoaa
open Go.RowKit Go.Lib Go.Sort

/-- what was told, X, and what is to come, T, the next one last; so many rounds at most are left -/
def Lg (D : List Tn) (g : Nat) (X T : List El) : Prop := (g = D.length + 1 ∧ X = [] ∧ T = [B0]) ∨ ∃ m, m ≤ D.length ∧ g = D.length - m ∧ X = (D.take m).map (fun u => u.nd.e) ∧ T = ((fr D m).map Nd.e).reverse
theorem lg_len {D : List Tn} {g : Nat} {X T : List El} (h : Lg D g X T) : X.length ≤ D.length ∧ T.length ≤ D.length + 1 := by
  rcases h with ⟨_, rfl, rfl⟩ | ⟨m, hm, _, rfl, rfl⟩
  · simp
  · rw [List.length_map, List.length_take, List.length_reverse, List.length_map]
    have := fr_length D m
    omega
theorem lg_end {D : List Tn} (hD : TOrd D) {g : Nat} {X : List El} (h : Lg D g X []) : X = D.map (fun u => u.nd.e) := by
  rcases h with ⟨_, _, h⟩ | ⟨m, hm, _, rfl, h⟩
  · cases h
  · have h2 : fr D m = [] := by
      have := List.reverse_eq_nil_iff.1 h.symm
      exact List.map_eq_nil_iff.1 this
    by_cases hlt : m < D.length
    · have := fr_pos hD hlt
      rw [h2] at this
      exact absurd this (by simp)
    · rw [List.take_of_length_le (by omega)]
theorem lg_step {l : List OpD} (hr : rowP l) {g : Nat} {X T : List El} (h : Lg (ordT l) g X T) (hT : T ≠ []) : ∃ T' e g', T = T' ++ [e] ∧ g' < g ∧ (e = B0 ∨ e ∈ ordE l) ∧ Lg (ordT l) g' (if e.begin then X else X ++ [e]) (T' ++ (unE l e).reverse) ∧ 0 ≤ e.i ∧ e.i ≤ 1000 := by
  have hinv := row_inv hr.2 l.length (Nat.le_refl _)
  rw [List.take_length] at hinv
  have hpar := row_parOp hr.2 l.length (Nat.le_refl _)
  rw [List.take_length] at hpar
  rcases h with ⟨rfl, rfl, rfl⟩ | ⟨m, hm, rfl, rfl, rfl⟩
  · refine ⟨[], B0, (ordT l).length, rfl, Nat.lt_succ_self _, .inl rfl, .inr ⟨0, Nat.zero_le _, rfl, ?_, ?_⟩, by simp [B0], by simp [B0]⟩
    · simp [B0, El.begin]
    · unfold unE
      rw [fr_start, List.nil_append]
  · have hne : fr (ordT l) m ≠ [] := fun h0 => hT (by rw [h0]; rfl)
    have hlt : m < (ordT l).length := by
      by_cases h2 : m < (ordT l).length
      · exact h2
      · exact absurd (fr_end (by omega)) hne
    have ht : (ordT l)[m]? = some (ordT l)[m] := List.getElem?_eq_getElem hlt
    obtain ⟨R, h1, h2⟩ := fr_next hinv.ord hpar ht
    have hnb := hinv.ord.nob m _ ht
    have hbf : ((ordT l)[m]).nd.e.begin = false := by
      cases hb : ((ordT l)[m]).nd.e.begin with
      | false => rfl
      | true => exact absurd ((begin_iff _).1 hb) hnb
    obtain ⟨hi0, c, hed, hic⟩ := (hinv.mem ((ordT l)[m]).nd.e).1 ⟨m, _, ht, rfl⟩
    have hc12 := (hinv.edk _ _ hed).2.2.2.2.2
    refine ⟨(R.map Nd.e).reverse, ((ordT l)[m]).nd.e, (ordT l).length - (m + 1), ?_, by omega, .inr (List.mem_map.2 ⟨_, List.mem_of_getElem? ht, rfl⟩), .inr ⟨m + 1, by omega, rfl, ?_, ?_⟩, hi0, by omega⟩
    · rw [h1]; simp
    · have h5 : ((ordT l).take (m + 1)).map (fun u => u.nd.e) = ((ordT l).take m).map (fun u => u.nd.e) ++ [((ordT l)[m]).nd.e] := by
        rw [List.take_succ_eq_append_getElem hlt, List.map_append]
        rfl
      rw [hbf, h5]
      rfl
    · unfold unE
      rw [h2, List.map_append, List.reverse_append]

/-- nothing has turned but row r's block -/
structure Kp (r : Option Nat) (w w' : World) : Prop where
  os : w'.os = w.os
  tape : w'.tape = w.tape
  output : w'.output = w.output
  size : w.heap.size ≤ w'.heap.size
  block : ∀ k, k < w.heap.size → some k ≠ r → w'.heap[k]? = w.heap[k]?
theorem Kp.refl (r : Option Nat) (w : World) : Kp r w w := ⟨rfl, rfl, rfl, Nat.le_refl _, fun _ _ _ => rfl⟩
theorem Kp.step {r : Option Nat} {w wr w8 : World} {b : Option Nat} {o : Obj} (h : Kp r w wr) (hn : NewRow w r b) (hg : (wr.alloc o).grownBy w8 b) : Kp r w w8 := by
  have hs : (wr.alloc o).heap.size = wr.heap.size + 1 := by simp
  have hsz := hg.size
  have h1 := h.size
  refine ⟨hg.os.trans h.os, hg.tape.trans h.tape, hg.output.trans h.output, by omega, fun k hk hr => ?_⟩
  have hkb : some k ≠ b := by
    rcases hn with e | ⟨g, e, hge⟩
    · rw [e]; exact hr
    · rw [e]; intro e2; cases e2; omega
  rw [hg.block k (by omega) hkb, heap_alloc_old _ _ (by omega)]
  exact h.block k hk hr
theorem Kp.owns {r : Option Nat} {w w' : World} (h : Kp r w w') {base : Nat} {t : TypeId} {size : Nat} {v : Value} {n : Nat} {xs : List Value} (ho : w.ownsRow base t size v n xs) (hne : v.ownBlock = none ∨ v.ownBlock ≠ r) : w'.ownsRow base t size v n xs := by
  refine ⟨ho.1, ?_⟩
  rcases ho.2 with h2 | ⟨g, cap, cur, hv, hg, hh, rest⟩
  · exact .inl h2
  · refine .inr ⟨g, cap, cur, hv, hg, ?_, rest⟩
    have hob : v.ownBlock = some g := by rw [hv]; rfl
    rw [h.block g (Array.getElem?_eq_some_iff.1 hh).1 (by
      rcases hne with e | e
      · rw [hob] at e; cases e
      · rw [hob] at e; exact e)]
    exact hh
theorem BoxE.kp {w w' : World} {b : Nat} {e : El} {r : Option Nat} (h : BoxE w b e) (hk : Kp r w w') (hne : some b ≠ r) : BoxE w' b e := by
  have hb := hk.block b h.lt hne
  have hc : ∀ o, w'.cell? ⟨b, o, none⟩ = w.cell? ⟨b, o, none⟩ := fun o => by unfold World.cell?; simp only [hb]
  exact ⟨Nat.lt_of_lt_of_le h.lt hk.size, (hc 0).trans h.c0, (hc 1).trans h.c1, (hc 2).trans h.c2⟩
theorem new_row {w wr : World} {r b b8 : Option Nat} {o : Obj} (hn : NewRow w r b) (hs : w.heap.size ≤ wr.heap.size) (hat : b8 = b ∨ b8 = some (wr.alloc o).heap.size) : NewRow w r b8 := by
  rcases hat with e | e
  · rw [e]; exact hn
  · exact .inr ⟨_, e, by simp; omega⟩
theorem owns_cut3 {w : World} {base g n cap k : Nat} {t : TypeId} {xs : List Value} (h : w.ownsRow base t 3 (.slice (some ⟨g, 0, none⟩) n cap) n xs) (hk : k ≤ n) : w.ownsRow base t 3 (.slice (some ⟨g, 0, none⟩) k cap) k (xs.take (k * 3)) := by
  obtain ⟨hl, h2⟩ := h
  rcases h2 with ⟨hv, _⟩ | ⟨g2, cap2, cur, hv, hb, hg, hc, hcm, hcs, ht⟩
  · cases hv
  · simp only [Value.slice.injEq, Option.some.injEq, Addr.mk.injEq] at hv
    obtain ⟨⟨rfl, _, _⟩, _, rfl⟩ := hv
    refine ⟨by rw [List.length_take]; omega, .inr ⟨g, cap, cur, rfl, hb, hg, by omega, hcm, hcs, ?_⟩⟩
    rw [← ht, List.take_take, Nat.min_eq_left (by omega)]
/-- the two rows, of what was told and of what is to come -/
structure OSt (w wr : World) (X T : List El) (xv tv : Value) : Prop where
  x : wr.ownsRow w.heap.size 36 3 xv X.length (ecs X)
  t : wr.ownsRow w.heap.size 36 3 tv T.length (ecs T)
  ne : xv.ownBlock = none ∨ xv.ownBlock ≠ tv.ownBlock
  below : Below w.heap.size w wr
theorem OSt.step {w wr w2 : World} {X T : List El} {xv tv : Value} (h : OSt w wr X T xv tv) (hb : Below wr.heap.size wr w2) : OSt w w2 X T xv tv :=
  ⟨owns_belE h.x hb, owns_belE h.t hb, h.ne, h.below.trans (hb.mono h.below.size)⟩
theorem OSt.told {w wr w8 : World} {X T : List El} {xv tv v8 : Value} {e : El} {o : Obj} (h : OSt w wr X T xv tv) (ho : w8.ownsRow w.heap.size 36 3 v8 (X.length + 1) (ecs X ++ El.cs e)) (hg : (wr.alloc o).grownBy w8 xv.ownBlock) (hat : v8.ownBlock = xv.ownBlock ∨ v8.ownBlock = some (wr.alloc o).heap.size) : OSt w w8 (X ++ [e]) T v8 tv := by
  have hkp := (Kp.refl xv.ownBlock wr).step (.inl rfl) hg
  have hne : tv.ownBlock = none ∨ tv.ownBlock ≠ xv.ownBlock := by
    rcases h.ne with e1 | e1
    · by_cases ht : tv.ownBlock = none
      · exact .inl ht
      · exact .inr (by rw [e1]; exact ht)
    · exact .inr (Ne.symm e1)
  refine ⟨?_, hkp.owns h.t hne, ?_, ?_⟩
  · rw [List.length_append, ecs_append, show ecs [e] = El.cs e from by simp [ecs]]
    exact ho
  · rcases hat with e1 | e1
    · rw [e1]; exact h.ne
    · right
      rw [e1]
      intro e2
      have := (h.t.lt _ e2.symm).2
      simp at this
      omega
  · exact (h.below.alloc h.below.size _).grown hg (by have := h.below.size; simp; omega) (fun q hq => own_ge h.x q hq)
theorem own_pos {w : World} {base : Nat} {v : Value} {n : Nat} {xs : List Value} {t : TypeId} {size : Nat} (h : w.ownsRow base t size v n xs) (hn : 0 < n) : ∃ g c, v = .slice (some ⟨g, 0, none⟩) n c ∧ base ≤ g ∧ g < w.heap.size ∧ n ≤ c := by
  rcases h.2 with ⟨hv, h0⟩ | ⟨g, cap, cur, hv, hb, hh, hc, _⟩
  · omega
  · exact ⟨g, cap, hv, hb, (Array.getElem?_eq_some_iff.1 hh).1, hc⟩
/-- the last one is read; the row without it -/
theorem OSt.pop {w wr : World} {X T' : List El} {e : El} {xv : Value} {g c nt : Nat} (h : OSt w wr X (T' ++ [e]) xv (.slice (some ⟨g, 0, none⟩) (nt + 1) c)) (hn : T'.length = nt) (o : Obj) :
    (wr.cell? ⟨g, nt * 3, none⟩ = some (.int .i64 e.s) ∧ wr.cell? ⟨g, nt * 3 + 1, none⟩ = some (.int .i64 e.q) ∧ wr.cell? ⟨g, nt * 3 + 2, none⟩ = some (.int .i64 e.i)) ∧ OSt w (wr.alloc o) X T' xv (.slice (some ⟨g, 0, none⟩) nt c) := by
  have hlen : (T' ++ [e]).length = nt + 1 := by simp [hn]
  have ht := h.t
  rw [hlen] at ht
  have hget : (T' ++ [e])[nt]'(by omega) = e := by
    rw [List.getElem_append_right (by omega)]
    simp
  refine ⟨⟨?_, ?_, ?_⟩, owns_belE h.x ((Below.refl _ _).alloc (Nat.le_refl _) _), ?_, h.ne, h.below.alloc h.below.size _⟩
  · rw [ht.cellAt (nt * 3) (by omega)]
    have := ecs_get (T' ++ [e]) nt 0 (by omega) (by decide)
    rw [hget] at this
    exact this
  · rw [ht.cellAt (nt * 3 + 1) (by omega)]
    have := ecs_get (T' ++ [e]) nt 1 (by omega) (by decide)
    rw [hget] at this
    exact this
  · rw [ht.cellAt (nt * 3 + 2) (by omega)]
    have := ecs_get (T' ++ [e]) nt 2 (by omega) (by decide)
    rw [hget] at this
    exact this
  · have h2 := owns_cut3 ht (Nat.le_succ nt)
    rw [ecs_take, List.take_append_of_le_length (by omega), List.take_of_length_le (by omega)] at h2
    rw [hn]
    exact owns_belE h2 ((Below.refl _ _).alloc (Nat.le_refl _) _)
/-- the inner loop: behind it k of u's are left to be laid -/
structure ISt2 (w w5 wy : World) (gb nt nk k : Nat) (T' K : List El) (tv : Value) : Prop where
  t : wy.ownsRow w.heap.size 36 3 tv (nt + (nk - k)) (ecs (T' ++ (K.drop k).reverse))
  kp : Kp (some gb) w5 wy
  nr : NewRow w5 (some gb) tv.ownBlock
  below : Below w.heap.size w wy
theorem ISt2.next {w w5 wy w8 : World} {gb nt nk j : Nat} {T' K : List El} {tv v8 : Value} {o : Obj} {x : El} (h : ISt2 w w5 wy gb nt nk (j + 1) T' K tv) (hj : K[j]? = some x) (hk : K.length = nk)
    (ho : w8.ownsRow w.heap.size 36 3 v8 (nt + (nk - (j + 1)) + 1) (ecs (T' ++ (K.drop (j + 1)).reverse) ++ El.cs x)) (hg : (wy.alloc o).grownBy w8 tv.ownBlock) (hat : v8.ownBlock = tv.ownBlock ∨ v8.ownBlock = some (wy.alloc o).heap.size) : ISt2 w w5 w8 gb nt nk j T' K v8 := by
  obtain ⟨h1, h2⟩ := List.getElem?_eq_some_iff.1 hj
  have hd : (K.drop j).reverse = (K.drop (j + 1)).reverse ++ [x] := by
    rw [List.drop_eq_getElem_cons h1, List.reverse_cons, h2]
  refine ⟨?_, h.kp.step h.nr hg, new_row h.nr h.kp.size hat, (h.below.alloc h.below.size _).grown hg (by have := h.below.size; simp; omega) (fun q hq => own_ge h.t q hq)⟩
  rw [hd, ← List.append_assoc, ecs_append, show ecs [x] = El.cs x from by simp [ecs], show nt + (nk - j) = nt + (nk - (j + 1)) + 1 from by omega]
  exact ho
theorem ISt2.fin {w w3 w5 wy : World} {gb nt nk ct : Nat} {T' K X : List El} {xv tv : Value} (h : ISt2 w w5 wy gb nt nk 0 T' K tv) (hs : OSt w w3 X T' xv (.slice (some ⟨gb, 0, none⟩) nt ct)) (hb : Below w3.heap.size w3 w5) (hk : K.length = nk) (hn : T'.length = nt) : OSt w wy X (T' ++ K.reverse) xv tv := by
  have hx5 := owns_belE hs.x hb
  have hne : xv.ownBlock = none ∨ xv.ownBlock ≠ some gb := hs.ne
  refine ⟨h.kp.owns hx5 hne, ?_, ?_, h.below⟩
  · have := h.t
    rw [List.drop_zero] at this
    rw [List.length_append, List.length_reverse, hk, hn]
    exact this
  · rcases hne with e | e
    · exact .inl e
    · right
      rcases h.nr with e2 | ⟨g, e2, hg⟩
      · rw [e2]; exact e
      · rw [e2]
        intro e3
        have := (hx5.lt _ e3).2
        omega
/-- u's elements, wherever the other row went -/
theorem own_at {w5 wy : World} {base gb n c : Nat} {K : List El} {au : Option Addr} (ho : w5.ownsRow base 36 3 (.slice au n c) n (ecs K)) (hn : K.length = n) (hk : Kp (some gb) w5 wy) (hgb : gb < base) : ElemsAt wy au K := by
  have h2 : wy.ownsRow base 36 3 (.slice au n c) n (ecs K) := hk.owns ho (by
    by_cases e : (Value.slice au n c).ownBlock = none
    · exact .inl e
    · right
      intro e2
      have := (ho.lt _ e2).1
      omega)
  rw [← hn] at h2
  obtain ⟨a', c', hv, he, _⟩ := elems_own h2
  simp only [Value.slice.injEq] at hv
  rw [hv.1]
  exact he
end Go.Proofs.Ytbhfokpakljfoaa
