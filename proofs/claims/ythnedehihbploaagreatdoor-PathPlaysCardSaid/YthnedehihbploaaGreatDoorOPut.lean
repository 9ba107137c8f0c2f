/- the page's own put: an element among rising ones, once -/
import Derived.Test.YthnedehihbploaaGreatDoorONeedsP
import Derived.Test.YthnedehihbploaaGreatDoorOCopy
import Derived.Lib.QuietBelow
import Derived.Deep.AppendLies
import Derived.Deep.RegionLaw
namespace Go.Proofs.YthnedehihbploaaGreatDoor
open Go.RowKit Go.Lib

def putL : List El → El → List El
  | [], e => [e]
  | x :: r, e => if x.lt e then x :: putL r e else if x = e then x :: r else e :: x :: r
theorem putL_at : ∀ (l : List El) (e : El) (k : Nat), k ≤ l.length → (∀ j (h : j < l.length), j < k → l[j].lt e = true) → (∀ h : k < l.length, l[k].lt e = false) →
    putL l e = (if l[k]? = some e then l else l.take k ++ e :: l.drop k)
  | [], e, k, hk, _, _ => by
    have : k = 0 := by simpa using hk
    subst this
    simp [putL]
  | x :: r, e, 0, hk, h1, h2 => by
    have hx : x.lt e = false := h2 (by simp)
    unfold putL
    rw [hx]
    simp
  | x :: r, e, k + 1, hk, h1, h2 => by
    have hx : x.lt e = true := h1 0 (by simp) (by omega)
    unfold putL
    rw [if_pos hx, putL_at r e k (by simpa using hk) (fun j h hj => h1 (j + 1) (by simpa using h) (by omega)) (fun h => h2 (by simpa using h))]
    simp only [List.getElem?_cons_succ, List.take_succ_cons, List.drop_succ_cons, List.cons_append]
    split <;> rfl
theorem putL_mem (l : List El) (e x : El) : x ∈ putL l e ↔ x = e ∨ x ∈ l := by
  induction l with
  | nil => simp [putL]
  | cons y r ih =>
    unfold putL
    split
    · rw [List.mem_cons, ih, List.mem_cons]
      constructor
      · rintro (h | h | h)
        · exact .inr (.inl h)
        · exact .inl h
        · exact .inr (.inr h)
      · rintro (h | h | h)
        · exact .inr (.inl h)
        · exact .inl h
        · exact .inr (.inr h)
    · split
      · rename_i h
        subst h
        simp
      · simp
theorem putL_rise (l : List El) (e : El) (h : Rise l) : Rise (putL l e) := by
  induction l with
  | nil => simp [putL, Rise]
  | cons y r ih =>
    have hc := List.pairwise_cons.1 h
    unfold putL
    split
    · rename_i hy
      refine List.pairwise_cons.2 ⟨fun x hx => ?_, ih hc.2⟩
      rcases (putL_mem r e x).1 hx with rfl | hx
      · exact hy
      · exact hc.1 x hx
    · split
      · exact h
      · rename_i h1 h2
        have hey : e.lt y = true := by
          cases hl : e.lt y
          · exact absurd (lt_total y e (by rw [ltOf_cmpE]; simpa using h1) (by rw [ltOf_cmpE]; exact hl)) h2
          · rfl
        refine List.pairwise_cons.2 ⟨fun x hx => ?_, h⟩
        rcases List.mem_cons.1 hx with rfl | hx
        · exact hey
        · exact lt_trans hey (hc.1 x hx)
theorem putL_len (l : List El) (e : El) : (putL l e).length ≤ l.length + 1 := by
  induction l with
  | nil => simp [putL]
  | cons y r ih =>
    unfold putL
    split
    · simp; exact ih
    · split <;> simp
/-- what the page tells of an op's needs -/
def putAll (l : List El) (r : List El) : List El := r.foldl putL l
theorem putAll_mem (r : List El) : ∀ (l : List El) (x : El), x ∈ putAll l r ↔ x ∈ l ∨ x ∈ r := by
  induction r with
  | nil => intro l x; simp [putAll]
  | cons y r ih =>
    intro l x
    show x ∈ putAll (putL l y) r ↔ _
    rw [ih, putL_mem, List.mem_cons]
    constructor
    · rintro ((h | h) | h)
      · exact .inr (.inl h)
      · exact .inl h
      · exact .inr (.inr h)
    · rintro (h | h | h)
      · exact .inl (.inr h)
      · exact .inl (.inl h)
      · exact .inr h
theorem putAll_rise (r : List El) : ∀ (l : List El), Rise l → Rise (putAll l r) := by
  induction r with
  | nil => intro l h; exact h
  | cons y r ih => intro l h; exact ih _ (putL_rise l y h)
theorem needs_put {o : OpD} (hk : ¬ o.kind = 2) : needs o = putAll [] (needL o) := by
  refine rise_ext (needs_rise o) (putAll_rise _ [] (by simp [Rise])) (fun x => ?_)
  unfold needs
  rw [if_neg hk, ddl_mem, isort_mem, putAll_mem]
  simp

theorem elems_row' {w : World} {base : Nat} {a : Option Addr} {cap n : Nat} {l : List El} (h : w.ownsRow base 37 3 (.slice a n cap) n (ecs l)) (hl : l.length = n) : ElemsAt w a l := by
  subst hl
  obtain ⟨aa, cc, hv, HE, _, _, _⟩ := elems_own h
  simp only [Value.slice.injEq] at hv
  obtain ⟨rfl, _, rfl⟩ := hv
  exact HE
def PutPost (base B : Nat) (w0 : World) (l : List El) (e : Ending) (w' : World) : Prop :=
  ∃ a cap, e = .returned (.slice a l.length cap) ∧ w'.ownsRow base 37 3 (.slice a l.length cap) l.length (ecs l) ∧ Below B w0 w'

theorem own_cap {w : World} {base g cap n : Nat} {t : TypeId} {size : Nat} {xs : List Value} (h : w.ownsRow base t size (.slice (some ⟨g, 0, none⟩) n cap) n xs) : n ≤ cap := by
  rcases h.2 with ⟨h', _⟩ | ⟨g', cap', cur, h', _, _, hnc, _⟩
  · simp at h'
  · simp only [Value.slice.injEq] at h'
    rw [h'.2.2]; exact hnc
theorem ecs_drop (l : List El) (k : Nat) : (ecs l).drop (k * 3) = ecs (l.drop k) := by
  induction l generalizing k with
  | nil => simp [ecs]
  | cons x r ih =>
    cases k with
    | zero => simp [ecs]
    | succ k =>
      show (El.cs x ++ ecs r).drop _ = ecs (r.drop k)
      rw [← ih k, List.drop_append]
      have h3 : (El.cs x).length = 3 := rfl
      rw [h3, List.drop_eq_nil_of_le (by rw [h3]; omega), show (k + 1) * 3 - 3 = k * 3 from by omega]
      rfl
theorem drop_here {wu : World} {base g cap n k : Nat} {l : List El} (h : wu.ownsRow base 37 3 (.slice (some ⟨g, 0, none⟩) n cap) n (ecs l)) (hl : l.length = n) :
    ∀ W, Below wu.heap.size wu W → ∀ j u, (ecs (l.drop k))[j]? = some u → W.cell? ((⟨g, k * 3, none⟩ : Addr).add j) = some u := by
  intro W hb j u hu
  rw [← ecs_drop, List.getElem?_drop] at hu
  have hj : k * 3 + j < n * 3 := by
    have := (List.getElem?_eq_some_iff.1 hu).1
    rw [ecs_length] at this; omega
  have hc := h.cellAt (k * 3 + j) (by omega)
  rw [hu] at hc
  rw [Addr.add_lit]
  exact (hb.cell (p := ⟨g, k * 3 + j, none⟩) (World.block_lt_of_cell? wu _ hc)).trans hc
def CopyHere (wu W : World) (l : List El) (k B : Nat) (e : El) (x : Ending) (w' : World) : Prop :=
  ∃ v, x = .returned v ∧ w'.ownsRow wu.heap.size 37 3 v k (ecs (l.take k)) ∧ BoxE w' B e ∧ Below W.heap.size W w' ∧ Below wu.heap.size wu w'
theorem copy_here {wu : World} {base B cap n k : Nat} {a : Option Addr} {l : List El} {e : El} (h : wu.ownsRow base 37 3 (.slice a n cap) n (ecs l)) (he : BoxE wu B e) (hl : l.length = n) (hk : k ≤ n) (hn : n ≤ 1000000) :
    ∀ W, Below wu.heap.size wu W → Calls Tryz.prog 84 #[.slice a k cap] W (CopyHere wu W l k B e) := by
  intro W hb
  have hE := (elems_row' h hl).below hb
  have hE2 : ElemsAt W a (l.take k) := ⟨fun j hj => by
    rw [List.length_take] at hj
    obtain ⟨b, off, h1, h2, h3, h4, h5⟩ := hE.cell j (by omega)
    rw [List.getElem_take]
    exact ⟨b, off, h1, h2, h3, h4, h5⟩⟩
  have hlen : (l.take k).length = k := by rw [List.length_take]; omega
  have c := CopyElems_any a cap (l.take k) W hE2 (by omega)
  rw [hlen] at c
  refine c.mono ?_
  rintro x w' ⟨v, rfl, hown, hb2⟩
  rw [hlen] at hown
  exact ⟨v, rfl, owns_base hown hb.size, (he.step hb).step hb2, hb2, hb.trans (hb2.mono hb.size)⟩
theorem second_below (wu : World) (o : Obj) : Below wu.heap.size wu (wu.drew.alloc o) := ((Below.refl _ wu).drew).alloc (Nat.le_refl _) o
theorem news_b {W w7 : World} {e : El} (hb : Below (W.drew.alloc (.cells #[.int .i64 e.s, .int .i64 e.q, .int .i64 e.i] 37)).heap.size (W.drew.alloc (.cells #[.int .i64 e.s, .int .i64 e.q, .int .i64 e.i] 37)) w7) :
    ∀ j u, (El.cs e)[j]? = some u → w7.cell? ((⟨W.heap.size, 0, none⟩ : Addr).add j) = some u := by
  intro j u hu
  have h := cell_three_new W.drew e 37 j u hu
  rw [Addr.add_lit] at h ⊢
  exact (hb.cell (p := ⟨W.heap.size, 0 + j, none⟩) (World.block_lt_of_cell? _ _ h)).trans h
theorem grow_a {wu w7 w8 : World} {o : Obj} {t : TypeId} {v : Value} {k : Nat} {xs : List Value} (hb : Below wu.heap.size wu w7) (hg : (w7.alloc o).grownBy w8 v.ownBlock) (ho : w7.ownsRow wu.heap.size t 3 v k xs) : Below wu.heap.size wu w8 :=
  (hb.alloc hb.size o).grown hg (by have := hb.size; simp; omega) (own_ge ho)
theorem grow_b {wu w7 w8 : World} {t : TypeId} {v : Value} {k : Nat} {xs : List Value} (hb : Below wu.heap.size wu w7) (hg : w7.grownBy w8 v.ownBlock) (ho : w7.ownsRow wu.heap.size t 3 v k xs) : Below wu.heap.size wu w8 :=
  hb.grown hg hb.size (own_ge ho)
theorem ecs_one (l : List El) : ∀ u ∈ ecs l, u.oneCell' = true := by
  intro u hu
  obtain ⟨e, _, he⟩ := List.mem_flatMap.1 hu
  exact cs_one e u he
theorem put_fin {wu w0 w8 w9 : World} {base B g9 cap9 n k : Nat} {l pl : List El} {e : El} {v8 : Value} (hbw : Below B w0 wu) (hB : B ≤ wu.heap.size) (hbase : base ≤ wu.heap.size)
    (h : w9.ownsRow wu.heap.size 37 3 (.slice (some ⟨g9, 0, none⟩) (k + 1 + (n - k)) cap9) (k + 1 + (n - k)) ((ecs (l.take k) ++ El.cs e) ++ ecs (l.drop k))) (hg : w8.grownBy w9 v8.ownBlock) (hb8 : Below wu.heap.size wu w8) (ho : ∀ q, v8.ownBlock = some q → wu.heap.size ≤ q)
    (hl : l.length = n) (hk : k ≤ n) (hp : pl = l.take k ++ e :: l.drop k) : PutPost base B w0 pl (.returned (.slice (some ⟨g9, 0, none⟩) (k + 1 + (n - k)) cap9)) w9 := by
  have hlen : pl.length = k + 1 + (n - k) := by rw [hp, List.length_append, List.length_take, List.length_cons, List.length_drop]; omega
  have hec : ecs pl = (ecs (l.take k) ++ El.cs e) ++ ecs (l.drop k) := by
    rw [hp, ecs_append, List.append_assoc]
    rfl
  have hb9 : Below wu.heap.size wu w9 := hb8.grown hg hb8.size ho
  exact ⟨_, _, by rw [hlen], by rw [hlen, hec]; exact owns_base h hbase, hbw.trans (hb9.mono hB)⟩
theorem put_fin0 {wu w0 w8 : World} {base B g8 cap8 n : Nat} {l pl : List El} {e : El} (hbw : Below B w0 wu) (hB : B ≤ wu.heap.size) (hbase : base ≤ wu.heap.size)
    (h : w8.ownsRow wu.heap.size 37 3 (.slice (some ⟨g8, 0, none⟩) (n + 1) cap8) (n + 1) (ecs (l.take n) ++ El.cs e)) (hb8 : Below wu.heap.size wu w8)
    (hl : l.length = n) (hp : pl = l.take n ++ e :: l.drop n) : PutPost base B w0 pl (.returned (.slice (some ⟨g8, 0, none⟩) (n + 1) cap8)) w8 := by
  have hd : l.drop n = [] := List.drop_eq_nil_of_le (by omega)
  rw [hd] at hp
  have hlen : pl.length = n + 1 := by rw [hp, List.length_append, List.length_take, List.length_singleton]; omega
  have hec : ecs pl = ecs (l.take n) ++ El.cs e := by
    rw [hp, ecs_append]
    simp [ecs]
  exact ⟨_, _, by rw [hlen], by rw [hlen, hec]; exact owns_base h hbase, hbw.trans (hb8.mono hB)⟩
theorem first_below (wu : World) : Below wu.heap.size wu wu.drew := (Below.refl _ wu).drew

set_option maxRecDepth 100000 in
set_option maxHeartbeats 12000000 in
theorem put_any (a : Option Addr) (cap n base B : Nat) (l : List El) (e : El) (w0 w : World) (hown : w.ownsRow base 37 3 (.slice a n cap) n (ecs l)) (hn : l.length = n) (hB : B ≤ base) (hBw : base ≤ w.heap.size) (hb : Below B w0 w) (hl : n ≤ 1000000) :
    Calls Tryz.prog 66 #[.slice a n cap, e.v] w (PutPost base B w0 (putL l e)) := by
  obtain ⟨i0, hi0, hz0, hz1, hz2⟩ := info_parts Tryz.infoElem
  have HE := Lib.hid (BoxE.new w e)
  have hba : Below w.heap.size w (w.alloc (.cells #[.int .i64 e.s, .int .i64 e.q, .int .i64 e.i] 37)) := (Below.refl _ _).alloc (Nat.le_refl _) _
  have HO := Lib.hid (owns_belE hown hba)
  have HB := Lib.hid (hb.alloc (Nat.le_trans hB hBw) (.cells #[.int .i64 e.s, .int .i64 e.q, .int .i64 e.i] 37))
  have HN := Lib.hid hn
  have HZ := Lib.hid (show base ≤ (w.alloc (.cells #[.int .i64 e.s, .int .i64 e.q, .int .i64 e.i] 37)).heap.size from Nat.le_trans hBw hba.size)
  have HPL := Lib.hid (fun k => putL_at l e k)
  generalize putL l e = pl at *
  clear hown hb hba hn hBw
  unfold El.v
  go_enter Tryz.func66, Tryz.ntmps66
  go_wp2_with fail
  generalize w.alloc (.cells #[.int .i64 e.s, .int .i64 e.q, .int .i64 e.i] 37) = W0 at *
  go_loopw [5] (fun i wr => ∃ k : Nat, k ≤ n ∧ i = .int .i64 k ∧ (∀ j (h : j < l.length), j < k → l[j].lt e = true) ∧ Below W0.heap.size W0 wr) (fun i _ => n - (RowKit.intOf i).toNat)
  case atStart => exact ⟨0, by omega, rfl, fun j h hj => by omega, Below.refl _ _⟩
  case round =>
    obtain ⟨k, hk, rfl, hlo, hbel⟩ := hrel
    have HLO := Lib.hid hlo
    have HEr := Lib.hid (HE.out.step hbel)
    have HOr := Lib.hid (owns_belE HO.out hbel)
    clear hlo
    by_cases hlt : k < n
    · have HEA := Lib.hid (elems_row' HOr.out HN.out)
      obtain ⟨b1, o1, h1, hb1, hc1, hc2, hc3⟩ := HEA.out.cell k (by rw [HN.out]; exact hlt)
      have HLE := Lib.hid (fun (h : k < l.length) (e' : l[k].lt e = true) j (hj : j < l.length) (hjk : j < k + 1) => (show l[j].lt e = true from by
        by_cases c : j = k
        · subst c; exact e'
        · exact HLO.out j hj (by omega)))
      have q0 := cell_regrown hc1
      have q1 := cell_regrown hc2
      have q2 := cell_regrown hc3
      have e0 := cell_regrown HEr.out.c0
      have e1 := cell_regrown HEr.out.c1
      have e2 := cell_regrown HEr.out.c2
      have HLS := Lib.hid (fun w => Less_any (l[k]'(by rw [HN.out]; exact hlt)) e w)
      subst h1
      clear hc1 hc2 hc3
      generalize hy : l[k]'(by rw [HN.out]; exact hlt) = y at *
      have HY := Lib.hid hy
      clear hy
      cases hll : y.lt e
      · rw [hll] at HLS
        have HLL := Lib.hid hll
        clear hll
        go_wp2_with fail
        refine wp_region_quiet_below (by kernel_rfl) (by kernel_rfl) ?_
        repeat (first | go_big_quiet_step (exact Calls.regrown_of (HLS.out _)) | quiet_step (exact Calls.regrown_of (HLS.out _)))
        refine wpQuiet_nil ?_
        intro _ hw'
        obtain ⟨⟨dq, osq⟩, hw''⟩ := hw'
        subst hw''
        have hbv := hbel.trans ((below_regrown wr dq osq).mono hbel.size)
        have hqq := And.intro (q0 dq osq) (And.intro (q1 dq osq) (q2 dq osq))
        have HEv := Lib.hid (HEr.out.step (below_regrown wr dq osq))
        have HOv := Lib.hid (owns_belE HOr.out (below_regrown wr dq osq))
        generalize Sort.grow (redrawn wr dq) osq = wv at *
        clear q0 q1 q2 e0 e1 e2
        have q0 := cell_regrown (hqq.1)
        have q1 := cell_regrown (hqq.2.1)
        have q2 := cell_regrown (hqq.2.2)
        have e0 := cell_regrown (HEv.out).c0
        have e1 := cell_regrown (HEv.out).c1
        have e2 := cell_regrown (HEv.out).c2
        clear hqq
        have HPK := Lib.hid (HPL.out k (by rw [HN.out]; omega) HLO.out (fun h => by have h2 := HY.out; rw [h2]; exact HLL.out))
        have HGK := Lib.hid (show l[k]? = some y from by rw [← HY.out]; exact List.getElem?_eq_getElem _)
        by_cases hye : y = e
        · have HRES := Lib.hid (show pl = l from by rw [HPK.out, HGK.out, if_pos (by rw [hye])])
          subst hye
          go_wp2_with fail
          refine wp_region_quiet_below (by kernel_rfl) (by kernel_rfl) ?_
          repeat (first | go_big_quiet_step (fail) | quiet_step (fail))
          refine wpQuiet_nil ?_
          intro _ hw'
          obtain ⟨⟨dq, osq⟩, hw''⟩ := hw'
          subst hw''
          have hbu := hbv.trans ((below_regrown wv dq osq).mono hbv.size)
          have HOu := Lib.hid (owns_belE HOv.out (below_regrown wv dq osq))
          clear q0 q1 q2 e0 e1 e2 hbv
          generalize Sort.grow (redrawn wv dq) osq = wu at *
          go_wp2_with fail
          go_ret
          have hpl := HRES.out
          have hnl := HN.out
          subst hpl
          refine ⟨_, _, by rw [hnl]; rfl, ?_, HB.out.trans (hbu.mono (Nat.le_trans hB HZ.out))⟩
          rw [hnl]
          exact HOu.out
        · have HRES := Lib.hid (show pl = l.take k ++ e :: l.drop k from by rw [HPK.out, HGK.out, if_neg (by simpa using hye)])
          rcases el_ne hye with z0 | ⟨z0, z1⟩ | ⟨z0, z1, z2⟩
          all_goals
            obtain ⟨xs, xq, xi⟩ := e
            obtain ⟨ys, yq, yi⟩ := y
            simp only at q0 q1 q2 e0 e1 e2 z0
            try simp only at z1
            try simp only at z2
            try (have z0' := z0.symm; subst z0')
            try (have z1' := z1.symm; subst z1')
            go_wp2_with fail
            refine wp_region_quiet_below (by kernel_rfl) (by kernel_rfl) ?_
            repeat (first | go_big_quiet_step (fail) | quiet_step (fail))
            refine wpQuiet_nil ?_
            intro _ hw'
            obtain ⟨⟨dq, osq⟩, hw''⟩ := hw'
            subst hw''
            have hbu := hbv.trans ((below_regrown wv dq osq).mono hbv.size)
            have HOu := Lib.hid (owns_belE HOv.out (below_regrown wv dq osq))
            have HEu := Lib.hid (HEv.out.step (below_regrown wv dq osq))
            clear q0 q1 q2 e0 e1 e2 hbv
            generalize Sort.grow (redrawn wv dq) osq = wu at *
            go_wp2_with fail
            have hnn := HN.out
            obtain ⟨g, cap2, hv, hg0, hg1⟩ := HOu.out.form (by omega)
            simp only [Value.slice.injEq, Option.some.injEq, Addr.mk.injEq] at hv
            obtain ⟨⟨rfl, rfl, _⟩, _, rfl⟩ := hv
            have hcap : n ≤ cap := own_cap HOu.out
            have HCE := Lib.hid (copy_here (e := ⟨xs, xq, xi⟩) (k := k) HOu.out HEu.out hnn (by omega) (by omega))
            have HN2 := Lib.hid (drop_here (k := k) HOu.out hnn)
            have HSU := Lib.hid (show B ≤ wu.heap.size from Nat.le_trans hB (Nat.le_trans HZ.out hbu.size))
            have HSB := Lib.hid (Nat.le_trans HZ.out hbu.size)
            have HDL := Lib.hid (show (ecs (l.drop k)).length = (n - k) * 3 from by rw [ecs_length, List.length_drop]; omega)
            have HKN := Lib.hid (show k ≤ n from by omega)
            have HBW := Lib.hid (HB.out.trans (hbu.mono (Nat.le_trans hB HZ.out)))
            have hm1 : k + 1 ≤ maxLen := by unfold maxLen; omega
            have hm2 : (k + 1) * 24 ≤ 140737488355328 := by omega
            have hm3 : k + 1 + (n - k) ≤ maxLen := by unfold maxLen; omega
            have hm4 : (k + 1 + (n - k)) * 24 ≤ 140737488355328 := by omega
            have hm5 : 0 < n - k := by omega
            have e0 := (HEu.out.step (Below.refl wu.heap.size wu).drew).c0
            have e1 := (HEu.out.step (Below.refl wu.heap.size wu).drew).c1
            have e2 := (HEu.out.step (Below.refl wu.heap.size wu).drew).c2
            have hkc : k ≤ cap := by omega
            have hck : ¬ cap = k := by omega
            have HM1 := Lib.hid hm1
            have HM2 := Lib.hid hm2
            have HM3 := Lib.hid hm3
            have HM4 := Lib.hid hm4
            have HM5 := Lib.hid hm5
            simp only at e0 e1 e2
            clear hg0 hg1 hnn hm1 hm2 hm3 hm4 hm5
            go_region_law (first
              | (go_simp; go_at_call 84; refine (HCE.out _ (by first | exact first_below wu | exact second_below wu _)).mono ?_; rintro x7 w7 ⟨v7, rfl, hown7, ⟨_, f0, f1, f2⟩, hbW7, hbu7⟩)
              | (refine step_append_lies _ (by rfl) _ _ _ (by rfl) wu.heap.size 37 i0 (.agg #[.int .i64 0, .int .i64 0, .int .i64 0]) 3 24 Tryz.underlying23 hi0 hz0 hz1 hz2 (by rfl) (by decide) v7 k _ (by rfl) (hown7.alloc _) ⟨w7.heap.size, 0, none⟩ 1 1 (El.cs ⟨xs, xq, xi⟩) (by rfl) (by rfl) (cell_three_new _ ⟨xs, xq, xi⟩ _) (cs_one ⟨xs, xq, xi⟩) (by omega) HM1.out HM2.out (by have := hbu7.size; simp; omega) _ rfl ?_; intro g8 cap8 w8 hown8 hgrow8 hat8 hlt8; have hbu8 := grow_a hbu7 hgrow8 hown7)
              | (refine step_append_lies _ (by rfl) _ _ _ (by rfl) wu.heap.size 37 i0 (.agg #[.int .i64 0, .int .i64 0, .int .i64 0]) 3 24 Tryz.underlying23 hi0 hz0 hz1 hz2 (by rfl) (by decide) v7 k _ (by rfl) hown7 ⟨wu.heap.size, 0, none⟩ 1 1 (El.cs ⟨xs, xq, xi⟩) (by rfl) (by rfl) (news_b (e := ⟨xs, xq, xi⟩) hbW7) (cs_one ⟨xs, xq, xi⟩) (by omega) HM1.out HM2.out hbu7.size _ rfl ?_; intro g8 cap8 w8 hown8 hgrow8 hat8 hlt8; have hbu8 := grow_b hbu7 hgrow8 hown7)
              | (refine step_append_lies _ (by rfl) _ _ _ (by rfl) wu.heap.size 37 i0 (.agg #[.int .i64 0, .int .i64 0, .int .i64 0]) 3 24 Tryz.underlying23 hi0 hz0 hz1 hz2 (by rfl) (by decide) (.slice (some ⟨g8, 0, none⟩) (k + 1) cap8) (k + 1) _ (by rfl) hown8 ⟨b1, k * 3, none⟩ (n - k) (cap - k) (ecs (l.drop k)) (by rfl) HDL.out (HN2.out _ hbu8) (ecs_one _) HM5.out HM3.out HM4.out hbu8.size _ rfl ?_; intro g9 cap9 w9 hown9 hgrow9 hat9 hlt9; have HFIN := put_fin HBW.out HSU.out HSB.out hown9 hgrow9 hbu8 (own_ge hown8) HN.out HKN.out HRES.out))
            all_goals
              go_wp2_with fail
              go_ret
              exact HFIN
      · rw [hll] at HLS
        have HLE2 := Lib.hid (HLE.out (by rw [HN.out]; exact hlt) (by have h2 := HY.out; rw [h2]; exact hll))
        clear hll
        go_wp2_with fail
        refine wp_region_quiet_below (by kernel_rfl) (by kernel_rfl) ?_
        repeat (first | go_big_quiet_step (exact Calls.regrown_of (HLS.out _)) | quiet_step (exact Calls.regrown_of (HLS.out _)))
        refine wpQuiet_nil ?_
        intro _ hw'
        obtain ⟨⟨dq, osq⟩, hw''⟩ := hw'
        subst hw''
        have hbv := hbel.trans ((below_regrown wr dq osq).mono hbel.size)
        clear q0 q1 q2 e0 e1 e2 hbel
        generalize Sort.grow (redrawn wr dq) osq = wv at *
        go_wp2_with fail
        go_roundw
        case rel => exact ⟨k + 1, by omega, by go_num, HLE2.out, hbv⟩
        case measure => simp [RowKit.intOf]; omega
    · have hkn : k = n := by omega
      subst hkn
      have HPK := Lib.hid (HPL.out k (by rw [HN.out]; omega) HLO.out (fun h => by rw [HN.out] at h; omega))
      have HRES := Lib.hid (show pl = l.take k ++ e :: l.drop k from by rw [HPK.out, if_neg (by rw [List.getElem?_eq_none (by rw [HN.out]; omega)]; simp)])
      go_wp2_with fail
      refine wp_region_quiet_below (by kernel_rfl) (by kernel_rfl) ?_
      repeat (first | go_big_quiet_step (fail) | quiet_step (fail))
      refine wpQuiet_nil ?_
      intro _ hw'
      obtain ⟨⟨dq, osq⟩, hw''⟩ := hw'
      subst hw''
      have hbv := hbel.trans ((below_regrown wr dq osq).mono hbel.size)
      have HOv := Lib.hid (owns_belE HOr.out (below_regrown wr dq osq))
      have HEv := Lib.hid (HEr.out.step (below_regrown wr dq osq))
      clear hbel
      generalize Sort.grow (redrawn wr dq) osq = wv at *
      go_wp2_with fail
      refine wp_region_quiet_below (by kernel_rfl) (by kernel_rfl) ?_
      repeat (first | go_big_quiet_step (fail) | quiet_step (fail))
      refine wpQuiet_nil ?_
      intro _ hw'
      obtain ⟨⟨dq, osq⟩, hw''⟩ := hw'
      subst hw''
      have hbu := hbv.trans ((below_regrown wv dq osq).mono hbv.size)
      have HOu := Lib.hid (owns_belE HOv.out (below_regrown wv dq osq))
      have HEu := Lib.hid (HEv.out.step (below_regrown wv dq osq))
      clear hbv
      generalize Sort.grow (redrawn wv dq) osq = wu at *
      go_wp2_with fail
      have hnn := HN.out
      have hkw : k ≤ 1000000 := hl
      have HSU := Lib.hid (show B ≤ wu.heap.size from Nat.le_trans hB (Nat.le_trans HZ.out hbu.size))
      have HSB := Lib.hid (Nat.le_trans HZ.out hbu.size)
      have HCE := Lib.hid (copy_here (e := e) (k := k) HOu.out HEu.out hnn (Nat.le_refl _) hl)
      have HBW := Lib.hid (HB.out.trans (hbu.mono (Nat.le_trans hB HZ.out)))
      have hm1 : k + 1 ≤ maxLen := by unfold maxLen; omega
      have hm2 : (k + 1) * 24 ≤ 140737488355328 := by omega
      have HM1 := Lib.hid hm1
      have HM2 := Lib.hid hm2
      have e0 := (HEu.out.step (Below.refl wu.heap.size wu).drew).c0
      have e1 := (HEu.out.step (Below.refl wu.heap.size wu).drew).c1
      have e2 := (HEu.out.step (Below.refl wu.heap.size wu).drew).c2
      clear hm1 hm2 hnn
      rcases HOu.out.2 with ⟨hv, hk0⟩ | ⟨g, cap2, cur, hv, _, _, hkc, _⟩
      case inl =>
        simp only [Value.slice.injEq] at hv
        obtain ⟨rfl, _, rfl⟩ := hv
        subst hk0
        go_region_law (first
          | (go_simp; go_at_call 84; refine (HCE.out _ (by first | exact first_below wu | exact second_below wu _)).mono ?_; rintro x7 w7 ⟨v7, rfl, hown7, ⟨_, f0, f1, f2⟩, hbW7, hbu7⟩)
          | (refine step_append_lies _ (by rfl) _ _ _ (by rfl) wu.heap.size 37 i0 (.agg #[.int .i64 0, .int .i64 0, .int .i64 0]) 3 24 Tryz.underlying23 hi0 hz0 hz1 hz2 (by rfl) (by decide) v7 0 _ (by rfl) (hown7.alloc _) ⟨w7.heap.size, 0, none⟩ 1 1 (El.cs e) (by rfl) (by rfl) (cell_three_new _ e _) (cs_one e) (by omega) HM1.out HM2.out (by have := hbu7.size; simp; omega) _ rfl ?_; intro g8 cap8 w8 hown8 hgrow8 hat8 hlt8; have HFIN := put_fin0 HBW.out HSU.out HSB.out hown8 (grow_a hbu7 hgrow8 hown7) HN.out HRES.out; have hc8 := own_cap hown8; have hc9 : 1 ≤ cap8 := hc8)
          | (refine step_append_lies _ (by rfl) _ _ _ (by rfl) wu.heap.size 37 i0 (.agg #[.int .i64 0, .int .i64 0, .int .i64 0]) 3 24 Tryz.underlying23 hi0 hz0 hz1 hz2 (by rfl) (by decide) v7 0 _ (by rfl) hown7 ⟨wu.heap.size, 0, none⟩ 1 1 (El.cs e) (by rfl) (by rfl) (news_b (e := e) hbW7) (cs_one e) (by omega) HM1.out HM2.out hbu7.size _ rfl ?_; intro g8 cap8 w8 hown8 hgrow8 hat8 hlt8; have HFIN := put_fin0 HBW.out HSU.out HSB.out hown8 (grow_b hbu7 hgrow8 hown7) HN.out HRES.out; have hc8 := own_cap hown8; have hc9 : 1 ≤ cap8 := hc8))
        all_goals
          go_wp2_with fail
          go_ret
          exact HFIN
      case inr =>
        simp only [Value.slice.injEq] at hv
        obtain ⟨rfl, _, rfl⟩ := hv
        by_cases hck : cap = k
        · subst hck
          go_region_law (first
            | (go_simp; go_at_call 84; refine (HCE.out _ (by first | exact first_below wu | exact second_below wu _)).mono ?_; rintro x7 w7 ⟨v7, rfl, hown7, ⟨_, f0, f1, f2⟩, hbW7, hbu7⟩)
            | (refine step_append_lies _ (by rfl) _ _ _ (by rfl) wu.heap.size 37 i0 (.agg #[.int .i64 0, .int .i64 0, .int .i64 0]) 3 24 Tryz.underlying23 hi0 hz0 hz1 hz2 (by rfl) (by decide) v7 cap _ (by rfl) (hown7.alloc _) ⟨w7.heap.size, 0, none⟩ 1 1 (El.cs e) (by rfl) (by rfl) (cell_three_new _ e _) (cs_one e) (by omega) HM1.out HM2.out (by have := hbu7.size; simp; omega) _ rfl ?_; intro g8 cap8 w8 hown8 hgrow8 hat8 hlt8; have HFIN := put_fin0 HBW.out HSU.out HSB.out hown8 (grow_a hbu7 hgrow8 hown7) HN.out HRES.out; have hc8 := own_cap hown8; have hc9 : cap + 1 ≤ cap8 := hc8)
            | (refine step_append_lies _ (by rfl) _ _ _ (by rfl) wu.heap.size 37 i0 (.agg #[.int .i64 0, .int .i64 0, .int .i64 0]) 3 24 Tryz.underlying23 hi0 hz0 hz1 hz2 (by rfl) (by decide) v7 cap _ (by rfl) hown7 ⟨wu.heap.size, 0, none⟩ 1 1 (El.cs e) (by rfl) (by rfl) (news_b (e := e) hbW7) (cs_one e) (by omega) HM1.out HM2.out hbu7.size _ rfl ?_; intro g8 cap8 w8 hown8 hgrow8 hat8 hlt8; have HFIN := put_fin0 HBW.out HSU.out HSB.out hown8 (grow_b hbu7 hgrow8 hown7) HN.out HRES.out; have hc8 := own_cap hown8; have hc9 : cap + 1 ≤ cap8 := hc8))
          all_goals
            go_wp2_with fail
            go_ret
            exact HFIN
        · replace hck : ¬ cap = k := hck
          go_region_law (first
            | (go_simp; go_at_call 84; refine (HCE.out _ (by first | exact first_below wu | exact second_below wu _)).mono ?_; rintro x7 w7 ⟨v7, rfl, hown7, ⟨_, f0, f1, f2⟩, hbW7, hbu7⟩)
            | (refine step_append_lies _ (by rfl) _ _ _ (by rfl) wu.heap.size 37 i0 (.agg #[.int .i64 0, .int .i64 0, .int .i64 0]) 3 24 Tryz.underlying23 hi0 hz0 hz1 hz2 (by rfl) (by decide) v7 k _ (by rfl) (hown7.alloc _) ⟨w7.heap.size, 0, none⟩ 1 1 (El.cs e) (by rfl) (by rfl) (cell_three_new _ e _) (cs_one e) (by omega) HM1.out HM2.out (by have := hbu7.size; simp; omega) _ rfl ?_; intro g8 cap8 w8 hown8 hgrow8 hat8 hlt8; have HFIN := put_fin0 HBW.out HSU.out HSB.out hown8 (grow_a hbu7 hgrow8 hown7) HN.out HRES.out; have hc8 := own_cap hown8; have hc9 : k + 1 ≤ cap8 := hc8)
            | (refine step_append_lies _ (by rfl) _ _ _ (by rfl) wu.heap.size 37 i0 (.agg #[.int .i64 0, .int .i64 0, .int .i64 0]) 3 24 Tryz.underlying23 hi0 hz0 hz1 hz2 (by rfl) (by decide) v7 k _ (by rfl) hown7 ⟨wu.heap.size, 0, none⟩ 1 1 (El.cs e) (by rfl) (by rfl) (news_b (e := e) hbW7) (cs_one e) (by omega) HM1.out HM2.out hbu7.size _ rfl ?_; intro g8 cap8 w8 hown8 hgrow8 hat8 hlt8; have HFIN := put_fin0 HBW.out HSU.out HSB.out hown8 (grow_b hbu7 hgrow8 hown7) HN.out HRES.out; have hc8 := own_cap hown8; have hc9 : k + 1 ≤ cap8 := hc8))
          all_goals
            go_wp2_with fail
            go_ret
            exact HFIN
end Go.Proofs.YthnedehihbploaaGreatDoor
