/- slices.Insert at a row of runes of the call's own, at whatever place: ahead of the end with room, and without -/
import Derived.Test.YthnedehihbploaaGreatDoorQPath
import Derived.Shelf.Spec.SlicesInsertGrow
import Derived.Shelf.SlicesE.Delete
namespace Go.Proofs.YthnedehihbploaaGreatDoor
open Go.RowKit Go.Lib

/-- stores into a row of the call's own, one behind the other: what the row holds then -/
theorem owns_sets1 {t : TypeId} {base g n cap : Nat} : ∀ (vs : List Value) (o : Nat) (w : World) (xs : List Value), w.ownsRow base t 1 (.slice (some ⟨g, 0, none⟩) n cap) n xs →
    ∃ xs', (w.setCells g o vs).ownsRow base t 1 (.slice (some ⟨g, 0, none⟩) n cap) n xs' ∧ ∀ j, j < n → xs'[j]? = if o ≤ j ∧ j < o + vs.length then vs[j - o]? else xs[j]?
  | [], o, w, xs, h => ⟨xs, h, fun j _ => by rw [if_neg (by simp)]⟩
  | v :: r, o, w, xs, h => by
    obtain ⟨xs', h1, h2⟩ := owns_sets1 r (o + 1) (w.setCell ⟨g, o, none⟩ v) _ (h.stored o v).1
    have hl : xs.length = n := by have := h.1; omega
    refine ⟨xs', h1, fun j hj => ?_⟩
    rw [h2 j hj, List.length_cons]
    by_cases hjo : j = o
    · subst hjo
      rw [if_neg (by omega), if_pos (by omega), Nat.sub_self, List.getElem?_set_self (by omega)]
      rfl
    · by_cases hlt : o ≤ j ∧ j < o + (r.length + 1)
      · rw [if_pos (by omega), if_pos hlt, show j - o = (j - (o + 1)) + 1 by omega, List.getElem?_cons_succ]
      · rw [if_neg (by omega), if_neg hlt, List.getElem?_set_ne (by omega)]
/-- a row with room, taken longer -/
theorem owns_more {w : World} {t : TypeId} {base g n cap m : Nat} {xs : List Value} (h : w.ownsRow base t 1 (.slice (some ⟨g, 0, none⟩) n cap) n xs) (hm : n + m ≤ cap) :
    ∃ xs1, w.ownsRow base t 1 (.slice (some ⟨g, 0, none⟩) (n + m) cap) (n + m) xs1 ∧ ∀ j, j < n → xs1[j]? = xs[j]? := by
  rcases h.2 with ⟨h', _⟩ | ⟨g', cap', cur, h', hb, hg, hnc, hcm, hcs, ht⟩
  · simp at h'
  · simp only [Value.slice.injEq, Option.some.injEq, Addr.mk.injEq, and_true, true_and] at h'
    obtain ⟨rfl, rfl⟩ := h'
    refine ⟨cur.toList.take ((n + m) * 1), ⟨by rw [List.length_take, Array.length_toList]; omega, .inr ⟨g, cap, cur, rfl, hb, hg, hm, hcm, hcs, rfl⟩⟩, fun j hj => ?_⟩
    rw [← ht, List.getElem?_take, List.getElem?_take, if_pos (by omega), if_pos (by omega)]
theorem owns_shape {w : World} {t : TypeId} {base g n cap : Nat} {xs : List Value} (h : w.ownsRow base t 1 (.slice (some ⟨g, 0, none⟩) n cap) n xs) : w.shape? g = some (t, cap) ∧ base ≤ g ∧ cap ≤ maxLen ∧ n ≤ cap := by
  rcases h.2 with ⟨h', _⟩ | ⟨g', cap', cur, h', hb, hg, hnc, hcm, hcs, ht⟩
  · simp at h'
  · simp only [Value.slice.injEq, Option.some.injEq, Addr.mk.injEq, and_true, true_and] at h'
    obtain ⟨rfl, rfl⟩ := h'
    refine ⟨?_, hb, hcm, hnc⟩
    unfold World.shape?
    rw [hg]
    simp [hcs]
/-- what stands in a row into which rs is brought at i -/
theorem ins_get {l rs : List Int} {i n m : Nat} (hn : l.length = n) (hrs : rs.length = m) (hi : i ≤ n) {xs : List Value} (hx : xs.length = n + m)
    (h : ∀ j, j < n + m → xs[j]? = if i ≤ j ∧ j < i + m then (rv rs)[j - i]? else if i + m ≤ j then ((rv l).drop i)[j - (i + m)]? else (rv l)[j]?) : xs = rv (l.take i ++ rs ++ l.drop i) := by
  have hL : (rv (l.take i ++ rs ++ l.drop i)).length = n + m := by simp [rv, hn, hrs]; omega
  refine List.ext_getElem? fun j => ?_
  by_cases hj : j < n + m
  · rw [h j hj]
    unfold rv
    rw [List.map_append, List.map_append, List.getElem?_append, List.getElem?_append]
    simp only [List.length_append, List.length_map, List.length_take, hn, hrs, Nat.min_eq_left hi]
    by_cases h1 : j < i
    · rw [if_neg (by omega), if_neg (by omega), if_pos (by omega), if_pos h1, List.getElem?_map, List.getElem?_map, List.getElem?_take, if_pos h1]
    · by_cases h2 : j < i + m
      · rw [if_pos (by omega), if_pos h2, if_neg h1]
      · rw [if_neg (by omega), if_pos (by omega), if_neg h2, List.map_drop]
  · rw [List.getElem?_eq_none (by omega), List.getElem?_eq_none (by omega)]
set_option maxRecDepth 100000 in
set_option maxHeartbeats 8000000 in
/-- there is room: in place -/
theorem insert_room (g n c base B i vb m vc : Nat) (l rs : List Int) (w0 w : World) (hown : w.ownsRow base 21 1 (.slice (some ⟨g, 0, none⟩) n c) n (rv l)) (hn : l.length = n) (hi : i < n) (hm : 0 < m) (hrs : rs.length = m) (hroom : n + m ≤ c) (hvb : vb ≠ g)
    (hvh : w.heap[vb]? = some (.cells (rv rs).toArray 21 (0, 0))) (hB : B ≤ base) (hb : Below B w0 w) :
    Calls Tryz.prog 104 #[.slice (some ⟨g, 0, none⟩) n c, .int .i64 i, .slice (some ⟨vb, 0, none⟩) m vc] w (InsPost base B w0 (l.take i ++ rs ++ l.drop i)) := by
  obtain ⟨hshg, hbg, hcm, hnc⟩ := owns_shape hown
  obtain ⟨xs1, hown1, hx1⟩ := owns_more (m := m) hown hroom
  have hc63 : c ≤ 9223372036854775807 := by unfold maxLen at hcm; omega
  have hrl : (rv rs).length = m := by rw [rv_length, hrs]
  have hll : (rv l).length = n := by rw [rv_length, hn]
  have hdl : ((rv l).drop i).length = n - i := by rw [List.length_drop, hll]
  have hsz : (Tryz.prog.info? 21).map (·.size) = some 1 := by
    obtain ⟨i0, hi0, h0, h1, h2⟩ := info_parts Tryz.info21
    rw [hi0]; simp [h1]
  have hcs : ∀ j v, (rv l)[j]? = some v → w.cell? ⟨g, j, none⟩ = some v := fun j v hj => by
    have hjn : j < n := by have := (List.getElem?_eq_some_iff.1 hj).1; omega
    rw [hown.cellAt j (by omega), hj]
  have hsp : ∀ j, j < n + m → (w.cell? ⟨g, j, none⟩).isSome = true := fun j hj => by
    have h1 := hown1.1
    rw [hown1.cellAt j (by omega), List.getElem?_eq_getElem (by omega)]; rfl
  have hfz : ∀ j, w.frozen? ⟨g, j, none⟩ = false := fun j => hown.frozenAt j
  have hvs : ∀ j v, (rv rs)[j]? = some v → w.cell? ⟨vb, j, none⟩ = some v := fun j v hj => by
    simp only [World.cell?, hvh]
    simpa using hj
  have h1c : ∀ v ∈ rv l, v.oneCell' = true := ints_oneCell _ l
  have h1v : ∀ v ∈ rv rs, v.oneCell' = true := ints_oneCell _ rs
  have hov : ∀ lb cb, (callFunc 120 #[.slice (some ⟨vb, 0, none⟩) m vc, .slice (some ⟨g, i + m, none⟩) lb cb]).run Tryz.prog w = .ok (.value (.bool false)) w := fun lb cb => by
    have hshv : w.shape? vb = some (21, m) := by unfold World.shape?; rw [hvh]; simp [hrl]
    rw [run_callFunc_extern Tryz.func120 (by kernel_rfl) (by kernel_rfl) (by kernel_rfl) (e := Extern.SlicesOverlaps.overlaps #[40, 40] #[4]) (by kernel_rfl),
      Lib.run_overlaps_apart w 40 4 21 Tryz.underlying40 1 (fun w => by kernel_rfl) ⟨vb, 0, none⟩ ⟨g, i + m, none⟩ m vc lb cb hvb 21 21 m c hshv hshg (by omega) (frozen_of_row w vb 0 _ _ hvh) (frozen_of_row w vb m _ _ hvh)]
    rfl
  have hcp1 : ∀ ty dc sc, (Builtin.copy_ #[85, 85] ty #[.slice (some ⟨g, i + m, none⟩) (n + m - (i + m)) dc, .slice (some ⟨g, i, none⟩) (n + m - i) sc]).run Tryz.prog w.drew = .ok (goInt ((rv l).drop i).length) (w.drew.setCells g (i + m) ((rv l).drop i)) := fun ty dc sc =>
    run_copy_cells w.drew _ _ ty 21 g (i + m) (n + m - (i + m)) dc ⟨g, i, none⟩ (n + m - i) sc ((rv l).drop i) Tryz.underlying85 hsz (by rw [hdl]; simp only [Nat.min_def]; split <;> omega)
      (fun j v hj => by rw [Addr.add_lit]; exact hcs (i + j) v (by rwa [List.getElem?_drop] at hj))
      (fun j hj => hsp _ (by omega)) (fun j hj => hfz _) (fun v hv => h1c v (List.mem_of_mem_drop hv))
  obtain ⟨W1, hW1⟩ : ∃ W1, W1 = w.drew.setCells g (i + m) ((rv l).drop i) := ⟨_, rfl⟩
  have hsp1 : ∀ k, k < n + m → (W1.cell? ⟨g, k, none⟩).isSome = true := fun k hk => by
    rw [hW1]
    exact isSome_setCells g ((rv l).drop i) (i + m) w.drew (fun j hj => hsp _ (by rw [hdl] at hj; omega)) _ (hsp k hk)
  have hcp2 : ∀ (W : World), (∀ x, W.cell? x = W1.cell? x) → (∀ x, W.frozen? x = W1.frozen? x) → ∀ ty dc, (Builtin.copy_ #[85, 40] ty #[.slice (some ⟨g, i, none⟩) (n + m - i) dc, .slice (some ⟨vb, 0, none⟩) m vc]).run Tryz.prog W = .ok (goInt (rv rs).length) (W.setCells g i (rv rs)) := fun W hWc hWf ty dc =>
    run_copy_cells W _ _ ty 21 g i (n + m - i) dc ⟨vb, 0, none⟩ m vc (rv rs) Tryz.underlying85 hsz (by rw [hrl]; simp only [Nat.min_def]; split <;> omega)
      (fun j v hj => by
        rw [Addr.add_lit, hWc, hW1, World.cell?_setCells_out g _ _ _ _ (fun h _ => absurd h hvb), Nat.zero_add]
        exact hvs j v hj)
      (fun j hj => by rw [hWc]; exact hsp1 _ (by omega)) (fun j hj => by rw [hWf, hW1, World.frozen?_setCells]; exact hfz _) h1v
  rw [← hW1] at hcp1
  have HPO : RowKit.Hid (InsPost base B w0 (l.take i ++ rs ++ l.drop i) (.returned (.slice (some ⟨g, 0, none⟩) (n + m) c)) (W1.setCells g i (rv rs))) := Lib.hid (by
    obtain ⟨xs2, hown2, hx2⟩ := owns_sets1 ((rv l).drop i) (i + m) w.drew xs1 hown1.drew
    rw [← hW1] at hown2
    obtain ⟨xs3, hown3, hx3⟩ := owns_sets1 (rv rs) i W1 xs2 hown2
    have hl3 : xs3.length = n + m := by have := hown3.1; omega
    have hx : xs3 = rv (l.take i ++ rs ++ l.drop i) := ins_get hn hrs (by omega) hl3 (fun j hj => by
      rw [hx3 j hj, hrl]
      by_cases h1 : i ≤ j ∧ j < i + m
      · rw [if_pos h1, if_pos h1]
      · rw [if_neg h1, if_neg h1, hx2 j hj, hdl]
        by_cases h2 : i + m ≤ j
        · rw [if_pos (by omega), if_pos h2]
        · rw [if_neg (by omega), if_neg h2, hx1 j (by omega)])
    have hL : (l.take i ++ rs ++ l.drop i).length = n + m := by simp [hn, hrs]; omega
    refine ⟨_, rfl, ?_, ?_⟩
    · rw [hL, ← hx]; exact hown3
    · rw [hW1]
      exact below_setCells (Nat.le_trans hB hbg) _ _ _ (below_setCells (Nat.le_trans hB hbg) _ _ _ hb.drew))
  have hz1 : ¬ ((m : Int) = 0) := by omega
  have hz2 : ¬ ((i : Int) = (n : Int)) := by omega
  have hz3 : ¬ ((c : Int) < (n : Int) + (m : Int)) := by omega
  have hw1 : IntKind.i64.wrap ((i : Int) + (m : Int)) = (i : Int) + (m : Int) := by rw [IntKind.wrap_i64]; omega
  have hw2 : IntKind.i64.wrap ((n : Int) + (m : Int)) = (n : Int) + (m : Int) := by rw [IntKind.wrap_i64]; omega
  have hb1 : (0 : Int) ≤ (i : Int) + (m : Int) := by omega
  have hin : i ≤ n := by omega
  have htn : ((i : Int) + (m : Int)).toNat = i + m := by omega
  have hb2 : ¬ (c = i + m) := by omega
  have hb3 : (i : Int) ≤ (n : Int) + (m : Int) := by omega
  have hb4 : ¬ (c = i) := by omega
  clear hown hown1 hx1 hcs hsp hfz hvs h1c h1v hvh hW1 hsp1 hb hshg hcm hsz
  have mixed : Tryz.prog.follows Departure.mixedOrders = true := by kernel_rfl
  go_enter Tryz.func104, Tryz.ntmps104
  go_wp2_with (simp only [hov])
  go_region_law_o (refine step_copy_runI rfl _ _ 85 85 rfl _ _ (by simp [Act.eval, Act.put]) (by simp [Act.eval, Act.put]) (hcp1 _ _ _) ?_)
  go_wp2_with (at_builtin; refine wpList_copy_runI _ rfl _ _ 85 40 rfl _ _ rfl rfl (hcp2 _ (fun _ => rfl) (fun _ => rfl) _ _) ?_)
  go_ret
  exact HPO.out
set_option maxRecDepth 100000 in
set_option maxHeartbeats 8000000 in
/-- there is no room: a new row -/
theorem insert_grow (g n c base B i vb m vc : Nat) (l rs : List Int) (w0 w : World) (hown : w.ownsRow base 21 1 (.slice (some ⟨g, 0, none⟩) n c) n (rv l)) (hn : l.length = n) (hi : i < n) (hm : 0 < m) (hrs : rs.length = m) (hroom : c < n + m)
    (hvh : w.heap[vb]? = some (.cells (rv rs).toArray 21 (0, 0))) (hB : B ≤ base) (hBw : base ≤ w.heap.size) (hb : Below B w0 w) (hl : n + m ≤ 1000000) :
    Calls Tryz.prog 104 #[.slice (some ⟨g, 0, none⟩) n c, .int .i64 i, .slice (some ⟨vb, 0, none⟩) m vc] w (InsPost base B w0 (l.take i ++ rs ++ l.drop i)) := by
  obtain ⟨hshg, hbg, hcm, hnc⟩ := owns_shape hown
  obtain ⟨i0, hi0, hz0, hzs, hzb⟩ := info_parts Tryz.info21
  have hrl : (rv rs).length = m := by rw [rv_length, hrs]
  have hll : (rv l).length = n := by rw [rv_length, hn]
  have hdl : ((rv l).drop i).length = n - i := by rw [List.length_drop, hll]
  have hsz : (Tryz.prog.info? 21).map (·.size) = some 1 := by rw [hi0]; simp [hzs]
  have hcs : ∀ j v, (rv l)[j]? = some v → w.cell? ⟨g, j, none⟩ = some v := fun j v hj => by
    have hjn : j < n := by have := (List.getElem?_eq_some_iff.1 hj).1; omega
    rw [hown.cellAt j (by omega), hj]
  have hvs : ∀ j v, (rv rs)[j]? = some v → w.cell? ⟨vb, j, none⟩ = some v := fun j v hj => by
    simp only [World.cell?, hvh]
    simpa using hj
  have h1c : ∀ v ∈ rv l, v.oneCell' = true := ints_oneCell _ l
  have h1v : ∀ v ∈ rv rs, v.oneCell' = true := ints_oneCell _ rs
  have hbw : g < w.heap.size := block_lt_of_cell (hcs 0 _ (List.getElem?_eq_getElem (by omega)))
  have hvw : vb < w.heap.size := block_lt_of_cell (hvs 0 _ (List.getElem?_eq_getElem (by omega)))
  have hkk : (n : Int) + (m : Int) - (i : Int) = ((n + m - i : Nat) : Int) := by omega
  have hik : i + (n + m - i) = n + m := by omega
  have hold : (Builtin.firstCells i0.size i (.slice (some ⟨g, 0, none⟩) i c)).run Tryz.prog w.drew = .ok ((rv l).take i).toArray w.drew := by
    rw [hzs]
    exact run_firstCells_some w.drew 1 i ⟨g, 0, none⟩ i c ((rv l).take i) (by rw [List.length_take]; omega) (fun j v hj => by
      rw [Addr.add_lit, Nat.zero_add]
      rw [List.getElem?_take] at hj
      split at hj
      · exact hcs j v hj
      · cases hj)
  have hrz : ∀ ty, (Builtin.append_ #[85, 3] ty #[.slice (some ⟨g, 0, none⟩) i c, .int .i64 ((n : Int) + (m : Int) - (i : Int))]).run Tryz.prog w =
      .ok (.slice (some ⟨w.heap.size, 0, none⟩) (n + m) (grownCap w (n + m) c 21)) (w.drew.alloc (.cells (((rv l).take i).toArray ++ Builtin.zeroCells (Value.int .i32 0).cells (n + m - i) ++ Builtin.zeroCells (Value.int .i32 0).cells (grownCap w (n + m) c 21 - (n + m))) 21)) := fun ty => by
    have h := Lib.run_append_grow_zeros w 85 3 ty 21 i0 _ .i64 .i64 Tryz.underlying85 Tryz.underlying3 hi0 hz0 (some ⟨g, 0, none⟩) i c ((rv l).take i) hold (n + m - i) (by omega) (by omega) (by omega) (by omega) (by rw [hzb]; omega) (by rw [hzb, hik]; exact growslice_fits hroom (by omega))
    rw [hik] at h
    rw [hkk]
    exact h
  obtain ⟨G, hG⟩ : ∃ G, G = grownCap w (n + m) c 21 := ⟨_, rfl⟩
  have hGn : n + m ≤ G := by rw [hG]; exact grownCap_ge w _ _ _
  have hGm : G ≤ maxLen := by rw [hG]; exact grownCap_le_maxLen w (n + m) c 21 (by unfold maxLen; omega)
  have hG63 : G ≤ 9223372036854775807 := by unfold maxLen at hGm; omega
  obtain ⟨ROW, hROW⟩ : ∃ ROW : Array Value, ROW = ((rv l).take i).toArray ++ Builtin.zeroCells (Value.int .i32 0).cells (n + m - i) ++ Builtin.zeroCells (Value.int .i32 0).cells (G - (n + m)) := ⟨_, rfl⟩
  rw [← hG] at hrz
  rw [← hROW] at hrz
  have hRS : ROW.size = G := by
    rw [hROW]
    simp [Builtin.zeroCells, Value.cells]
    omega
  have hRg : ∀ j, j < i → ROW.toList[j]? = (rv l)[j]? := fun j hj => by
    rw [hROW, Array.toList_append, Array.toList_append, List.append_assoc, List.getElem?_append_left (by simp; omega), List.getElem?_take, if_pos hj]
  have hown1 : (w.alloc (.cells ROW 21)).ownsRow base 21 1 (.slice (some ⟨w.heap.size, 0, none⟩) (n + m) G) (n + m) (ROW.toList.take ((n + m) * 1)) :=
    ⟨by rw [List.length_take, Array.length_toList]; omega, .inr ⟨w.heap.size, G, ROW, rfl, hBw, heap_alloc_new w _, hGn, hGm, by omega, rfl⟩⟩
  obtain ⟨W1, hW1⟩ : ∃ W1, W1 = w.drew.alloc (.cells ROW 21) := ⟨_, rfl⟩
  rw [← hW1] at hrz
  have hN : ∀ j, j < n + m → (W1.cell? ⟨w.heap.size, j, none⟩).isSome = true := fun j hj => by
    rw [hW1, World.cell?_alloc_at (w := w.drew) ROW _ w.heap.size j rfl, Array.getElem?_eq_getElem (by omega)]; rfl
  have hNf : ∀ j, W1.frozen? ⟨w.heap.size, j, none⟩ = false := fun j => by rw [hW1]; exact World.frozen?_alloc_at (w := w.drew) ROW _ w.heap.size j rfl
  have hOb : ∀ j v, w.cell? ⟨g, j, none⟩ = some v → W1.cell? ⟨g, j, none⟩ = some v := fun j v h => by rw [hW1, World.cell?_alloc_past (w := w.drew) _ g j hbw]; exact h
  have hOv : ∀ j v, w.cell? ⟨vb, j, none⟩ = some v → W1.cell? ⟨vb, j, none⟩ = some v := fun j v h => by rw [hW1, World.cell?_alloc_past (w := w.drew) _ vb j hvw]; exact h
  have hcpA : ∀ (W : World), (∀ x, W.cell? x = W1.cell? x) → (∀ x, W.frozen? x = W1.frozen? x) → ∀ ty dc, (Builtin.copy_ #[85, 40] ty #[.slice (some ⟨w.heap.size, i, none⟩) (n + m - i) dc, .slice (some ⟨vb, 0, none⟩) m vc]).run Tryz.prog W = .ok (goInt (rv rs).length) (W.setCells w.heap.size i (rv rs)) := fun W hWc hWf ty dc =>
    run_copy_cells W _ _ ty 21 w.heap.size i (n + m - i) dc ⟨vb, 0, none⟩ m vc (rv rs) Tryz.underlying85 hsz (by rw [hrl]; simp only [Nat.min_def]; split <;> omega)
      (fun j v hj => by rw [Addr.add_lit, Nat.zero_add, hWc]; exact hOv _ v (hvs j v hj))
      (fun j hj => by rw [hWc]; exact hN _ (by omega)) (fun j hj => by rw [hWf]; exact hNf _) h1v
  have hGi : ¬ (G = i) := by omega
  have hGim : ¬ (G = i + m) := by omega
  have hci : ¬ (c = i) := by omega
  have hbN : g ≠ w.heap.size := by omega
  have hcpB : ∀ (W : World), (∀ x, W.cell? x = (W1.setCells w.heap.size i (rv rs)).cell? x) → (∀ x, W.frozen? x = (W1.setCells w.heap.size i (rv rs)).frozen? x) → ∀ ty dc sc, (Builtin.copy_ #[85, 85] ty #[.slice (some ⟨w.heap.size, i + m, none⟩) (n + m - (i + m)) dc, .slice (some ⟨g, i, none⟩) (n - i) sc]).run Tryz.prog W = .ok (goInt ((rv l).drop i).length) (W.setCells w.heap.size (i + m) ((rv l).drop i)) := fun W hWc hWf ty dc sc =>
    run_copy_cells W _ _ ty 21 w.heap.size (i + m) (n + m - (i + m)) dc ⟨g, i, none⟩ (n - i) sc ((rv l).drop i) Tryz.underlying85 hsz (by rw [hdl]; simp only [Nat.min_def]; split <;> omega)
      (fun j v hj => by
        rw [Addr.add_lit, hWc, World.cell?_setCells_out _ _ _ _ _ (fun h _ => absurd h hbN)]
        exact hOb _ v (hcs (i + j) v (by rwa [List.getElem?_drop] at hj)))
      (fun j hj => by rw [hWc]; exact isSome_setCells _ (rv rs) i W1 (fun t ht => hN _ (by omega)) _ (hN _ (by omega)))
      (fun j hj => by rw [hWf, World.frozen?_setCells]; exact hNf _) (fun v hv => h1c v (List.mem_of_mem_drop hv))
  have HPO : RowKit.Hid (∀ W W', W = ((w.alloc (.cells ROW 21)).drew.setCells w.heap.size i (rv rs)) → W' = (W.drew.setCells w.heap.size (i + m) ((rv l).drop i)) → InsPost base B w0 (l.take i ++ rs ++ l.drop i) (.returned (.slice (some ⟨w.heap.size, 0, none⟩) (n + m) G)) W') := Lib.hid (fun W W' hW hW' => by
    obtain ⟨xs2, hown2, hx2⟩ := owns_sets1 (rv rs) i (w.alloc (.cells ROW 21)).drew _ hown1.drew
    rw [← hW] at hown2
    obtain ⟨xs3, hown3, hx3⟩ := owns_sets1 ((rv l).drop i) (i + m) W.drew xs2 hown2.drew
    rw [← hW'] at hown3
    have hl3 : xs3.length = n + m := by have := hown3.1; omega
    have hx : xs3 = rv (l.take i ++ rs ++ l.drop i) := ins_get hn hrs (by omega) hl3 (fun j hj => by
      rw [hx3 j hj, hdl]
      by_cases h2 : i + m ≤ j
      · rw [if_pos (by omega), if_neg (by omega), if_pos h2]
      · rw [if_neg (by omega), hx2 j hj, hrl]
        by_cases h1 : i ≤ j ∧ j < i + m
        · rw [if_pos h1, if_pos h1]
        · rw [if_neg h1, if_neg h1, if_neg h2, List.getElem?_take, if_pos (by omega), hRg j (by omega)])
    have hL : (l.take i ++ rs ++ l.drop i).length = n + m := by simp [hn, hrs]; omega
    have hBh : B ≤ w.heap.size := Nat.le_trans hB hBw
    refine ⟨_, rfl, ?_, ?_⟩
    · rw [hL, ← hx]; exact hown3
    · rw [hW', hW]
      exact below_setCells hBh _ _ _ (below_setCells hBh _ _ _ (hb.alloc hBh _).drew).drew)
  subst hW1
  have hE1 : ∀ x, ((w.alloc (.cells ROW 21)).drew).cell? x = (w.drew.alloc (.cells ROW 21)).cell? x := fun x => rfl
  have hE2 : ∀ x, ((w.alloc (.cells ROW 21)).drew).frozen? x = (w.drew.alloc (.cells ROW 21)).frozen? x := fun x => rfl
  have hF1 : ∀ x, (((w.alloc (.cells ROW 21)).drew.setCells w.heap.size i (rv rs)).drew).cell? x = ((w.drew.alloc (.cells ROW 21)).setCells w.heap.size i (rv rs)).cell? x := fun x => rfl
  have hF2 : ∀ x, (((w.alloc (.cells ROW 21)).drew.setCells w.heap.size i (rv rs)).drew).frozen? x = ((w.drew.alloc (.cells ROW 21)).setCells w.heap.size i (rv rs)).frozen? x := fun x => rfl
  have hz1 : ¬ ((m : Int) = 0) := by omega
  have hz2 : ¬ ((i : Int) = (n : Int)) := by omega
  have hz3 : (c : Int) < (n : Int) + (m : Int) := by omega
  have hw1 : IntKind.i64.wrap ((i : Int) + (m : Int)) = (i : Int) + (m : Int) := by rw [IntKind.wrap_i64]; omega
  have hb1 : (0 : Int) ≤ (i : Int) + (m : Int) := by omega
  have hin : i ≤ n := by omega
  have htn : ((i : Int) + (m : Int)).toNat = i + m := by omega
  have hb3 : (i : Int) ≤ (n : Int) := by omega
  have mixed : Tryz.prog.follows Departure.mixedOrders = true := by kernel_rfl
  clear hkk hik hold hROW hG hRS hRg hown1 hown hcs hvs h1c h1v hN hNf hOb hOv hb hshg hsz hvh
  go_enter Tryz.func104, Tryz.ntmps104
  go_wp2_with (first
    | (at_builtin; refine Lib.wpList_append_run _ rfl _ _ _ _ rfl _ _ rfl rfl _ _ (hrz _) ?_)
    | (at_builtin; refine wpList_copy_runI _ rfl _ _ 85 40 rfl _ _ rfl rfl (hcpA _ hE1 hE2 _ _) ?_)
    | (at_builtin; refine wpList_copy_runI _ rfl _ _ 85 85 rfl _ _ rfl rfl (hcpB _ (fun _ => rfl) (fun _ => rfl) _ _ _) ?_))
  go_region_law_o (refine step_copy_runI rfl _ _ 85 85 rfl (.slice (some ⟨w.heap.size, i + m, none⟩) (n + m - (i + m)) (G - (i + m))) (.slice (some ⟨g, i, none⟩) (n - i) (c - i)) (by simp [Act.eval, Act.put]) (by simp [Act.eval, Act.put]) (hcpB _ hF1 hF2 3 (G - (i + m)) (c - i)) ?_)
  go_wp2
  go_ret
  exact HPO.out _ _ rfl rfl
end Go.Proofs.YthnedehihbploaaGreatDoor
/- slices.Delete at a row of runes of the call's own (the library's contract, laid by names), slices.Insert at whatever place, and the page's two steps -/
namespace Go.Proofs
open Go.Shelf
def Tryz.delP_ren : Go.Shelf.Ren := ⟨fun | 45 => 105 | n => n, fun | 22 => 85 | 23 => 21 | 3 => 3 | 4 => 4 | 0 => 0 | n => n, fun | n => n⟩
theorem Tryz.delP : Go.Proofs.SlLaysE.n45 Tryz.prog Tryz.delP_ren := {
  mixed := by kernel_rfl
  f45 := ⟨Tryz.f105.name, by decide, Tryz.func105.trans (congrArg some (by kernel_rfl))⟩
  t0 := Tryz.underlying0
  a0 := Tryz.isAgg0
  z0 := Tryz.sizeOf0
  v0 := Tryz.zeroValue0
  t3 := Tryz.underlying3
  a3 := Tryz.isAgg3
  z3 := Tryz.sizeOf3
  v3 := Tryz.zeroValue3
  t4 := Tryz.underlying4
  a4 := Tryz.isAgg4
  z4 := Tryz.sizeOf4
  v4 := Tryz.zeroValue4
  t22 := Tryz.underlying85
  a22 := Tryz.isAgg85
  z22 := Tryz.sizeOf85
  v22 := Tryz.zeroValue85
  a23 := Tryz.isAgg21
  z23 := Tryz.sizeOf21 }
end Go.Proofs
namespace Go.Proofs.YthnedehihbploaaGreatDoor
open Go.RowKit Go.Lib Go.Sort

theorem heap_putR {w : World} {g n : Nat} {cur : Array Value} {e : TypeId} {fr : Nat × Nat} (d : Array Int) (hb : w.heap[g]? = some (.cells cur e fr)) :
    (putRow (Value.int .i32) (Sort.ahead w n) g 0 d).heap[g]? = some (.cells (putCells (Value.int .i32) 0 d cur) e fr) := by
  simp [putRow, mapBlock, Sort.ahead, Array.getElem?_modify, hb, onCells]
theorem grownBy_putR {w : World} {g n : Nat} (d : Array Int) : w.grownBy (putRow (Value.int .i32) (Sort.ahead w n) g 0 d) (some g) := by
  refine ⟨rfl, rfl, rfl, by simp, fun k hk hne => ?_⟩
  have : g ≠ k := fun e => hne (by rw [e])
  simp [putRow, mapBlock, Sort.ahead, Array.getElem?_modify, this]
theorem take_putR (cur : Array Value) (l : List Int) (k : Nat) (hk : k ≤ l.length) (h : l.length ≤ cur.size) : (putCells (Value.int .i32) 0 l.toArray cur).toList.take k = rv (l.take k) := by
  apply List.ext_getElem?
  intro j
  by_cases hj : j < k
  · have hj5 : j < l.length := by omega
    have hjc : j < cur.size := by omega
    rw [List.getElem?_take_of_lt hj, Array.getElem?_toList, rv_get (show j < (l.take k).length by rw [List.length_take]; omega), List.getElem_take]
    simp only [putCells, Array.getElem?_mapIdx, Nat.zero_le, Nat.zero_add, List.size_toArray, hj5, and_self, if_true, Nat.sub_zero]
    rw [Array.getElem?_eq_getElem hjc, getElem!_pos l.toArray j (by simpa using hj5)]
    simp
  · rw [List.getElem?_take_eq_none (by omega), List.getElem?_eq_none (by rw [rv_length, List.length_take]; omega)]
theorem holdsR_own {w : World} {base g n cap : Nat} {l : List Int} (h : w.ownsRow base 21 1 (.slice (some ⟨g, 0, none⟩) n cap) n (rv l)) (hn : l.length = n) : Holds (Value.int .i32) w g 0 l.toArray := by
  intro j hj
  have hj' : j < l.length := by simpa using hj
  rw [Nat.zero_add]
  refine ⟨?_, h.frozenAt j⟩
  rw [h.cellAt j (by omega), rv_get hj', getElem!_pos l.toArray j hj]
  simp
/-- one rune is taken out -/
theorem delete_any (a : Option Addr) (n c base B i : Nat) (l : List Int) (w0 w : World) (hown : w.ownsRow base 21 1 (.slice a n c) n (rv l)) (hn : l.length = n) (hi : i < n) (hB : B ≤ base) (hBw : B ≤ w.heap.size) (hb : Below B w0 w) :
    Calls Tryz.prog 105 #[.slice a n c, .int .i64 i, .int .i64 ((i : Int) + 1)] w (InsPost base B w0 (l.take i ++ l.drop (i + 1))) := by
  subst hn
  rcases hown.2 with ⟨hv, h0⟩ | ⟨g, cap', cur, hv, hg, hh, hnc, hcm, hcs, ht⟩
  · omega
  · simp only [Value.slice.injEq] at hv
    obtain ⟨rfl, _, rfl⟩ := hv
    obtain ⟨i0, hi0, hz0, hzs, hzb⟩ := info_parts Tryz.info21
    have hcon := AnyE.slices_Delete Tryz.delP (Value.int .i32) (fun _ => rfl) 0 Tryz.zeroValue21 i0 hi0 hzs g 0 c i (i + 1) l.toArray w (holdsR_own hown rfl) (by simp; omega) (by unfold maxLen at hcm; omega) (by omega) (by simp; omega)
    rw [List.size_toArray, show ((i + 1 : Nat) : Int) = (i : Int) + 1 by omega] at hcon
    refine Calls.mono hcon ?_
    rintro e w' ⟨rfl, q, rfl⟩
    have hsub : i + 1 - i = 1 := by omega
    rw [hsub]
    have hL : (l.take i ++ l.drop (i + 1)).length = l.length - 1 := by simp; omega
    have hL2 : (l.take i ++ l.drop (i + 1) ++ List.replicate 1 (0 : Int)).length = l.length := by simp; omega
    have ht2 := take_putR cur (l.take i ++ l.drop (i + 1) ++ List.replicate 1 (0 : Int)) (l.length - 1) (by omega) (by omega)
    rw [show (l.take i ++ l.drop (i + 1) ++ List.replicate 1 (0 : Int)).take (l.length - 1) = l.take i ++ l.drop (i + 1) from by rw [← hL, List.take_left]] at ht2
    refine ⟨_, rfl, ?_, hb.grown (grownBy_putR _) hBw (fun k hk => by cases hk; omega)⟩
    rw [hL]
    exact ⟨by rw [rv_length, hL]; omega, .inr ⟨g, c, _, rfl, hg, heap_putR _ hh, by omega, hcm, by simp [putCells, hcs], by rw [Nat.mul_one]; exact ht2⟩⟩
/-- one rune is brought in, at whatever place -/
theorem insert_any (a : Option Addr) (n c b base B i : Nat) (l : List Int) (r : Int) (w0 w : World) (hown : w.ownsRow base 21 1 (.slice a n c) n (rv l)) (hn : l.length = n) (hi : i ≤ n) (hr : w.heap[b]? = some (.cells #[.int .i32 r] 21 (0, 0))) (hne : a.map (·.block) ≠ some b) (hB : B ≤ base) (hBw : base ≤ w.heap.size) (hb : Below B w0 w) (hl : n ≤ 100000) :
    Calls Tryz.prog 104 #[.slice a n c, .int .i64 i, .slice (some ⟨b, 0, none⟩) 1 1] w (InsPost base B w0 (l.take i ++ [r] ++ l.drop i)) := by
  by_cases he : i = n
  · subst he
    have h := insert_end a i c b base B l r w0 w hown hn (by simp [World.cell?, hr]) hB hBw hb hl
    rw [List.take_of_length_le (by omega), List.drop_of_length_le (by omega), List.append_nil]
    exact h
  · have hlt : i < n := by omega
    rcases hown.2 with ⟨hv, h0⟩ | ⟨g, cap', cur, hv, hg, hh, hnc, hcm, hcs, ht⟩
    · omega
    · simp only [Value.slice.injEq] at hv
      obtain ⟨rfl, _, rfl⟩ := hv
      by_cases hroom : n + 1 ≤ c
      · exact insert_room g n c base B i b 1 1 l [r] w0 w hown hn hlt (by omega) rfl hroom (fun e => hne (by simp [e])) hr hB hb
      · exact insert_grow g n c base B i b 1 1 l [r] w0 w hown hn hlt (by omega) rfl (by omega) hr hB hBw hb (by omega)
theorem page_heap (w : World) (o1 : Obj) (r : Int) (t : TypeId) : ((w.alloc o1).alloc (.cells #[.int .i32 r] t)).heap[w.heap.size + 1]? = some (.cells #[.int .i32 r] t (0, 0)) := by
  have h := heap_alloc_new (w.alloc o1) (.cells #[.int .i32 r] t)
  rwa [show (w.alloc o1).heap.size = w.heap.size + 1 from by simp] at h
theorem own_map {w : World} {base : Nat} {t : TypeId} {a : Option Addr} {n c k : Nat} {xs : List Value} (h : w.ownsRow base t 1 (.slice a n c) n xs) (hk : w.heap.size ≤ k) : a.map (·.block) ≠ some k := by
  cases a with
  | none => simp
  | some a =>
    have := (h.lt a.block rfl).2
    simp
    omega
set_option maxRecDepth 100000 in
set_option maxHeartbeats 2000000 in
/-- the step that brings in -/
theorem pgWith_any (a : Option Addr) (n c base B i : Nat) (l : List Int) (k r s : Int) (w0 w : World) (hown : w.ownsRow base 21 1 (.slice a n c) n (rv l)) (hn : l.length = n) (hi : i ≤ n) (hB : B ≤ base) (hBw : base ≤ w.heap.size) (hb : Below B w0 w) (hl : n ≤ 100000) :
    Calls Tryz.prog 79 #[.slice a n c, .agg #[.int .i64 k, .int .i64 i, .int .i32 r, .int .i64 s]] w (InsPost base B w0 (l.take i ++ [r] ++ l.drop i)) := by
  have HI := Lib.hid (insert_any a n c (w.heap.size + 1) base B i l r w0 ((w.alloc (.cells #[.int .i64 k, .int .i64 i, .int .i32 r, .int .i64 s] 44)).alloc (.cells #[.int .i32 r] 21)) ((hown.alloc _).alloc _) hn hi (page_heap w _ r _) (own_map hown (by omega)) hB (by simp; omega) ((hb.alloc (Nat.le_trans hB hBw) _).alloc (by simp; omega) _) hl)
  clear hown hn hB hBw hb hl hi
  unfold InsPost at HI
  go_enter Tryz.func79, Tryz.ntmps79
  go_wp2_with (first
    | (go_at_call 104; refine HI.out.mono ?_; rintro x1 w1 ⟨v1, rfl, hown1, hb1⟩; have HO1 := Lib.hid hown1; have HB1 := Lib.hid hb1; clear hown1 hb1)
    | fail)
  go_ret
  exact ⟨v1, rfl, HO1.out, HB1.out⟩
set_option maxRecDepth 100000 in
set_option maxHeartbeats 2000000 in
/-- the step that takes away -/
theorem without_any (a : Option Addr) (n c base B i : Nat) (l : List Int) (k r s : Int) (w0 w : World) (hown : w.ownsRow base 21 1 (.slice a n c) n (rv l)) (hn : l.length = n) (hi : i < n) (hB : B ≤ base) (hBw : base ≤ w.heap.size) (hb : Below B w0 w) (hl : n ≤ 100000) :
    Calls Tryz.prog 80 #[.slice a n c, .agg #[.int .i64 k, .int .i64 i, .int .i32 r, .int .i64 s]] w (InsPost base B w0 (l.take i ++ l.drop (i + 1))) := by
  have HI := Lib.hid (delete_any a n c base B i l w0 (w.alloc (.cells #[.int .i64 k, .int .i64 i, .int .i32 r, .int .i64 s] 44)) (hown.alloc _) hn hi hB (by simp; omega) (hb.alloc (Nat.le_trans hB hBw) _))
  have hw1 : IntKind.i64.wrap ((i : Int) + 1) = (i : Int) + 1 := by rw [IntKind.wrap_i64]; omega
  clear hown hn hB hBw hb hl hi
  unfold InsPost at HI
  go_enter Tryz.func80, Tryz.ntmps80
  go_wp2_with (first
    | (go_at_call 105; refine HI.out.mono ?_; rintro x1 w1 ⟨v1, rfl, hown1, hb1⟩; have HO1 := Lib.hid hown1; have HB1 := Lib.hid hb1; clear hown1 hb1)
    | fail)
  go_ret
  exact ⟨v1, rfl, HO1.out, HB1.out⟩
theorem deed_out (w : World) : Calls Tryz.prog 42 #[.int .i64 2] w fun e w' => e = .returned (.func (.func 80) #[] #[]) ∧ w = w' := by
  go_enter Tryz.func42, Tryz.ntmps42
  go_wp2
  go_ret
  exact ⟨rfl, rfl⟩
end Go.Proofs.YthnedehihbploaaGreatDoor
/- path.Play of any steps that stay within the text -/
namespace Go.Proofs.YthnedehihbploaaGreatDoor
open Go.RowKit Go.Lib

/-- what one step makes of a text, and where it may be done -/
def st1 (g : List Int) (p : Pr) : List Int := if p.k = 1 then g.take p.at_.toNat ++ [p.r] ++ g.drop p.at_.toNat else g.take p.at_.toNat ++ g.drop (p.at_.toNat + 1)
def okS (g : List Int) (p : Pr) : Prop := (p.k = 1 ∧ 0 ≤ p.at_ ∧ p.at_ ≤ g.length) ∨ (p.k = 2 ∧ 0 ≤ p.at_ ∧ p.at_ < g.length)
def gS (P : List Pr) (k : Nat) : List Int := (P.take k).foldl st1 []
theorem gS_succ {P : List Pr} {k : Nat} (h : k < P.length) : gS P (k + 1) = st1 (gS P k) P[k] := by
  unfold gS
  rw [List.take_succ_eq_append_getElem h, List.foldl_append]
  rfl
theorem st1_len (g : List Int) (p : Pr) : (st1 g p).length ≤ g.length + 1 := by
  unfold st1
  split <;> simp <;> omega
theorem gS_len (P : List Pr) : ∀ k, k ≤ P.length → (gS P k).length ≤ k
  | 0, _ => by simp [gS]
  | k + 1, h => by
    rw [gS_succ (by omega)]
    have h1 := gS_len P k (by omega)
    have h2 := st1_len (gS P k) P[k]
    omega
set_option maxRecDepth 100000 in
set_option maxHeartbeats 16000000 in
theorem pPlay_ok (a : Option Addr) (cap : Nat) (l : List OpR) (w : World) (h : OpsAt w a l) (hc : l.length ≤ cap) (hr : rowP (OpR.os l)) (hP : ∀ k (hk : k < (allK (OpR.os l) l.length).length), okS (gS (allK (OpR.os l) l.length) k) (allK (OpR.os l) l.length)[k]) :
    Calls Tryz.prog 11 #[.slice a l.length cap] w (TextPost (Go.Proofs.YthnedehihbploaaGreatDoor.mk (gS (allK (OpR.os l) l.length) (allK (OpR.os l) l.length).length)) 0 w) := by
  have hl40 : l.length ≤ 40 := by have := hr.1; rw [os_len] at this; exact this
  have hml := allK_len hr l.length (by rw [os_len]; exact Nat.le_refl _)
  have HAL := Lib.hid (pAll_ok a cap l w h hc hr)
  unfold OfPost at HAL
  have HPP := Lib.hid hP
  unfold TextPost
  generalize allK (OpR.os l) l.length = P at *
  have HRT := Lib.hid (fun k (hk : k < P.length) => gS_succ hk)
  have HL0 := Lib.hid (show gS P 0 = [] from rfl)
  obtain ⟨m, hm⟩ : ∃ m, P.length = m := ⟨_, rfl⟩
  have HLE := Lib.hid (fun k (hk : k ≤ m) => gS_len P k (by omega))
  have HM := Lib.hid hm
  have HMB := Lib.hid (show m ≤ 16000 from by omega)
  have hmi : (m : Int) ≤ 16000 := by omega
  rw [hm]
  generalize gS P = F at *
  generalize l.length = n0 at *
  clear h hr hc hl40 hml hP hm
  go_enter Tryz.func11, Tryz.ntmps11
  go_wp2_with (first
    | (go_at_call 41; refine HAL.out.mono ?_; rintro x1 w1 ⟨v1, rfl, hown1, hb1⟩; obtain ⟨a1, c1, hv1, hp1, -⟩ := prims_own hown1; rw [HM.out] at hv1; subst hv1; have HP1 := Lib.hid hp1; have HB1 := Lib.hid hb1; clear hown1 hp1 hb1)
    | fail)
  go_loopw [6, 19] (fun s6 s19 wr => ∃ k : Nat, s19 = .int .i64 k ∧ k ≤ m ∧ wr.ownsRow w1.heap.size 21 1 s6 (F k).length (rv (F k)) ∧ Below w1.heap.size w1 wr) (fun _ s19 _ => m - (RowKit.intOf s19).toNat)
  case atStart => exact ⟨0, rfl, Nat.zero_le _, by rw [HL0.out]; exact World.ownsRow_nil _ _ _ _, Below.refl _ _⟩
  case round =>
    obtain ⟨k, rfl, hk, ho, hb⟩ := hrel
    have HB := Lib.hid hb
    by_cases hlt : k < m
    · have hkl : k < P.length := by rw [HM.out]; exact hlt
      obtain ⟨b, off, rfl, hbb, c0, c1x, c2, c3⟩ := (HP1.out.below hb).cell k hkl
      have HK := HPP.out k hkl
      have HT := Lib.hid (HRT.out k hkl)
      unfold okS at HK
      generalize P[k] = p at *
      obtain ⟨pk_, pa, pr, ps⟩ := p
      simp only at c0 c1x c2 c3 HK HT
      obtain ⟨n, hn⟩ : ∃ n, (F k).length = n := ⟨_, rfl⟩
      have HN := Lib.hid hn
      rw [hn] at ho HK
      obtain ⟨av, cv, hv⟩ := own_form ho
      subst hv
      have HO := Lib.hid ho
      clear ho hb hkl hn
      rcases HK with ⟨rfl, e2, e3⟩ | ⟨rfl, e2, e3⟩
      · have HKI := Lib.hid e3
        obtain ⟨i, rfl⟩ : ∃ i : Nat, pa = (i : Int) := ⟨pa.toNat, by omega⟩
        have HT2 := Lib.hid (show F (k + 1) = (F k).take i ++ [pr] ++ (F k).drop i from by rw [HT.out]; simp [st1])
        have hilt := (show i ≤ n from by have := HKI.out; omega)
        clear e2 e3 HT
        have HBA := Lib.hid ((Below.refl wr.heap.size wr).alloc (Nat.le_refl _) (.cells #[.int .i64 1, .int .i64 i, .int .i32 pr, .int .i64 ps] 44))
        have HXC := Lib.hid (show (wr.alloc (.cells #[.int .i64 1, .int .i64 i, .int .i32 pr, .int .i64 ps] 44)).cell? ⟨wr.heap.size, 0, none⟩ = some (.int .i64 1) ∧ (wr.alloc (.cells #[.int .i64 1, .int .i64 i, .int .i32 pr, .int .i64 ps] 44)).cell? ⟨wr.heap.size, 1, none⟩ = some (.int .i64 i) ∧ (wr.alloc (.cells #[.int .i64 1, .int .i64 i, .int .i32 pr, .int .i64 ps] 44)).cell? ⟨wr.heap.size, 2, none⟩ = some (.int .i32 pr) ∧ (wr.alloc (.cells #[.int .i64 1, .int .i64 i, .int .i32 pr, .int .i64 ps] 44)).cell? ⟨wr.heap.size, 3, none⟩ = some (.int .i64 ps) from ⟨by simp, by simp, by simp, by simp⟩)
        have HXL := Lib.hid (show wr.heap.size < (wr.alloc (.cells #[.int .i64 1, .int .i64 i, .int .i32 pr, .int .i64 ps] 44)).heap.size from by simp)
        have HOU := Lib.hid (owns_belE HO.out HBA.out)
        have HBU := Lib.hid (HB.out.trans (HBA.out.mono HB.out.size))
        go_upto_region 8 with fail
        clear c0 c1x c2 c3 hbb
        generalize wr.alloc (.cells #[.int .i64 1, .int .i64 i, .int .i32 pr, .int .i64 ps] 44) = wu at *
        generalize wr.heap.size = bx at *
        have HWI := Lib.hid (pgWith_any av n cv w1.heap.size w1.heap.size i (F k) 1 pr ps w1 wu.drew ((same_drew wu).owns HOU.out) HN.out hilt (Nat.le_refl _) HBU.out.size HBU.out.drew (by have := HMB.out; have := HLE.out k (by omega); have := HN.out; omega))
        unfold InsPost at HWI
        obtain ⟨x0, x1', x2, x3⟩ : wu.drew.cell? ⟨bx, 0, none⟩ = some (.int .i64 1) ∧ wu.drew.cell? ⟨bx, 1, none⟩ = some (.int .i64 i) ∧ wu.drew.cell? ⟨bx, 2, none⟩ = some (.int .i32 pr) ∧ wu.drew.cell? ⟨bx, 3, none⟩ = some (.int .i64 ps) := HXC.out
        have xl : bx < wu.drew.heap.size := HXL.out
        have HDE := Lib.hid (deed_in wu.drew)
        clear hilt
        refine wp_region_still_tail 5 (by kernel_rfl) (by kernel_rfl) ?_
        change wpStill _ _ wu.drew (fun a' => wpList _ _ _ _ a' wu.drew) _ _
        generalize wu.drew = wd at *
        simp only [List.take_succ_cons, List.take_zero, List.drop_succ_cons, List.drop_zero]
        iterate 2 still_step
        still_call (HDE.out.mono fun e w9 h => ⟨h.1, h.2.symm⟩)
        repeat still_step
        refine wpStill_nil ?_
        go_wp2_with (first
          | (go_at_call 79; refine HWI.out.mono ?_; rintro x6 w6 ⟨v6, rfl, hown6, hb6⟩; have HO6 := Lib.hid hown6; have HB6 := Lib.hid hb6; clear hown6 hb6)
          | fail)
        go_roundw
        case rel => exact ⟨k + 1, by go_num, by omega, by rw [HT2.out]; exact HO6.out, HB6.out⟩
        case measure => simp [RowKit.intOf]; omega
      · have HKI := Lib.hid e3
        obtain ⟨i, rfl⟩ : ∃ i : Nat, pa = (i : Int) := ⟨pa.toNat, by omega⟩
        have HT2 := Lib.hid (show F (k + 1) = (F k).take i ++ (F k).drop (i + 1) from by rw [HT.out]; simp [st1])
        have hilt := (show i < n from by have := HKI.out; omega)
        clear e2 e3 HT
        have HBA := Lib.hid ((Below.refl wr.heap.size wr).alloc (Nat.le_refl _) (.cells #[.int .i64 2, .int .i64 i, .int .i32 pr, .int .i64 ps] 44))
        have HXC := Lib.hid (show (wr.alloc (.cells #[.int .i64 2, .int .i64 i, .int .i32 pr, .int .i64 ps] 44)).cell? ⟨wr.heap.size, 0, none⟩ = some (.int .i64 2) ∧ (wr.alloc (.cells #[.int .i64 2, .int .i64 i, .int .i32 pr, .int .i64 ps] 44)).cell? ⟨wr.heap.size, 1, none⟩ = some (.int .i64 i) ∧ (wr.alloc (.cells #[.int .i64 2, .int .i64 i, .int .i32 pr, .int .i64 ps] 44)).cell? ⟨wr.heap.size, 2, none⟩ = some (.int .i32 pr) ∧ (wr.alloc (.cells #[.int .i64 2, .int .i64 i, .int .i32 pr, .int .i64 ps] 44)).cell? ⟨wr.heap.size, 3, none⟩ = some (.int .i64 ps) from ⟨by simp, by simp, by simp, by simp⟩)
        have HXL := Lib.hid (show wr.heap.size < (wr.alloc (.cells #[.int .i64 2, .int .i64 i, .int .i32 pr, .int .i64 ps] 44)).heap.size from by simp)
        have HOU := Lib.hid (owns_belE HO.out HBA.out)
        have HBU := Lib.hid (HB.out.trans (HBA.out.mono HB.out.size))
        go_upto_region 8 with fail
        clear c0 c1x c2 c3 hbb
        generalize wr.alloc (.cells #[.int .i64 2, .int .i64 i, .int .i32 pr, .int .i64 ps] 44) = wu at *
        generalize wr.heap.size = bx at *
        have HWI := Lib.hid (without_any av n cv w1.heap.size w1.heap.size i (F k) 2 pr ps w1 wu.drew ((same_drew wu).owns HOU.out) HN.out hilt (Nat.le_refl _) HBU.out.size HBU.out.drew (by have := HMB.out; have := HLE.out k (by omega); have := HN.out; omega))
        unfold InsPost at HWI
        obtain ⟨x0, x1', x2, x3⟩ : wu.drew.cell? ⟨bx, 0, none⟩ = some (.int .i64 2) ∧ wu.drew.cell? ⟨bx, 1, none⟩ = some (.int .i64 i) ∧ wu.drew.cell? ⟨bx, 2, none⟩ = some (.int .i32 pr) ∧ wu.drew.cell? ⟨bx, 3, none⟩ = some (.int .i64 ps) := HXC.out
        have xl : bx < wu.drew.heap.size := HXL.out
        have HDE := Lib.hid (deed_out wu.drew)
        clear hilt
        refine wp_region_still_tail 5 (by kernel_rfl) (by kernel_rfl) ?_
        change wpStill _ _ wu.drew (fun a' => wpList _ _ _ _ a' wu.drew) _ _
        generalize wu.drew = wd at *
        simp only [List.take_succ_cons, List.take_zero, List.drop_succ_cons, List.drop_zero]
        iterate 2 still_step
        still_call (HDE.out.mono fun e w9 h => ⟨h.1, h.2.symm⟩)
        repeat still_step
        refine wpStill_nil ?_
        go_wp2_with (first
          | (go_at_call 80; refine HWI.out.mono ?_; rintro x6 w6 ⟨v6, rfl, hown6, hb6⟩; have HO6 := Lib.hid hown6; have HB6 := Lib.hid hb6; clear hown6 hb6)
          | fail)
        go_roundw
        case rel => exact ⟨k + 1, by go_num, by omega, by rw [HT2.out]; exact HO6.out, HB6.out⟩
        case measure => simp [RowKit.intOf]; omega
    · have h0 : k = m := by omega
      subst h0
      have hcv := conv_page ho rfl
      clear ho hb
      go_wp2_with fail
      go_ret2
      exact ⟨rfl, HB1.out.trans (HB.out.mono HB1.out.size)⟩
end Go.Proofs.YthnedehihbploaaGreatDoor
/- pure: the steps of an op, played on the text ahead of it, stay within it and make the text behind it; those of a row make its text -/
namespace Go.Proofs.YthnedehihbploaaGreatDoor

/-- a step that may be done: what is taken away is the rune that stands there -/
def okX (g : List Int) (p : Pr) : Prop := (p.k = 1 ∧ 0 ≤ p.at_ ∧ p.at_ ≤ g.length) ∨ (p.k = 2 ∧ 0 ≤ p.at_ ∧ p.at_ < g.length ∧ g[p.at_.toNat]? = some p.r)
def okL : List Int → List Pr → Prop
  | _, [] => True
  | g, p :: r => okX g p ∧ okL (st1 g p) r
theorem okL_append : ∀ (P Q : List Pr) (g : List Int), okL g (P ++ Q) ↔ okL g P ∧ okL (P.foldl st1 g) Q
  | [], _, _ => by simp [okL]
  | p :: P, Q, g => by
    show okX g p ∧ okL (st1 g p) (P ++ Q) ↔ (okX g p ∧ okL (st1 g p) P) ∧ okL (P.foldl st1 (st1 g p)) Q
    rw [okL_append P Q (st1 g p), and_assoc]
theorem outs_play (V : List El) (c : El → Bool) (rn : El → Int) (G : Nat → Pr) (s : Int) (hG : ∀ i (h : i < V.length), G i = ⟨2, i, rn V[i], s⟩) : ∀ n, n ≤ V.length → ∀ T : List Int,
    okL ((V.take n).map rn ++ T) (pk V c G n).reverse ∧ (pk V c G n).reverse.foldl st1 ((V.take n).map rn ++ T) = ((V.take n).filter (fun e => !c e)).map rn ++ T
  | 0, _, T => by simp [pk_zero, okL]
  | n + 1, hn, T => by
    have hn' : n < V.length := by omega
    have hlen : ((V.take n).map rn).length = n := by rw [List.length_map, List.length_take]; omega
    have htx : (V.take (n + 1)).map rn ++ T = (V.take n).map rn ++ (rn V[n] :: T) := by
      rw [List.take_succ_eq_append_getElem hn', List.map_append, List.append_assoc]; rfl
    rw [pk_succ, List.reverse_append, pk1_rev, pk1_at hn', htx, List.take_succ_eq_append_getElem hn', List.filter_append]
    by_cases hc : c V[n] = true
    · rw [if_pos hc, List.singleton_append, hG n hn']
      have hst : st1 ((V.take n).map rn ++ (rn V[n] :: T)) ⟨2, n, rn V[n], s⟩ = (V.take n).map rn ++ T := by
        unfold st1
        rw [if_neg (by simp)]
        simp only [Int.toNat_natCast]
        rw [List.take_left' hlen, List.drop_append, hlen, List.drop_eq_nil_of_le (by omega), show n + 1 - n = 1 by omega]
        simp
      obtain ⟨h1, h2⟩ := outs_play V c rn G s hG n (by omega) T
      refine ⟨⟨Or.inr ⟨rfl, by simp, by simp; omega, ?_⟩, by rw [hst]; exact h1⟩, ?_⟩
      · simp only [Int.toNat_natCast]
        rw [List.getElem?_append_right (by omega), hlen, Nat.sub_self]
        rfl
      · rw [List.foldl_cons, hst, h2]
        simp [hc]
    · rw [if_neg hc, List.nil_append]
      obtain ⟨h1, h2⟩ := outs_play V c rn G s hG n (by omega) (rn V[n] :: T)
      refine ⟨h1, ?_⟩
      rw [h2]
      simp [hc]
theorem ins_play (V : List El) (c : El → Bool) (rn : El → Int) (G : Nat → Pr) (s : Int) (hG : ∀ i (h : i < V.length), G i = ⟨1, i, rn V[i], s⟩) : ∀ n, n ≤ V.length →
    okL ((V.filter (fun e => !c e)).map rn) (pk V c G n) ∧ (pk V c G n).foldl st1 ((V.filter (fun e => !c e)).map rn) = (V.take n).map rn ++ ((V.drop n).filter (fun e => !c e)).map rn
  | 0, _ => by simp [pk_zero, okL]
  | n + 1, hn => by
    have hn' : n < V.length := by omega
    have hlen : ((V.take n).map rn).length = n := by rw [List.length_map, List.length_take]; omega
    obtain ⟨h1, h2⟩ := ins_play V c rn G s hG n (by omega)
    rw [pk_succ, pk1_at hn', okL_append, List.foldl_append, h2, List.drop_eq_getElem_cons hn', List.take_succ_eq_append_getElem hn']
    by_cases hc : c V[n] = true
    · rw [if_pos hc, hG n hn', List.filter_cons_of_neg (by simp [hc])]
      have hst : st1 ((V.take n).map rn ++ ((V.drop (n + 1)).filter (fun e => !c e)).map rn) ⟨1, n, rn V[n], s⟩ = (V.take n ++ [V[n]]).map rn ++ ((V.drop (n + 1)).filter (fun e => !c e)).map rn := by
        unfold st1
        rw [if_pos rfl]
        simp only [Int.toNat_natCast]
        rw [List.take_left' hlen, List.drop_left' hlen, List.map_append]
        rfl
      exact ⟨⟨h1, ⟨Or.inl ⟨rfl, by simp, by simp; omega⟩, trivial⟩⟩, by rw [List.foldl_cons, List.foldl_nil, hst]⟩
    · rw [if_neg hc, List.filter_cons_of_pos (by simp [hc])]
      exact ⟨⟨h1, trivial⟩, by rw [List.map_append, List.append_assoc]; rfl⟩
/-- what is seen ahead and behind stands in one order -/
theorem same_both {l : List OpD} {o : OpD} (h : okRow (l ++ [o])) : (visE l).filter (fun e => !lk (visE (l ++ [o])) e) = (visE (l ++ [o])).filter (fun e => !lk (visE l) e) := by
  obtain ⟨h0, ht⟩ := eRow_snoc h
  have hs := stays_filter (erow_inv h0) ht
  have hl : visE l = (ordE (l ++ [o])).filter (fun e => decide (e ∈ ordE l) && vis l e) := by
    have h1 : visE l = ((ordE (l ++ [o])).filter (fun e => decide (e ∈ ordE l))).filter (vis l) := by rw [hs]; rfl
    rw [h1, List.filter_filter]
    exact List.filter_congr (fun e _ => Bool.and_comm _ _)
  have hm : ∀ e, e ∈ visE l ↔ e ∈ ordE l ∧ vis l e = true := fun e => List.mem_filter
  have hm2 : ∀ e, e ∈ visE (l ++ [o]) ↔ e ∈ ordE (l ++ [o]) ∧ vis (l ++ [o]) e = true := fun e => List.mem_filter
  have e1 : (visE l).filter (fun e => !lk (visE (l ++ [o])) e) = (ordE (l ++ [o])).filter (fun e => decide (e ∈ visE l) && decide (e ∈ visE (l ++ [o]))) := by
    conv => lhs; arg 2; rw [hl]
    rw [List.filter_filter]
    refine List.filter_congr (fun e _ => ?_)
    rw [Bool.eq_iff_iff]
    simp only [lk, Bool.not_not, Bool.and_eq_true, decide_eq_true_eq, hm e]
    exact and_comm
  rw [e1]
  unfold visE
  rw [List.filter_filter]
  refine List.filter_congr (fun e he => ?_)
  rw [Bool.eq_iff_iff]
  simp only [lk, Bool.not_not, Bool.and_eq_true, decide_eq_true_eq, List.mem_filter]
  constructor
  · rintro ⟨h1, h2⟩; exact ⟨h1, h2.2⟩
  · rintro ⟨h1, h2⟩; exact ⟨h1, he, h2⟩
/-- the steps of an op, on the text ahead of it -/
theorem path_play {l : List OpD} {o : OpD} (h : okRow (l ++ [o])) : okL (visR l) (pathP l o) ∧ (pathP l o).foldl st1 (visR l) = visR (l ++ [o]) := by
  have hv : visR l = (visE l).map (rnE (l ++ [o])) := by
    unfold visR
    exact List.map_congr_left (fun e he => (rnE_old h (visE_ord he)).symm)
  obtain ⟨h1, h2⟩ := outs_play (visE l) (lk (visE (l ++ [o]))) (rnE (l ++ [o])) (gOut l o.site) o.site (fun i hi => gOut_is h _ hi) (visE l).length (Nat.le_refl _) []
  obtain ⟨h3, h4⟩ := ins_play (visE (l ++ [o])) (lk (visE l)) (rnE (l ++ [o])) (gIn (l ++ [o]) o.site) o.site (fun i hi => gIn_is _ hi) (visE (l ++ [o])).length (Nat.le_refl _)
  rw [List.take_length, List.append_nil, ← hv] at h1 h2
  rw [List.take_length, List.drop_length] at h4
  rw [List.append_nil, same_both h] at h2
  unfold pathP
  rw [okL_append, List.foldl_append]
  unfold outP inP
  rw [h2]
  refine ⟨⟨h1, h3⟩, ?_⟩
  rw [h4]
  simp [visR]
theorem all_play {D : List OpD} (hr : rowP D) : ∀ k, k ≤ D.length → okL [] (allK D k) ∧ (allK D k).foldl st1 [] = visR (D.take k)
  | 0, _ => by
    rw [allK_zero]
    exact ⟨trivial, by rw [List.take_zero]; rfl⟩
  | k + 1, hk => by
    obtain ⟨h1, h2⟩ := all_play hr k (by omega)
    obtain ⟨h3, h4⟩ := path_play (row_upto hr (show k < D.length by omega)).2.2
    rw [allK_succ (by omega), okL_append, List.foldl_append, h2, List.take_succ_eq_append_getElem (by omega)]
    exact ⟨⟨h1, h3⟩, h4⟩
theorem okL_at {P : List Pr} (h : okL [] P) (k : Nat) (hk : k < P.length) : okS (gS P k) P[k] := by
  have h1 : P = P.take k ++ P[k] :: P.drop (k + 1) := by
    rw [← List.drop_eq_getElem_cons hk, List.take_append_drop]
  rw [h1, okL_append] at h
  rcases h.2.1 with h2 | ⟨h2, h3, h4, _⟩
  · exact Or.inl h2
  · exact Or.inr ⟨h2, h3, h4⟩
/-- path.Play of a row that may be -/
theorem pPlay_text (a : Option Addr) (cap : Nat) (l : List OpR) (w : World) (h : OpsAt w a l) (hc : l.length ≤ cap) (hr : rowP (OpR.os l)) :
    Calls Tryz.prog 11 #[.slice a l.length cap] w (TextPost (Go.Proofs.YthnedehihbploaaGreatDoor.mk (visR (OpR.os l))) 0 w) := by
  obtain ⟨h1, h2⟩ := all_play hr l.length (by rw [os_len]; exact Nat.le_refl _)
  have h3 := pPlay_ok a cap l w h hc hr (fun k hk => okL_at h1 k hk)
  have h4 : gS (allK (OpR.os l) l.length) (allK (OpR.os l) l.length).length = visR (OpR.os l) := by
    unfold gS
    rw [List.take_length, h2, List.take_of_length_le (by rw [os_len]; exact Nat.le_refl _)]
  rw [h4] at h3
  exact h3
end Go.Proofs.YthnedehihbploaaGreatDoor
/- lectionaryref0.CopyRunes; the steps of one op, each at the text that is then -/
namespace Go.Proofs.YthnedehihbploaaGreatDoor
open Go.RowKit Go.Lib

def ROwnPost (l : List Int) (w : World) (e : Ending) (w' : World) : Prop := ∃ v, e = .returned v ∧ w'.ownsRow w.heap.size 21 1 v l.length (rv l) ∧ Below w.heap.size w w'
set_option maxRecDepth 100000 in
set_option maxHeartbeats 1000000 in
theorem CopyRunes_any (a : Option Addr) (ca : Nat) (l : List Int) (w : World) (ha : RunesAt w a l) (hl : l.length ≤ 100000) : Calls Tryz.prog 15 #[.slice a l.length ca] w (ROwnPost l w) := by
  obtain ⟨i0, hi, hz0, hz1, hz2⟩ := info_parts Tryz.info21
  have HA := Lib.hid ha
  clear ha
  go_enter Tryz.func15, Tryz.ntmps15
  go_wp2
  go_loopw [3, 4] (fun v i wr => ∃ k : Nat, k ≤ l.length ∧ i = .int .i64 k ∧ wr.ownsRow w.heap.size 21 1 v k (rv (l.take k)) ∧ Below w.heap.size w wr) (fun _ i _ => l.length - (RowKit.intOf i).toNat)
  case atStart => exact ⟨0, by omega, rfl, World.ownsRow_nil _ _ _ _, Below.refl _ _⟩
  case round =>
    obtain ⟨k, hk, rfl, hown, hbel⟩ := hrel
    by_cases hlt : k < l.length
    · obtain ⟨b1, o1, h1, hb1, hc1⟩ := HA.out.cell k hlt
      have hr1 := (hbel.cell (p := ⟨b1, o1 + k, none⟩) hb1).trans hc1
      have HT := Lib.hid (show rv (l.take (k + 1)) = rv (l.take k) ++ [.int .i32 l[k]] from by rw [List.take_succ_eq_append_getElem hlt, rv_snoc])
      clear hc1
      generalize l[k] = e at *
      subst h1
      have c2 : k + 1 ≤ maxLen := by unfold maxLen; omega
      have c3 : (k + 1) * 4 ≤ 140737488355328 := by omega
      go_wp2_with (first | (at_builtin; refine wpList_append_own _ rfl _ _ 40 rfl w.heap.size 21 i0 (.int .i32 0) 1 4 Tryz.underlying40 hi hz0 hz1 hz2 rfl (by decide) _ _ _ rfl (hown.alloc _) ⟨wr.heap.size, 0, none⟩ 1 1 [.int .i32 e] rfl rfl (cell_one_new _ _ _) (oneInt _ _) c2 c3 (by have := hbel.size; simp; omega) ?_) | fail)
      intro v2 w2 hown2 hgrow2 _
      have hb2 : Below w.heap.size w w2 := (hbel.alloc hbel.size _).grown hgrow2 (by have := hbel.size; simp; omega) (own_ge hown)
      have hown3 : w2.ownsRow w.heap.size 21 1 v2 (k + 1) (rv (l.take (k + 1))) := by
        rw [HT.out]
        exact hown2
      clear hown hown2 hgrow2
      go_wp2
      go_roundw
      case rel => exact ⟨k + 1, by omega, by go_num, hown3, hb2⟩
      case measure => simp [RowKit.intOf]; omega
    · have hown3 : wr.ownsRow w.heap.size 21 1 u3 l.length (rv l) := by
        have h0 : k = l.length := by omega
        rw [h0, List.take_length] at hown
        exact hown
      have HO := Lib.hid hown3
      clear hown hown3
      go_wp2
      go_ret
      exact ⟨_, rfl, HO.out, hbel⟩
/-- the text ahead of the k-th step -/
def gF (g : List Int) (P : List Pr) (k : Nat) : List Int := (P.take k).foldl st1 g
theorem gF_succ {g : List Int} {P : List Pr} {k : Nat} (h : k < P.length) : gF g P (k + 1) = st1 (gF g P k) P[k] := by
  unfold gF
  rw [List.take_succ_eq_append_getElem h, List.foldl_append]
  rfl
theorem gF_len (g : List Int) (P : List Pr) : ∀ k, k ≤ P.length → (gF g P k).length ≤ g.length + k
  | 0, _ => by simp [gF]
  | k + 1, h => by
    rw [gF_succ (by omega)]
    have h1 := gF_len g P k (by omega)
    have h2 := st1_len (gF g P k) P[k]
    omega
theorem okX_at {g : List Int} {P : List Pr} (h : okL g P) (k : Nat) (hk : k < P.length) : okX (gF g P k) P[k] := by
  have h1 : P = P.take k ++ P[k] :: P.drop (k + 1) := by
    rw [← List.drop_eq_getElem_cons hk, List.take_append_drop]
  rw [h1, okL_append] at h
  exact h.2.1
/-- all that a loop over the steps of l's last op asks: from the text ahead to the text behind, step by step -/
theorem path_loop {l : List OpD} {o : OpD} (hr : rowP (l ++ [o])) : ∃ F : Nat → List Int, F 0 = visR l ∧ F (pathP l o).length = visR (l ++ [o]) ∧
    ∀ k (hk : k < (pathP l o).length), F (k + 1) = st1 (F k) (pathP l o)[k] ∧ okX (F k) (pathP l o)[k] ∧ (F k).length ≤ 600 := by
  obtain ⟨h1, h2⟩ := path_play hr.2
  have h3 : (pathP l o).length ≤ 400 := pathP_len ⟨by have := hr.1; simp at this; omega, (eRow_snoc hr.2).1⟩ hr
  refine ⟨gF (visR l) (pathP l o), rfl, by unfold gF; rw [List.take_length]; exact h2, fun k hk => ⟨gF_succ hk, okX_at h1 k hk, ?_⟩⟩
  have h4 := gF_len (visR l) (pathP l o) k (by omega)
  have h5 := visE_le (eRow_snoc hr.2).1
  rw [visR_len] at h4
  omega
end Go.Proofs.YthnedehihbploaaGreatDoor
