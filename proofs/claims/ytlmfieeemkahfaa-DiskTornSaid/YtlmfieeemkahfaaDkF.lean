/- slices.Repeat at one text; disk.New, the page's New -/
import Derived.Test.YtlmfieeemkahfaaDkE
namespace Go.Proofs.Ytlmfieeemkahfaa
open Go.RowKit Go.Lib

theorem below_setCells {B g : Nat} {w0 : World} (hg : B ≤ g) : ∀ (vs : List Value) (o : Nat) (w : World), Below B w0 w → Below B w0 (w.setCells g o vs)
  | [], _, _, h => h
  | v :: r, o, _, h => below_setCells hg r (o + 1) _ (h.setCell hg v)
theorem owns_sets1 {t : TypeId} {base g n cap : Nat} : ∀ (vs : List Value) (o : Nat) (w : World) (xs : List Value), w.ownsRow base t 1 (.slice (some ⟨g, 0, none⟩) n cap) n xs →
    ∃ xs', (w.setCells g o vs).ownsRow base t 1 (.slice (some ⟨g, 0, none⟩) n cap) n xs' ∧ ∀ j, j < n → xs'[j]? = if o ≤ j ∧ j < o + vs.length then vs[j - o]? else xs[j]?
  | [], o, w, xs, h => ⟨xs, h, fun j _ => by rw [if_neg (by simp)]⟩
  | v :: r, o, w, xs, h => by
    obtain ⟨xs', h1, h2⟩ := owns_sets1 r (o + 1) (w.setCell ⟨g, o, none⟩ v) _ (h.stored o v).1
    have hl : xs.length = n := by have := h.1; omega
    refine ⟨xs', h1, fun j hj => ?_⟩
    rw [h2 j hj, List.length_cons]
    by_cases hjo : j = o
    · subst hjo
      rw [if_neg (by omega), if_pos (by omega), Nat.sub_self, List.getElem?_set_self (by omega)]
      rfl
    · by_cases hlt : o ≤ j ∧ j < o + (r.length + 1)
      · rw [if_pos (by omega), if_pos hlt, show j - o = (j - (o + 1)) + 1 by omega, List.getElem?_cons_succ]
      · rw [if_neg (by omega), if_neg hlt, List.getElem?_set_ne (by omega)]
/-- m texts, the first n of them s -/
structure RepP (base : Nat) (w0 w : World) (g n m : Nat) (s : ByteArray) : Prop where
  row : ∃ xs, w.ownsRow base 9 1 (.slice (some ⟨g, 0, none⟩) m m) m xs ∧ ∀ j, j < m → xs[j]? = some (.string (if j < n then s else ⟨#[]⟩))
  below : Below base w0 w
  le : base ≤ g
theorem rep_step {base : Nat} {w0 w : World} {g n m : Nat} {s : ByteArray} (h : RepP base w0 w g n m s) (o q : Nat) (ho : o ≤ n) (hn : n ≤ o + q) : RepP base w0 (w.setCells g o (svs (List.replicate q s))) g (o + q) m s := by
  obtain ⟨xs, hx, hv⟩ := h.row
  obtain ⟨xs', h1, h2⟩ := owns_sets1 (svs (List.replicate q s)) o w xs hx
  refine ⟨⟨xs', h1, fun j hj => ?_⟩, below_setCells h.le _ _ _ h.below, h.le⟩
  rw [h2 j hj]
  have hl : (svs (List.replicate q s)).length = q := by rw [svs_length, List.length_replicate]
  rw [hl]
  by_cases hin : o ≤ j ∧ j < o + q
  · rw [if_pos hin, svs_get (by rw [List.length_replicate]; omega), List.getElem_replicate, if_pos hin.2]
  · rw [if_neg hin, hv j hj]
    by_cases hj2 : j < n
    · rw [if_pos hj2, if_pos (by omega)]
    · rw [if_neg hj2, if_neg (by omega)]
theorem rep_src {base : Nat} {w0 w W : World} {g n m : Nat} {s : ByteArray} (h : RepP base w0 w g n m s) (hW : ∀ x, W.cell? x = w.cell? x) (q : Nat) (hq : q ≤ n) (hm : n ≤ m) : ∀ j v, (svs (List.replicate q s))[j]? = some v → W.cell? ((⟨g, 0, none⟩ : Addr).add j) = some v := by
  obtain ⟨xs, hx, hv⟩ := h.row
  intro j v hj
  have hjq : j < q := by have := (List.getElem?_eq_some_iff.1 hj).1; rw [svs_length, List.length_replicate] at this; exact this
  rw [Addr.add_lit, Nat.zero_add, hW, hx.cellAt j (by omega), hv j (by omega), if_pos (by omega), ← hj, svs_get (by rw [List.length_replicate]; exact hjq), List.getElem_replicate]
theorem rep_some {base : Nat} {w0 w W : World} {g n m : Nat} {s : ByteArray} (h : RepP base w0 w g n m s) (hW : ∀ x, W.cell? x = w.cell? x) : ∀ j, j < m → (W.cell? ⟨g, j, none⟩).isSome = true := by
  obtain ⟨xs, hx, hv⟩ := h.row
  intro j hj
  rw [hW, hx.cellAt j (by omega), hv j hj]
  rfl
theorem rep_fr {base : Nat} {w0 w W : World} {g n m : Nat} {s : ByteArray} (h : RepP base w0 w g n m s) (hW : ∀ x, W.frozen? x = w.frozen? x) : ∀ j, W.frozen? ⟨g, j, none⟩ = false := by
  obtain ⟨xs, hx, hv⟩ := h.row
  intro j
  rw [hW]
  exact hx.frozenAt j
theorem rep_drew {base : Nat} {w0 w : World} {g n m : Nat} {s : ByteArray} (h : RepP base w0 w g n m s) : RepP base w0 w.drew g n m s := by
  obtain ⟨xs, hx, hv⟩ := h.row
  exact ⟨⟨xs, hx.drew, hv⟩, h.below.drew, h.le⟩
theorem rep_done {base : Nat} {w0 w : World} {g m : Nat} {s : ByteArray} (h : RepP base w0 w g m m s) (hs : s.size ≤ BIG) (hm : m ≤ BIG) : OwnS base w (.slice (some ⟨g, 0, none⟩) m m) (List.replicate m s) := by
  obtain ⟨xs, hx, hv⟩ := h.row
  have hl : xs.length = m := by have := hx.1; omega
  have he : xs = svs (List.replicate m s) := by
    apply List.ext_getElem?
    intro j
    by_cases hj : j < m
    · rw [hv j hj, if_pos hj, svs_get (by rw [List.length_replicate]; exact hj), List.getElem_replicate]
    · rw [List.getElem?_eq_none (by omega), List.getElem?_eq_none (by rw [svs_length, List.length_replicate]; omega)]
  refine ⟨by rw [List.length_replicate, ← he]; exact hx, fun x hx => by rw [List.eq_of_mem_replicate hx]; exact hs, by rw [List.length_replicate]; exact hm⟩
theorem one_svs (q : Nat) (s : ByteArray) : ∀ v ∈ svs (List.replicate q s), v.oneCell' = true := fun u hu => by obtain ⟨x, _, rfl⟩ := List.mem_map.1 hu; rfl
theorem szStr : (Try.prog.info? 9).map (·.size) = some 1 := by
  obtain ⟨i0, hi0, h0, h1, h2⟩ := info_parts Try.infoStr
  rw [hi0]; simp [h1]
theorem Mul_one (m : Nat) (hm : m ≤ 1000) (w : World) : Calls Try.prog 49 #[.int .u64 1, .int .u64 m] w fun e w' => e = .returned (.tuple #[.int .u64 0, .int .u64 m]) ∧ w = w' := by
  have h := Go.Proofs.Any.bits_Mul { Try.srep with } 1 m (by decide) (by omega) w
  refine Calls.mono h ?_
  rintro e w' ⟨rfl, rfl⟩
  rw [Nat.one_mul, Nat.div_eq_of_lt (by omega), Nat.mod_eq_of_lt (by omega)]
  exact ⟨rfl, rfl⟩
set_option maxRecDepth 100000 in
set_option maxHeartbeats 4000000 in
theorem sRep_any (g c m : Nat) (s : ByteArray) (w : World) (hg : Hp 9 w g #[.string s]) (h1 : 1 ≤ m) (hm : m ≤ 1000) (hs : s.size ≤ BIG) :
    Calls Try.prog 26 #[.slice (some ⟨g, 0, none⟩) 1 c, .int .i64 m] w fun e w' => ∃ v, e = .returned v ∧ OwnS w.heap.size w' v (List.replicate m s) ∧ Below w.heap.size w w' := by
  obtain ⟨i0, hi, hz0, hz1, hz2⟩ := info_parts Try.infoStr
  have HMUL := Lib.hid (fun wx => Mul_one m hm wx)
  have e1 : IntKind.u64.wrap (m : Int) = (m : Int) := IntWalk.u64_in _ (by omega)
  have e2 : IntKind.i64.wrap (m : Int) = (m : Int) := IntWalk.i64_in _ (by omega)
  have e3 : IntKind.u64.wrap 1 = 1 := IntWalk.u64_in _ (by omega)
  have e4 : ¬ ((9223372036854775807 : Int) < (m : Int)) := by omega
  have e5 : ¬ ((m : Int) < 0) := by omega
  have hb0 : i0.bytes * m ≤ 281474976710656 := by rw [hz2]; omega
  have HB0 := Lib.hid hb0
  have hb1 : m ≤ maxLen := by unfold maxLen; omega
  have HG := Lib.hid hg
  have HS := Lib.hid hs
  have HM := Lib.hid hm
  have hglt := hg.lt
  clear hb0 hs hm hg
  go_enter Try.func26, Try.ntmps26
  go_wp2_with (first
    | (go_at_call 49; refine (HMUL.out _).mono ?_; rintro e w2 ⟨rfl, rfl⟩)
    | (at_make; refine wpList_make_full _ rfl _ _ 22 rfl w.heap.size 9 i0 (.string ⟨#[]⟩) 1 Try.underlying22 hi hz0 hz1 _ _ _ _ m rfl rfl rfl rfl HB0.out hb1 (Nat.le_refl _) ?_)
    | fail)
  intro w2 hown hgrow
  have hb2 : Below w.heap.size w w2 := (Below.refl _ _).grown hgrow (Nat.le_refl _) (fun k hk => by cases hk)
  have HR := Lib.hid (show RepP w.heap.size w w2 w.heap.size 0 m s from ⟨⟨_, hown, fun j hj => by simp [madeCells, Nat.mod_one, hj]⟩, hb2, Nat.le_refl _⟩)
  have HG2 := Lib.hid (HG.out.step hb2)
  have hcp : ∀ ty, (Builtin.copy_ #[22, 22] ty #[.slice (some ⟨w.heap.size, 0, none⟩) m m, .slice (some ⟨g, 0, none⟩) 1 c]).run Try.prog w2 = .ok (.int .i64 1) (w2.setCells w.heap.size 0 (svs [s])) := fun ty =>
    run_copy_cells w2 _ _ ty 9 w.heap.size 0 m m ⟨g, 0, none⟩ 1 c (svs (List.replicate 1 s)) Try.underlying22 szStr (by rw [svs_length, List.length_replicate]; simp only [Nat.min_def]; split <;> omega)
      (fun j v hj => by
        have hj0 : j = 0 := by have := (List.getElem?_eq_some_iff.1 hj).1; rw [svs_length, List.length_replicate] at this; omega
        subst hj0
        rw [Addr.add_lit, HG2.out.cell 0 rfl, ← hj]
        rfl)
      (fun j hj => by rw [Nat.zero_add]; exact rep_some HR.out (fun _ => rfl) j (by rw [svs_length, List.length_replicate] at hj; omega)) (fun j hj => rep_fr HR.out (fun _ => rfl) _) (one_svs 1 s)
  have HR1 : RowKit.Hid (RepP w.heap.size w (w2.setCells w.heap.size 0 (svs [s])) w.heap.size 1 m s) := Lib.hid (rep_step HR.out 0 1 (Nat.le_refl _) (by omega))
  clear hown hgrow hb2
  go_wp2_with (first
    | (at_builtin; refine wpList_copy_runI _ rfl _ _ 22 22 rfl _ _ rfl rfl (hcp _) ?_)
    | fail)
  clear hcp HR HG2 HG HB0
  generalize w2.setCells w.heap.size 0 (svs [s]) = w3 at *
  have mixed : Try.prog.follows Departure.mixedOrders = true := by kernel_rfl
  go_loopw [8] (fun s8 wr => ∃ n : Nat, s8 = .int .i64 n ∧ 1 ≤ n ∧ n ≤ m ∧ RepP w.heap.size w wr w.heap.size n m s) (fun s8 _ => m - (RowKit.intOf s8).toNat)
  case atStart => exact ⟨1, rfl, Nat.le_refl _, h1, HR1.out⟩
  case round =>
    obtain ⟨n, rfl, hn1, hnm, hr⟩ := hrel
    have HRR := Lib.hid hr
    clear hr HR1
    have hm9 := HM.out
    by_cases hlt : n < m
    · obtain ⟨q, hq⟩ : ∃ q, Nat.min n (m - n) = q := ⟨_, rfl⟩
      have hq1 : q ≤ n ∧ n + q ≤ m ∧ 1 ≤ q := by simp only [Nat.min_def] at hq; split at hq <;> omega
      obtain ⟨hqn, hqm, hq0⟩ := hq1
      have hcp : ∀ ty dc, (Builtin.copy_ #[22, 22] ty #[.slice (some ⟨w.heap.size, n, none⟩) (m - n) dc, .slice (some ⟨w.heap.size, 0, none⟩) n m]).run Try.prog wr.drew = .ok (.int .i64 q) (wr.drew.setCells w.heap.size n (svs (List.replicate q s))) := fun ty dc => by
        have h9 := run_copy_cells (P := Try.prog) wr.drew 22 22 ty 9 w.heap.size n (m - n) dc ⟨w.heap.size, 0, none⟩ n m (svs (List.replicate q s)) Try.underlying22 szStr (by rw [svs_length, List.length_replicate]; exact hq.symm)
          (rep_src HRR.out (fun _ => rfl) q hqn hnm)
          (fun j hj => by rw [svs_length, List.length_replicate] at hj; exact rep_some HRR.out (fun _ => rfl) (n + j) (by omega)) (fun j hj => rep_fr HRR.out (fun _ => rfl) _) (one_svs q s)
        rw [svs_length, List.length_replicate] at h9
        exact h9
      have HR2 := Lib.hid (rep_step (rep_drew HRR.out) n q (Nat.le_refl _) (by omega))
      have hw1 : IntKind.i64.wrap ((n : Int) + (q : Int)) = ((n + q : Nat) : Int) := by rw [IntKind.wrap_i64]; omega
      have hnl : (n : Int) ≤ (m : Int) := by omega
      have hb4 : ¬ (m = n) := by omega
      clear hq hqn HMUL HM
      go_upto_region 9 with fail
      go_region_law_o (refine step_copy_runI rfl _ _ 22 22 rfl _ _ (by simp [Act.eval, Act.put]) (by simp [Act.eval, Act.put]) (hcp _ _) ?_)
      all_goals
        clear hcp
        generalize wr.drew.setCells w.heap.size n (svs (List.replicate q s)) = w5 at *
        go_simp
        go_wp2
        refine ⟨⟨n + q, by rw [Int.natCast_add], by omega, hqm, HR2.out⟩, ?_⟩
        simp [RowKit.intOf]
        omega
    · have hnm2 : n = m := by omega
      subst hnm2
      have HD := Lib.hid (rep_done HRR.out HS.out (by unfold BIG; omega))
      go_wp2
      go_ret
      exact ⟨_, rfl, HD.out, HRR.out.below⟩
end Go.Proofs.Ytlmfieeemkahfaa
