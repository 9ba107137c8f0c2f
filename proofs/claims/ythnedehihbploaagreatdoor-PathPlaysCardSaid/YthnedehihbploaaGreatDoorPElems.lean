/- package op: Elems, Own -/
import Derived.Test.YthnedehihbploaaGreatDoorPCheck
namespace Go.Proofs.YthnedehihbploaaGreatDoor
open Go.RowKit Go.Lib

theorem okT_empty : okT ⟨#[]⟩ = true := by rfl
theorem okOp_text {o : OpD} (h : okOp o = true) : okT o.text = true ∧ nR o.text ≤ 12 ∧ o.text.size ≤ 48 := by
  have key : okTx o.text = true → okT o.text = true ∧ nR o.text ≤ 12 ∧ o.text.size ≤ 48 := fun ht => by
    have h3 := okTx_size ht
    unfold okTx at ht
    simp only [Bool.and_eq_true, decide_eq_true_eq] at ht
    exact ⟨ht.1, by unfold nR; rw [if_pos ht.1]; exact ht.2, h3⟩
  unfold okOp at h
  simp only [Bool.and_eq_true] at h
  obtain ⟨_, h⟩ := h
  split at h
  · unfold okEdit at h
    simp only [Bool.and_eq_true] at h
    exact key h.2.2.1
  · split at h
    · unfold okToggle at h
      simp only [Bool.and_eq_true] at h
      have he : o.text = ⟨#[]⟩ := of_decide_eq_true h.2.1
      rw [he]
      exact ⟨rfl, by decide, by decide⟩
    · cases h

/-- new memory that holds elements, and no error -/
def ElemsPost (l : List El) (w : World) (e : Ending) (w' : World) : Prop :=
  ∃ a cap, e = .returned (.tuple #[.slice a l.length cap, .int .i64 0]) ∧ w'.ownsRow w.heap.size 37 3 (.slice a l.length cap) l.length (ecs l) ∧ Below w.heap.size w w'
def NoElems (w : World) (e : Ending) (w' : World) : Prop := e = .returned (.tuple #[.slice none 0 0, .int .i64 1]) ∧ Below w.heap.size w w'

theorem mine_get (s q : Int) (n j : Nat) (h : j < (mine s q n).length) : (mine s q n)[j] = ⟨s, q, j⟩ := by simp [mine]
theorem fill_step {s q : Int} {n k : Nat} {ys : List Value} (hl : ys.length = 3 * n) (hk : k < n) (h : ∀ j, j < 3 * k → ys[j]? = (ecs (mine s q n))[j]?) :
    ∀ j, j < 3 * (k + 1) → (((ys.set (k * 3) (.int .i64 s)).set (k * 3 + 1) (.int .i64 q)).set (k * 3 + 2) (.int .i64 k))[j]? = (ecs (mine s q n))[j]? := by
  intro j hj
  have hkm : k < (mine s q n).length := by rw [mine_length]; exact hk
  have m := fun c hc => ecs_get (mine s q n) k c hkm hc
  rw [mine_get] at m
  simp only [List.getElem?_set]
  by_cases h2 : k * 3 + 2 = j
  · subst h2
    rw [m 2 (by decide)]
    simp [hl, El.cs]; omega
  · by_cases h1 : k * 3 + 1 = j
    · subst h1
      rw [m 1 (by decide)]
      simp [hl, El.cs]; omega
    · by_cases h0 : k * 3 = j
      · subst h0
        have := m 0 (by decide)
        rw [Nat.add_zero] at this
        rw [this]
        simp [hl, El.cs]; omega
      · rw [if_neg h2, if_neg h1, if_neg h0]
        exact h j (by omega)
theorem fill_end {s q : Int} {n : Nat} {ys : List Value} (hl : ys.length = 3 * n) (h : ∀ j, j < 3 * n → ys[j]? = (ecs (mine s q n))[j]?) : ys = ecs (mine s q n) := by
  apply List.ext_getElem?
  intro j
  by_cases hj : j < 3 * n
  · exact h j hj
  · rw [List.getElem?_eq_none (by omega), List.getElem?_eq_none (by rw [ecs_length, mine_length]; omega)]

set_option maxRecDepth 100000 in
set_option maxHeartbeats 1000000 in
theorem xElems_bad (o : OpD) (a : Option Addr) (cap : Nat) (w : World) (hi : OpIn w o a) (hb : okOp o = false) : Calls Tryz.prog 119 #[o.v a cap] w (NoElems w) := by
  have HC := Lib.hid (fun w h => xCheck_any o a cap w h)
  rw [hb] at HC
  have HI := Lib.hid hi
  clear hi hb
  obtain ⟨site, seq, kind, ⟨es, eq, ei⟩, text, gone, of, num, gen⟩ := o
  have hb0 : Below w.heap.size w (w.alloc (OpD.obj ⟨site, seq, kind, ⟨es, eq, ei⟩, text, gone, of, num, gen⟩ a cap)) := (Below.refl _ _).alloc (Nat.le_refl _) _
  have HX := Lib.hid (BoxO.new w ⟨site, seq, kind, ⟨es, eq, ei⟩, text, gone, of, num, gen⟩ a cap)
  unfold OpD.obj at hb0 HX
  have HB := Lib.hid hb0
  clear hb0
  unfold OpD.v at *
  simp only at HC HI ⊢
  go_enter Tryz.func119, Tryz.ntmps119
  go_wp2_with fail
  refine (HC.out _ (HI.out.below HB.out)).mono ?_
  rintro x w1 ⟨rfl, hb1⟩
  have HW1 := Lib.hid (HB.out.trans (hb1.mono HB.out.size))
  clear hb1
  rw [show errO false = 1 from rfl]
  go_wp2
  go_ret2
  exact ⟨rfl, HW1.out⟩

set_option maxRecDepth 100000 in
set_option maxHeartbeats 1000000 in
theorem xElems_ok (o : OpD) (a : Option Addr) (cap : Nat) (w : World) (hi : OpIn w o a) (hb : okOp o = true) : Calls Tryz.prog 119 #[o.v a cap] w (ElemsPost (mine o.site o.seq (nR o.text)) w) := by
  obtain ⟨i0, hi0, hz0, hz1, hz2⟩ := info_parts Tryz.infoElem
  have HC := Lib.hid (fun w h => xCheck_any o a cap w h)
  rw [hb] at HC
  obtain ⟨ht1, ht2, ht3⟩ := okOp_text hb
  obtain ⟨n, hn⟩ : ∃ n, nR o.text = n := ⟨_, rfl⟩
  have HLn := Lib.hid (fun w => Len_is o.text w n (by omega) ht1 (by rw [← hn]; unfold nR; rw [if_pos ht1]))
  rw [hn] at ht2 ⊢
  have HI := Lib.hid hi
  clear hi hb ht1 ht3 hn
  obtain ⟨site, seq, kind, ⟨es, eq, ei⟩, text, gone, of, num, gen⟩ := o
  have hb0 : Below w.heap.size w (w.alloc (OpD.obj ⟨site, seq, kind, ⟨es, eq, ei⟩, text, gone, of, num, gen⟩ a cap)) := (Below.refl _ _).alloc (Nat.le_refl _) _
  have HX := Lib.hid (BoxO.new w ⟨site, seq, kind, ⟨es, eq, ei⟩, text, gone, of, num, gen⟩ a cap)
  unfold OpD.obj at hb0 HX
  have HB := Lib.hid hb0
  clear hb0
  unfold OpD.v at *
  simp only at HC HI HLn ⊢
  go_enter Tryz.func119, Tryz.ntmps119
  go_wp2_with fail
  refine (HC.out _ (HI.out.below HB.out)).mono ?_
  rintro x w1 ⟨rfl, hb1⟩
  have HX1 := Lib.hid (HX.out.step hb1)
  have HW1 := Lib.hid (HB.out.trans (hb1.mono HB.out.size))
  clear hb1
  rw [show errO true = 0 from rfl]
  have g6 := HX1.out.c6
  simp only at g6
  go_wp2_with fail
  clear g6
  refine (HLn.out _).mono ?_
  rintro x w2 ⟨rfl, hb2⟩
  have HX2 := Lib.hid (HX1.out.step hb2)
  have HW2 := Lib.hid (HW1.out.trans (hb2.mono HW1.out.size))
  have hwz : w.heap.size < w2.heap.size := by have h1 := HX1.out.lt; have h2 := hb2.size; omega
  clear hb2
  go_wp2_with (first | (at_make; refine wpList_make_full _ rfl _ _ 23 rfl (w.heap.size + 1) 37 i0 (.agg #[.int .i64 0, .int .i64 0, .int .i64 0]) 3 Tryz.underlying23 hi0 hz0 hz1 _ _ _ _ n rfl rfl rfl rfl (by rw [hz2]; omega) (by unfold maxLen; omega) (by omega) ?_) | fail)
  intro w3 hown3 hgrow3
  have hb3 : Below w2.heap.size w2 w3 := (Below.refl _ _).grown hgrow3 (Nat.le_refl _) (fun _ h => by cases h)
  have HX3 := Lib.hid (HX2.out.step hb3)
  have HW3 := Lib.hid (HW2.out.trans (hb3.mono HW2.out.size))
  generalize (madeCells _ (n * 3)).toList = ys0 at hown3
  have hys : ys0.length = 3 * n := by have := hown3.1; omega
  have HO3 := Lib.hid hown3
  have HYS := Lib.hid hys
  have hg2 : w.heap.size + 1 ≤ w2.heap.size := hwz
  clear hown3 hgrow3 hb3 hys HC HLn HI HX1 HX2 hwz
  go_wp2_with fail
  go_loopw [27] (fun i wr => ∃ (k : Nat) (ys : List Value), k ≤ n ∧ i = .int .i64 k ∧ wr.ownsRow (w.heap.size + 1) 37 3 (.slice (some ⟨w2.heap.size, 0, none⟩) n n) n ys ∧ (∀ j, j < 3 * k → ys[j]? = (ecs (mine site seq n))[j]?) ∧ Below (w.heap.size + 1) w3 wr) (fun i _ => n - (RowKit.intOf i).toNat)
  case atStart => exact ⟨0, ys0, by omega, rfl, HO3.out, fun j hj => by omega, Below.refl _ _⟩
  case round =>
    obtain ⟨k, ys, hk, rfl, ho, hys, hbr⟩ := hrel
    have HYr := Lib.hid hys
    clear hys
    have hyl := ho.1
    by_cases hlt : k < n
    · have hc0 : wr.cell? ⟨w2.heap.size, k * 3, none⟩ = some ys[k * 3] := by rw [ho.cellAt (k * 3) (by omega), List.getElem?_eq_getElem (by omega)]
      have hc1 : wr.cell? ⟨w2.heap.size, k * 3 + 1, none⟩ = some ys[k * 3 + 1] := by rw [ho.cellAt (k * 3 + 1) (by omega), List.getElem?_eq_getElem (by omega)]
      have hc2 : wr.cell? ⟨w2.heap.size, k * 3 + 2, none⟩ = some ys[k * 3 + 2] := by rw [ho.cellAt (k * 3 + 2) (by omega), List.getElem?_eq_getElem (by omega)]
      have hf0 := ho.frozenAt (k * 3)
      have hf1 := ho.frozenAt (k * 3 + 1)
      have hf2 := ho.frozenAt (k * 3 + 2)
      have g0 := (HX3.out.next hbr (by omega)).c0
      have g1 := (HX3.out.next hbr (by omega)).c1
      have HO := Lib.hid ho
      have HS := Lib.hid (fill_step (by omega) hlt HYr.out)
      clear ho
      simp only at g0 g1
      generalize ys[k * 3] = y0 at *
      generalize ys[k * 3 + 1] = y1 at *
      generalize ys[k * 3 + 2] = y2 at *
      clear hyl
      go_wp2
      go_roundw
      case rel => exact ⟨k + 1, _, by omega, by go_num, (((HO.out.stored (k * 3) _).1.stored (k * 3 + 1) _).1.stored (k * 3 + 2) _).1, HS.out, ((hbr.setCell hg2 _).setCell hg2 _).setCell hg2 _⟩
      case measure => simp [RowKit.intOf]; omega
    · have h0 : k = n := by omega
      subst h0
      have HF := Lib.hid (fill_end (by omega) HYr.out)
      have HO := Lib.hid ho
      clear ho hyl
      go_wp2
      go_ret2
      have hl := mine_length site seq k
      refine ⟨_, _, by rw [hl]; rfl, ?_, HW3.out.trans (hbr.mono (by omega))⟩
      rw [hl, ← HF.out]
      exact owns_base HO.out (by omega)

end Go.Proofs.YthnedehihbploaaGreatDoor
