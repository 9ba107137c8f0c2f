/- The page's own word on which ops may be: toggles; ops of no kind; edits that bear what toggles have. -/
import Derived.Test.YtnkinbobnhdpaaaDoorOCopy
import Derived.Test.YtnkinbobnhdpaaaDoorOBox
import Derived.Laws.Closers25b
namespace Go.Proofs.YtnkinbobnhdpaaaDoor
open Go.RowKit Go.Lib

def okTog (o : OpD) : Bool := nameB o.site o.seq && (nameB o.of o.num && (decide (¬ (o.of = o.site ∧ o.num = o.seq)) && (btw o.gen 0 268435456 && (o.after.begin && (decide (o.text = ⟨#[]⟩) && decide (o.gone.length = 0))))))

set_option maxRecDepth 100000 in
set_option maxHeartbeats 1000000 in
theorem rOp_toggle (o : OpD) (a : Option Addr) (cap : Nat) (w : World) (hk : o.kind = 2) : Calls Tryd.prog 17 #[o.v a cap] w (BoB (okTog o) w) := by
  obtain ⟨site, seq, kind, ⟨es, eq, ei⟩, text, gone, of, num, gen⟩ := o
  simp only at hk
  subst hk
  have hb0 : Below w.heap.size w (w.alloc (OpD.obj ⟨site, seq, 2, ⟨es, eq, ei⟩, text, gone, of, num, gen⟩ a cap)) := (Below.refl _ _).alloc (Nat.le_refl _) _
  unfold OpD.v okTog
  unfold OpD.obj at hb0
  simp only at hb0 ⊢
  have HB := Lib.hid hb0
  clear hb0
  cases h1 : nameB site seq
  · simp only [Bool.false_and]
    go_enter Tryd.func17, Tryd.ntmps17
    go_wp2_with (go_at_call 50; refine (name_any _ _ _).mono ?_; rintro e w' ⟨rfl, rfl⟩)
    go_ret
    exact ⟨rfl, HB.out⟩
  simp only [Bool.true_and]
  cases h2 : nameB of num
  · simp only [Bool.false_and]
    go_enter Tryd.func17, Tryd.ntmps17
    go_wp2_with (go_at_call 50; refine (name_any _ _ _).mono ?_; rintro e w' ⟨rfl, rfl⟩)
    go_ret
    exact ⟨rfl, HB.out⟩
  simp only [Bool.true_and]
  by_cases h3 : of = site ∧ num = seq
  · obtain ⟨rfl, rfl⟩ := h3
    simp only [and_self, not_true, decide_false, Bool.false_and]
    go_enter Tryd.func17, Tryd.ntmps17
    go_wp2_with (go_at_call 50; refine (name_any _ _ _).mono ?_; rintro e w' ⟨rfl, rfl⟩)
    go_ret
    exact ⟨rfl, HB.out⟩
  rw [show decide (¬ (of = site ∧ num = seq)) = true from decide_eq_true h3]
  simp only [Bool.true_and]
  have h3b : ((of != site) = true) ∨ ((of != site) = false ∧ (num != seq) = true) := by
    by_cases e1 : of = site
    · right; exact ⟨by simp [e1], by simp; exact fun e2 => h3 ⟨e1, e2⟩⟩
    · left; simp; exact e1
  clear h3
  cases h4 : btw gen 0 268435456
  · simp only [Bool.false_and]
    rcases h3b with h3 | ⟨h3, h3'⟩
    all_goals
      go_enter Tryd.func17, Tryd.ntmps17
      go_wp2_with (first | (go_at_call 50; refine (name_any _ _ _).mono ?_; rintro e w' ⟨rfl, rfl⟩) | (go_at_call 40; refine (rNum_any _ _ _).mono ?_; rintro e w' ⟨rfl, rfl⟩))
      go_ret
      exact ⟨rfl, HB.out⟩
  simp only [Bool.true_and]
  have cB := fun w => Begin_any ⟨es, eq, ei⟩ w
  unfold El.v at cB
  simp only at cB
  cases h5 : El.begin ⟨es, eq, ei⟩
  · simp only [h5] at cB
    simp only [Bool.false_and]
    have CB := Lib.hid cB
    clear cB
    rcases h3b with h3 | ⟨h3, h3'⟩
    all_goals
      go_enter Tryd.func17, Tryd.ntmps17
      go_wp2_with (first | (go_at_call 50; refine (name_any _ _ _).mono ?_; rintro e w' ⟨rfl, rfl⟩) | (go_at_call 40; refine (rNum_any _ _ _).mono ?_; rintro e w' ⟨rfl, rfl⟩))
      refine (CB.out _).mono ?_
      rintro e w9 ⟨rfl, hb9⟩
      go_wp2
      go_ret
      exact ⟨rfl, HB.out.trans (hb9.mono HB.out.size)⟩
  simp only [Bool.true_and]
  simp only [h5] at cB
  have CB := Lib.hid cB
  clear cB h5
  by_cases h6 : text = ⟨#[]⟩
  · subst h6
    simp only [decide_true, Bool.true_and]
    by_cases h7 : gone.length = 0
    · rw [show decide (gone.length = 0) = true from decide_eq_true h7]
      rw [h7] at HB ⊢
      clear h7
      rcases h3b with h3 | ⟨h3, h3'⟩
      all_goals
        go_enter Tryd.func17, Tryd.ntmps17
        go_wp2_with (first | (go_at_call 50; refine (name_any _ _ _).mono ?_; rintro e w' ⟨rfl, rfl⟩) | (go_at_call 40; refine (rNum_any _ _ _).mono ?_; rintro e w' ⟨rfl, rfl⟩))
        refine (CB.out _).mono ?_
        rintro e w9 ⟨rfl, hb9⟩
        obtain ⟨hc, hf⟩ := bcell hb9
        have hz : w.heap.size < w9.heap.size := by have := hb9.size; simp at this; omega
        have H9 := Lib.hid hb9
        clear hb9
        go_wp2
        go_ret
        exact ⟨rfl, HB.out.trans (H9.out.mono HB.out.size)⟩
    · rw [show decide (gone.length = 0) = false from decide_eq_false h7]
      obtain ⟨n, hn⟩ : ∃ n, gone.length = n := ⟨_, rfl⟩
      rw [hn] at HB h7 ⊢
      have h7b : ((n : Int) == 0) = false := by simp; omega
      clear hn
      rcases h3b with h3 | ⟨h3, h3'⟩
      all_goals
        go_enter Tryd.func17, Tryd.ntmps17
        go_wp2_with (first | (go_at_call 50; refine (name_any _ _ _).mono ?_; rintro e w' ⟨rfl, rfl⟩) | (go_at_call 40; refine (rNum_any _ _ _).mono ?_; rintro e w' ⟨rfl, rfl⟩))
        refine (CB.out _).mono ?_
        rintro e w9 ⟨rfl, hb9⟩
        obtain ⟨hc, hf⟩ := bcell hb9
        have hz : w.heap.size < w9.heap.size := by have := hb9.size; simp at this; omega
        have H9 := Lib.hid hb9
        clear hb9
        go_wp2
        go_ret
        exact ⟨rfl, HB.out.trans (H9.out.mono HB.out.size)⟩
  · rw [show decide (text = ⟨#[]⟩) = false from decide_eq_false h6]
    simp only [Bool.false_and]
    have h6b : ¬ text.toList = [] := fun h => h6 ((toList_nil_iff_emptyBytes text).1 h)
    have h6c : text.toList.isEmpty = false := by simpa using h6b
    clear h6
    rcases h3b with h3 | ⟨h3, h3'⟩
    all_goals
      go_enter Tryd.func17, Tryd.ntmps17
      go_wp2_with (first | (go_at_call 50; refine (name_any _ _ _).mono ?_; rintro e w' ⟨rfl, rfl⟩) | (go_at_call 40; refine (rNum_any _ _ _).mono ?_; rintro e w' ⟨rfl, rfl⟩))
      refine (CB.out _).mono ?_
      rintro e w9 ⟨rfl, hb9⟩
      obtain ⟨hc, hf⟩ := bcell hb9
      have hz : w.heap.size < w9.heap.size := by have := hb9.size; simp at this; omega
      have H9 := Lib.hid hb9
      clear hb9
      go_wp2
      go_ret
      exact ⟨rfl, HB.out.trans (H9.out.mono HB.out.size)⟩

set_option maxRecDepth 100000 in
set_option maxHeartbeats 1000000 in
theorem rOp_other (o : OpD) (a : Option Addr) (cap : Nat) (w : World) (hk : ¬ o.kind = 2) (hk1 : ¬ o.kind = 1) : Calls Tryd.prog 17 #[o.v a cap] w (BoB false w) := by
  obtain ⟨site, seq, kind, ⟨es, eq, ei⟩, text, gone, of, num, gen⟩ := o
  have hb0 : Below w.heap.size w (w.alloc (OpD.obj ⟨site, seq, kind, ⟨es, eq, ei⟩, text, gone, of, num, gen⟩ a cap)) := (Below.refl _ _).alloc (Nat.le_refl _) _
  unfold OpD.v
  unfold OpD.obj at hb0
  simp only at hb0 hk hk1 ⊢
  have HB := Lib.hid hb0
  have e2 : (kind == 2) = false := by simp; exact hk
  have e1 : (kind != 1) = true := by simp; exact hk1
  clear hb0 hk hk1
  cases h1 : nameB site seq
  all_goals
    go_enter Tryd.func17, Tryd.ntmps17
    go_wp2_with (go_at_call 50; refine (name_any _ _ _).mono ?_; rintro e w' ⟨rfl, rfl⟩)
    go_ret
    exact ⟨rfl, HB.out⟩

/-- what an edit must be ahead of its text: true where the page goes on to the text -/
def okHead (o : OpD) : Bool := nameB o.site o.seq && (decide (o.of = 0) && (decide (o.num = 0) && (decide (o.gen = 0) && (decide (o.gone.length ≤ 200) && !(decide (o.text = ⟨#[]⟩) && decide (o.gone.length = 0))))))

set_option maxRecDepth 100000 in
set_option maxHeartbeats 1000000 in
theorem rOp_head (o : OpD) (a : Option Addr) (cap : Nat) (w : World) (hk : o.kind = 1) (hh : okHead o = false) : Calls Tryd.prog 17 #[o.v a cap] w (BoB false w) := by
  obtain ⟨site, seq, kind, ⟨es, eq, ei⟩, text, gone, of, num, gen⟩ := o
  simp only at hk
  subst hk
  have hb0 : Below w.heap.size w (w.alloc (OpD.obj ⟨site, seq, 1, ⟨es, eq, ei⟩, text, gone, of, num, gen⟩ a cap)) := (Below.refl _ _).alloc (Nat.le_refl _) _
  unfold OpD.v
  unfold OpD.obj at hb0
  unfold okHead at hh
  simp only at hb0 hh ⊢
  have HB := Lib.hid hb0
  clear hb0
  cases h1 : nameB site seq
  · clear hh
    go_enter Tryd.func17, Tryd.ntmps17
    go_wp2_with (go_at_call 50; refine (name_any _ _ _).mono ?_; rintro e w' ⟨rfl, rfl⟩)
    go_ret
    exact ⟨rfl, HB.out⟩
  have hcase : (of != 0) = true ∨ ((of != 0) = false ∧ (num != 0) = true) ∨ ((of != 0) = false ∧ (num != 0) = false ∧ (gen != 0) = true) ∨ ((of != 0) = false ∧ (num != 0) = false ∧ (gen != 0) = false ∧ decide ((200 : Int) < (gone.length : Int)) = true) ∨
      ((of != 0) = false ∧ (num != 0) = false ∧ (gen != 0) = false ∧ decide ((200 : Int) < (gone.length : Int)) = false ∧ text = ⟨#[]⟩ ∧ gone.length = 0) := by
    rw [h1] at hh
    simp only [Bool.true_and] at hh
    by_cases e1 : of = 0
    · by_cases e2 : num = 0
      · by_cases e3 : gen = 0
        · by_cases e4 : gone.length ≤ 200
          · right; right; right; right
            refine ⟨by simp [e1], by simp [e2], by simp [e3], by simp; omega, ?_⟩
            simp [e1, e2, e3, e4] at hh
            have h9 := hh.2
            exact ⟨hh.1, by rw [h9]; rfl⟩
          · right; right; right; left
            exact ⟨by simp [e1], by simp [e2], by simp [e3], by simp; omega⟩
        · right; right; left
          exact ⟨by simp [e1], by simp [e2], by simp; exact e3⟩
      · right; left
        exact ⟨by simp [e1], by simp; exact e2⟩
    · left; simp; exact e1
  clear hh
  rcases hcase with d1 | ⟨d1, d2⟩ | ⟨d1, d2, d3⟩ | ⟨d1, d2, d3, d4⟩ | ⟨d1, d2, d3, d4, rfl, h6⟩
  case inr.inr.inr.inr =>
    rw [h6] at HB d4 ⊢
    clear h6
    go_enter Tryd.func17, Tryd.ntmps17
    go_wp2_with (go_at_call 50; refine (name_any _ _ _).mono ?_; rintro e w' ⟨rfl, rfl⟩)
    go_ret
    exact ⟨rfl, HB.out⟩
  all_goals
    go_enter Tryd.func17, Tryd.ntmps17
    go_wp2_with (go_at_call 50; refine (name_any _ _ _).mono ?_; rintro e w' ⟨rfl, rfl⟩)
    go_ret
    exact ⟨rfl, HB.out⟩
end Go.Proofs.YtnkinbobnhdpaaaDoor
