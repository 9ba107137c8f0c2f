/- slices.Compact at elements: three cells each -/
import Derived.Test.YthnedehihbploaaGreatDoorOBase
import Derived.Lib.SlicesCompact
import Derived.Lib.SliceRun
import Derived.Laws.OwnMore
namespace Go.Proofs.YthnedehihbploaaGreatDoor
open Go.RowKit Go.Lib

instance : Inhabited El := ⟨⟨0, 0, 0⟩⟩
/-- one of each run of equal ones -/
def ddl (l : List El) : List El := compactUpTo l.toArray l.length
theorem ddl_all (l : List El) (h : ∀ j, j < l.length → keeps l.toArray j = true) : ddl l = l := compact_all l h

theorem ecs_set (l : List El) (k : Nat) (e : El) (h : k < l.length) : (((ecs l).set (k * 3) (.int .i64 e.s)).set (k * 3 + 1) (.int .i64 e.q)).set (k * 3 + 2) (.int .i64 e.i) = ecs (l.set k e) := by
  induction l generalizing k with
  | nil => exact absurd h (by simp)
  | cons x r ih =>
    cases k with
    | zero => rfl
    | succ k =>
      have := ih k (by simpa using h)
      show (((El.cs x ++ ecs r).set _ _).set _ _).set _ _ = El.cs x ++ ecs (r.set k e)
      rw [← this]
      have h3 : (El.cs x).length = 3 := rfl
      rw [List.set_append_right _ _ (by rw [h3]; omega), List.set_append_right _ _ (by rw [h3]; omega), List.set_append_right _ _ (by rw [h3]; omega), h3]
      rw [show (k + 1) * 3 - 3 = k * 3 from by omega, show (k + 1) * 3 + 1 - 3 = k * 3 + 1 from by omega, show (k + 1) * 3 + 2 - 3 = k * 3 + 2 from by omega]

theorem owns_cut {w : World} {base g n cap k : Nat} {t : TypeId} {xs : List Value} (h : w.ownsRow base t 3 (.slice (some ⟨g, 0, none⟩) n cap) n xs) (hk : k ≤ n) : w.ownsRow base t 3 (.slice (some ⟨g, 0, none⟩) k cap) k (xs.take (k * 3)) := by
  have hl := h.1
  rcases h.2 with ⟨h', _⟩ | ⟨g', cap', cur, h', hb, hg, hnc, hcm, hcs, ht⟩
  · simp at h'
  · simp only [Value.slice.injEq, Option.some.injEq, Addr.mk.injEq, and_true, true_and] at h'
    obtain ⟨rfl, rfl⟩ := h'
    refine ⟨by rw [List.length_take]; omega, .inr ⟨g, cap, cur, rfl, hb, hg, by omega, hcm, hcs, ?_⟩⟩
    rw [← ht, List.take_take, Nat.min_eq_left (by omega)]
theorem owns_setCells {t : TypeId} {base g n cap : Nat} : ∀ (vs : List Value) (o : Nat) (w : World) (xs : List Value), w.ownsRow base t 3 (.slice (some ⟨g, 0, none⟩) n cap) n xs →
    ∃ xs', (w.setCells g o vs).ownsRow base t 3 (.slice (some ⟨g, 0, none⟩) n cap) n xs' ∧ ∀ j, j < o → xs'[j]? = xs[j]?
  | [], o, w, xs, h => ⟨xs, h, fun _ _ => rfl⟩
  | v :: r, o, w, xs, h => by
    obtain ⟨xs', h1, h2⟩ := owns_setCells r (o + 1) (w.setCell ⟨g, o, none⟩ v) _ (h.stored o v).1
    refine ⟨xs', h1, fun j hj => ?_⟩
    rw [h2 j (by omega), List.getElem?_set_ne (by omega)]
theorem below_setCells {B g : Nat} {w0 : World} (hg : B ≤ g) : ∀ (vs : List Value) (o : Nat) (w : World), Below B w0 w → Below B w0 (w.setCells g o vs)
  | [], _, _, h => h
  | v :: r, o, _, h => below_setCells hg r (o + 1) _ (h.setCell hg v)
theorem ecs_take (l : List El) (k : Nat) : (ecs l).take (k * 3) = ecs (l.take k) := by
  induction l generalizing k with
  | nil => simp [ecs]
  | cons x r ih =>
    cases k with
    | zero => simp [ecs]
    | succ k =>
      show (El.cs x ++ ecs r).take _ = El.cs x ++ ecs (r.take k)
      rw [← ih k, List.take_append]
      have h3 : (El.cs x).length = 3 := rfl
      rw [h3, List.take_of_length_le (by rw [h3]; omega), show (k + 1) * 3 - 3 = k * 3 from by omega]

/-- clear(s), s elements -/
theorem clear_el (P : Program) (w : World) (t e ty : TypeId) (ht : P.underlying t = some (.slice e)) (hv : ∀ w, (zeroValue e).run P w = .ok (.agg #[.int .i64 0, .int .i64 0, .int .i64 0]) w) (b o n c : Nat) (hn : 0 < n)
    (hc : ∀ j, j < n * 3 → (w.cell? ⟨b, o + j, none⟩).isSome = true) (hf : ∀ j, j < n * 3 → w.frozen? ⟨b, o + j, none⟩ = false) :
    (Builtin.clear_ #[t] ty #[.slice (some ⟨b, o, none⟩) n c]).run P w = .ok (.tuple #[]) (w.setCells b o (List.replicate (n * 3) (.int .i64 0))) := by
  have hzc : (Builtin.zeroCells (Value.agg #[.int .i64 0, .int .i64 0, .int .i64 0]).cells n).toList = List.replicate (n * 3) (.int .i64 0) := by
    simp only [Value.cells, Builtin.zeroCells]
    apply List.ext_getElem
    · simp
    · intro i h1 h2
      have h4 : i % 3 < 3 := Nat.mod_lt _ (by decide)
      have h5 : i % 3 = 0 ∨ i % 3 = 1 ∨ i % 3 = 2 := by omega
      simp
      rcases h5 with h5 | h5 | h5 <;> simp [h5]
  have hst := run_storeCells_cells (P := P) b o (List.replicate (n * 3) (.int .i64 0)) 0 w (by simpa using hc) (by simpa using hf) (by intro v hv'; rw [List.eq_of_mem_replicate hv']; rfl)
  simp only [Nat.add_zero] at hst
  obtain ⟨m, rfl⟩ : ∃ m, n = m + 1 := ⟨n - 1, by omega⟩
  simp [Builtin.clear_, run_underlying ht, hv, hzc, hst]

def CompPost (base B : Nat) (w0 : World) (l : List El) (e : Ending) (w' : World) : Prop :=
  ∃ a cap, e = .returned (.slice a (ddl l).length cap) ∧ w'.ownsRow base 37 3 (.slice a (ddl l).length cap) (ddl l).length (ecs (ddl l)) ∧ Below B w0 w'

theorem row_cells {w : World} {base g cap n : Nat} {l : List El} (h : w.ownsRow base 37 3 (.slice (some ⟨g, 0, none⟩) n cap) n (ecs l)) (hl : l.length = n) (j : Nat) (hj : j < n) :
    w.cell? ⟨g, j * 3, none⟩ = some (.int .i64 l[j]!.s) ∧ w.cell? ⟨g, j * 3 + 1, none⟩ = some (.int .i64 l[j]!.q) ∧ w.cell? ⟨g, j * 3 + 2, none⟩ = some (.int .i64 l[j]!.i) := by
  have h0 : l[j]! = l[j] := getElem!_pos l j (by omega)
  rw [h0]
  refine ⟨?_, ?_, ?_⟩
  · rw [h.cellAt (j * 3) (by omega)]; exact ecs_get l j 0 (by omega) (by decide)
  · rw [h.cellAt (j * 3 + 1) (by omega)]; exact ecs_get l j 1 (by omega) (by decide)
  · rw [h.cellAt (j * 3 + 2) (by omega)]; exact ecs_get l j 2 (by omega) (by decide)
theorem el_eq (a b : El) : a = b ↔ a.s = b.s ∧ a.q = b.q ∧ a.i = b.i := by
  cases a; cases b; simp

theorem tl_get (d : Array El) (i : Nat) : d.toList[i]! = d[i]! := by
  by_cases h : i < d.size
  · rw [getElem!_pos d i h, getElem!_pos d.toList i (by simpa using h)]; simp
  · rw [getElem!_neg d i h, getElem!_neg d.toList i (by simpa using h)]
theorem el_ne {a b : El} (h : ¬ a = b) : (a.s ≠ b.s) ∨ (a.s = b.s ∧ a.q ≠ b.q) ∨ (a.s = b.s ∧ a.q = b.q ∧ a.i ≠ b.i) := by
  rw [el_eq] at h
  by_cases h0 : a.s = b.s
  · by_cases h1 : a.q = b.q
    · right; right; exact ⟨h0, h1, fun h2 => h ⟨h0, h1, h2⟩⟩
    · right; left; exact ⟨h0, h1⟩
  · left; exact h0
theorem comp_low {d dk : Array El} {k : Nat} (h : CompInv d d.size k dk) : dk.toList.take k = compactUpTo d d.size := by
  have hk := h.lt
  have hs := h.size
  apply List.ext_getElem?
  intro j
  by_cases c : j < k
  · rw [h.low j c, List.getElem?_take_of_lt c, getElem!_pos dk j (by omega)]
    simp
  · rw [List.getElem?_eq_none (by rw [List.length_take]; omega), List.getElem?_eq_none (by rw [h.len]; omega)]

set_option maxRecDepth 100000 in
set_option maxHeartbeats 1000000 in
theorem xCompact_any (a : Option Addr) (cap base B : Nat) (l : List El) (w0 w : World) (hown : w.ownsRow base 37 3 (.slice a l.length cap) l.length (ecs l)) (hB : B ≤ base) (hb : Below B w0 w) (hl : l.length ≤ 1000000) :
    Calls Tryz.prog 163 #[.slice a l.length cap] w (CompPost base B w0 l) := by
  by_cases h2 : l.length < 2
  · have hd : ddl l = l := ddl_all l (fun j hj => keeps_lt_one _ j (by omega))
    have HP : RowKit.Hid (CompPost base B w0 l (.returned (.slice a l.length cap)) w) := Lib.hid (by
      refine ⟨a, cap, by rw [hd], ?_, hb⟩
      rw [hd]; exact hown)
    have h2i : decide ((l.length : Int) < 2) = true := by simp; omega
    generalize l.length = n at *
    clear hown hb hd h2
    go_enter Tryz.func163, Tryz.ntmps163
    go_wp2
    go_ret
    exact HP.out
  obtain ⟨g, cap2, hv, hg0, hg1⟩ := hown.form (by omega)
  obtain ⟨rfl, rfl⟩ : a = some ⟨g, 0, none⟩ ∧ cap = cap2 := by
    simp only [Value.slice.injEq] at hv
    exact ⟨hv.1, hv.2.2⟩
  clear hv
  have hgB : B ≤ g := Nat.le_trans hB hg0
  obtain ⟨n, hn⟩ : ∃ n, l.length = n := ⟨_, rfl⟩
  rw [hn] at hown h2 hl ⊢
  have h2i : decide ((n : Int) < 2) = false := by simp; omega
  have HN := Lib.hid hn
  have HO := Lib.hid hown
  have HB := Lib.hid hb
  have hcap : n ≤ cap := by
    rcases hown.2 with ⟨h', _⟩ | ⟨g', cap', cur, h', _, _, hnc, _⟩
    · simp at h'
    · simp only [Value.slice.injEq] at h'
      rw [h'.2.2]; exact hnc
  clear hn hown hb hg0 hg1
  go_enter Tryz.func163, Tryz.ntmps163
  go_wp2
  clear h2i
  go_loopw [3] (fun s3 wr => ∃ k : Nat, 1 ≤ k ∧ k ≤ n ∧ s3 = .int .i64 k ∧ wr.ownsRow base 37 3 (.slice (some ⟨g, 0, none⟩) n cap) n (ecs l) ∧ Below B w0 wr ∧ ∀ j, j < k → keeps l.toArray j = true) (fun s3 _ => n - (RowKit.intOf s3).toNat)
  case atStart => exact ⟨1, Nat.le_refl _, by omega, rfl, HO.out, HB.out, keeps_lt_one _⟩
  case round =>
    obtain ⟨k, hk1, hk, rfl, ho, hbr, hall⟩ := hrel
    have HAL := Lib.hid hall
    have HO2 := Lib.hid ho
    clear hall
    by_cases hlt : k < n
    · obtain ⟨x0, x1, x2⟩ := row_cells ho HN.out k hlt
      obtain ⟨y0, y1, y2⟩ := row_cells ho HN.out (k - 1) (by omega)
      have hkw : wrap64 ((k : Int) - 1) = ((k - 1 : Nat) : Int) := by rw [IntWalk.wrap64_in _ ⟨by omega, by omega⟩]; omega
      have HX := Lib.hid (show l.toArray[k]! = l[k]! from by simp)
      have HY := Lib.hid (show l.toArray[k - 1]! = l[k - 1]! from by simp)
      generalize l[k]! = x at *
      generalize l[k - 1]! = y at *
      clear ho
      by_cases hxy : x = y
      · have HK := Lib.hid (keeps_neg (d := l.toArray) (by omega : 0 < k) (by rw [HX.out, HY.out]; exact hxy))
        subst hxy
        go_wp2_with fail
        go_quiet (fail)
        have hbq := below_drewN' hbr nq
        have hoq := owns_belE HO2.out (below_drewN' (Below.refl wr.heap.size wr) nq)
        clear x0 x1 x2 y0 y1 y2 hkw hbr
        generalize wr.drewN nq = wq at *
        go_wp2
        go_loopw [3, 5] (fun s3 s5 wx => ∃ (kk k2 : Nat) (dk : Array El), s3 = .int .i64 kk ∧ s5 = .int .i64 k2 ∧ 1 ≤ k2 ∧ k + k2 ≤ n ∧ wx.ownsRow base 37 3 (.slice (some ⟨g, 0, none⟩) n cap) n (ecs dk.toList) ∧ Below B w0 wx ∧ CompInv l.toArray (k + k2) kk dk) (fun _ s5 _ => n - (RowKit.intOf s5).toNat)
        case atStart => exact ⟨k, 1, l.toArray, rfl, rfl, Nat.le_refl _, by omega, by simpa using hoq, hbq, CompInv.start HAL.out HK.out⟩
        case round =>
          clear hbq hoq
          obtain ⟨kk, k2, dk, rfl, rfl, h1, hle, hox, hbx, hI⟩ := hrel
          have HI := Lib.hid hI
          have hkk := hI.lt
          have hds : dk.size = n := by rw [hI.size]; simp [HN.out]
          have HOX := Lib.hid hox
          have hdl : dk.toList.length = n := by simpa using hds
          clear hI
          by_cases hlt2 : k + k2 < n
          · obtain ⟨x0, x1, x2⟩ := row_cells hox hdl (k + k2) hlt2
            obtain ⟨y0, y1, y2⟩ := row_cells hox hdl (k + k2 - 1) (by omega)
            obtain ⟨z0, z1, z2⟩ := row_cells hox hdl kk (by omega)
            have e0 : dk.toList[k + k2]! = l.toArray[k + k2]! := by rw [← HI.out.high (k + k2) (by omega), tl_get]
            have e1 : dk.toList[k + k2 - 1]! = l.toArray[k + k2 - 1]! := by rw [← HI.out.high (k + k2 - 1) (by omega), tl_get]
            rw [e0] at x0 x1 x2
            rw [e1] at y0 y1 y2
            rw [show (k + k2) * 3 = k * 3 + k2 * 3 from by omega] at x0 x1 x2
            rw [show (k + k2 - 1) * 3 = k * 3 + (k2 - 1) * 3 from by omega] at y0 y1 y2
            have hkw : wrap64 ((k2 : Int) - 1) = ((k2 - 1 : Nat) : Int) := by rw [IntWalk.wrap64_in _ ⟨by omega, by omega⟩]; omega
            have f0 := hox.frozenAt (kk * 3)
            have f1 := hox.frozenAt (kk * 3 + 1)
            have f2 := hox.frozenAt (kk * 3 + 2)
            generalize hX : l.toArray[k + k2]! = x at *
            generalize hY : l.toArray[k + k2 - 1]! = y at *
            generalize dk.toList[kk]! = z at *
            have HXX := Lib.hid hX
            have HYY := Lib.hid hY
            clear hox e0 e1 hX hY
            by_cases hxy : x = y
            · have HK2 := Lib.hid (HI.out.skip (keeps_neg (by omega : 0 < k + k2) (by rw [HXX.out, HYY.out]; exact hxy)))
              subst hxy
              go_wp2_with fail
              go_quiet (fail)
              go_wp2
              go_roundw
              case rel => exact ⟨kk, k2 + 1, dk, rfl, by go_num, by omega, by omega, owns_belE HOX.out (below_drewN' (Below.refl wr.heap.size wr) _), below_drewN' hbx _, HK2.out⟩
              case measure => simp [RowKit.intOf]; omega
            · have HK2 := Lib.hid (HI.out.keep (by rw [List.size_toArray]; have := HN.out; omega) (keeps_pos (d := l.toArray) (m := k + k2) (by rw [HXX.out, HYY.out]; exact hxy)))
              have HSET := Lib.hid (ecs_set dk.toList kk x (by omega))
              have HXE := Lib.hid (HXX.out)
              clear HXX HYY
              rcases el_ne hxy with q0 | ⟨q0, q1⟩ | ⟨q0, q1, q2⟩
              all_goals
                obtain ⟨xs, xq, xi⟩ := x
                obtain ⟨ys, yq, yi⟩ := y
                simp only at x0 x1 x2 y0 y1 y2 HSET
                simp only at q0
                try simp only at q1
                try simp only at q2
                try subst q0
                try subst q1
                go_wp2_with fail
                go_quiet (fail)
                go_wp2
                go_roundw
                case rel =>
                  refine ⟨kk + 1, k2 + 1, dk.setIfInBounds kk ⟨xs, xq, xi⟩, by go_num, by go_num, by omega, by omega, ?_, (((below_drewN' hbx _).setCell hgB _).setCell hgB _).setCell hgB _, ?_⟩
                  · have := ((((owns_belE HOX.out (below_drewN' (Below.refl wr.heap.size wr) nq)).stored (kk * 3) (.int .i64 xs)).1.stored (kk * 3 + 1) (.int .i64 xq)).1.stored (kk * 3 + 2) (.int .i64 xi)).1
                    rw [HSET.out] at this
                    rw [Array.toList_setIfInBounds]
                    exact this
                  · have := HK2.out
                    rw [HXE.out] at this
                    exact this
                case measure => simp [RowKit.intOf]; omega
          · have h9 : k + k2 = n := by omega
            have hclr : ∀ ty, (Builtin.clear_ #[23] ty #[.slice (some ⟨g, kk * 3, none⟩) (n - kk) (cap - kk)]).run Tryz.prog wr = .ok (.tuple #[]) (wr.setCells g (kk * 3) (List.replicate ((n - kk) * 3) (.int .i64 0))) :=
              fun ty => clear_el Tryz.prog wr _ _ ty Tryz.underlying23 Tryz.zeroValue37 g (kk * 3) _ _ (by omega) (fun j hj => by rw [hox.cellAt (kk * 3 + j) (by omega), List.getElem?_eq_getElem (by rw [ecs_length]; omega)]; rfl) (fun j _ => hox.frozenAt _)
            have HP : RowKit.Hid (CompPost base B w0 l (.returned (.slice (some ⟨g, 0, none⟩) kk cap)) (wr.setCells g (kk * 3) (List.replicate ((n - kk) * 3) (.int .i64 0)))) := Lib.hid (by
              have hI := HI.out
              have hsz : l.toArray.size = n := by simp [HN.out]
              rw [h9, ← hsz] at hI
              have hlow := comp_low hI
              have hdd : ddl l = dk.toList.take kk := by rw [hlow]; unfold ddl; rw [hsz, HN.out]
              have hddl : (ddl l).length = kk := by rw [hdd, List.length_take]; omega
              obtain ⟨xs', o1, o2⟩ := owns_setCells (List.replicate ((n - kk) * 3) (Value.int .i64 0)) (kk * 3) wr _ hox
              have o3 := owns_cut o1 (k := kk) (by omega)
              refine ⟨_, cap, by rw [hddl], ?_, below_setCells hgB _ _ _ hbx⟩
              rw [hddl, hdd, ← ecs_take]
              have hx : xs'.take (kk * 3) = (ecs dk.toList).take (kk * 3) := by
                apply List.ext_getElem?
                intro j
                by_cases c : j < kk * 3
                · rw [List.getElem?_take_of_lt c, List.getElem?_take_of_lt c, o2 j c]
                · rw [List.getElem?_eq_none (by rw [List.length_take]; omega), List.getElem?_eq_none (by rw [List.length_take]; omega)]
              rw [← hx]
              exact o3)
            clear hox hbx
            go_wp2
            go_ret
            exact HP.out
      · have HK := Lib.hid (keeps_pos (d := l.toArray) (m := k) (by rw [HX.out, HY.out]; exact hxy))
        rcases el_ne hxy with q0 | ⟨q0, q1⟩ | ⟨q0, q1, q2⟩
        all_goals
          obtain ⟨xs, xq, xi⟩ := x
          obtain ⟨ys, yq, yi⟩ := y
          simp only at x0 x1 x2 y0 y1 y2 q0
          try simp only at q1
          try simp only at q2
          try subst q0
          try subst q1
          go_wp2_with fail
          go_quiet (fail)
          go_wp2
          go_roundw
          case rel =>
            refine ⟨k + 1, by omega, by omega, by go_num, owns_belE HO2.out (below_drewN' (Below.refl wr.heap.size wr) _), below_drewN' hbr _, fun j hj => ?_⟩
            by_cases e : j = k
            · rw [e]; exact HK.out
            · exact HAL.out j (by omega)
          case measure => simp [RowKit.intOf]; omega
    · have h0 : k = n := by omega
      have HD := Lib.hid (ddl_all l (fun j hj => HAL.out j (by have := HN.out; omega)))
      have HP : RowKit.Hid (CompPost base B w0 l (.returned (.slice (some ⟨g, 0, none⟩) n cap)) wr) := Lib.hid (by
        refine ⟨_, cap, by rw [HD.out, HN.out], ?_, hbr⟩
        rw [HD.out, HN.out]; exact ho)
      clear ho hbr
      go_wp2
      go_ret
      exact HP.out
end Go.Proofs.YthnedehihbploaaGreatDoor
