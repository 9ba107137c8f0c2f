/- tree.ahead: what the ops of a row wrote so far; isBegin, name, wrote -/
import Derived.Test.YthnedehihbploaaGreatDoorTRow
import Derived.Test.YthnedehihbploaaGreatDoorTMap
import Derived.Test.YthnedehihbploaaGreatDoorTHangs
import Derived.Lib.QuietBelow
namespace Go.Proofs.YthnedehihbploaaGreatDoor
open Go.RowKit Go.Lib

theorem tBegin_any (e : El) (w : World) : Calls Tryz.prog 132 #[e.v] w (BoB e.begin w) := by
  obtain ⟨s, q, i⟩ := e
  have hb0 : Below w.heap.size w (w.alloc (.cells #[.int .i64 s, .int .i64 q, .int .i64 i] 37)) := (Below.refl _ _).alloc (Nat.le_refl _) _
  unfold El.v
  simp only
  go_enter Tryz.func132, Tryz.ntmps132
  go_wp2
  all_goals
    subst_vars
    go_ret
    refine ⟨ret_bool ?_, hb0⟩
    first
      | exact (decide_eq_true ⟨rfl, rfl, rfl⟩).symm
      | exact (decide_eq_false (fun h => by simp only at h; omega)).symm
theorem tName_any (s q : Int) (w : World) : Calls Tryz.prog 133 #[.int .i64 s, .int .i64 q] w fun x w' => x = .returned (.agg #[.int .i64 s, .int .i64 q, .int .i64 0]) ∧ Below w.heap.size w w' := by
  go_enter Tryz.func133, Tryz.ntmps133
  go_wp2
  refine bodyPost_ret (v := .agg #[.int .i64 s, .int .i64 q, .int .i64 0]) (by simp [results, Tryz.results133, go_sem]) rfl ⟨rfl, ?_⟩
  exact (Below.refl _ _).alloc (Nat.le_refl _) _

/-- what the map of edits holds -/
def edV (l : List OpD) (e : El) : Option Value := (ed l e).map (fun c => .int .i64 c)
def ahCells (eb : Nat) (l : List OpD) : Array Value := #[.map (some eb), .int .i64 (cnt l 0), .int .i64 (cnt l 1), .int .i64 (cnt l 2), .int .i64 (cnt l 3), .int .i64 (cnt l 4), .int .i64 (cnt l 5), .int .i64 (cnt l 6), .int .i64 (cnt l 7), .int .i64 (cnt l 8), .int .i64 (tot l)]
/-- block AB, of the call's own, is what the ops of l wrote -/
structure AhAt (w : World) (base AB eb : Nat) (l : List OpD) : Prop where
  box : w.heap[AB]? = some (.cells (ahCells eb l) 158 (0, 0))
  map : MapE w eb l.length (edV l)
  ne : eb ≠ AB
  ge : base ≤ eb ∧ base ≤ AB
theorem AhAt.kept {w w' : World} {base AB eb : Nat} {l : List OpD} (h : AhAt w base AB eb l) (h1 : w'.heap[AB]? = w.heap[AB]?) (h2 : w'.heap[eb]? = w.heap[eb]?) : AhAt w' base AB eb l :=
  ⟨h1.trans h.box, h.map.kept h2, h.ne, h.ge⟩
theorem AhAt.lt {w : World} {base AB eb : Nat} {l : List OpD} (h : AhAt w base AB eb l) : AB < w.heap.size ∧ eb < w.heap.size := ⟨(Array.getElem?_eq_some_iff.1 h.box).1, h.map.lt⟩
theorem AhAt.below {w w' : World} {base AB eb : Nat} {l : List OpD} (h : AhAt w base AB eb l) (hb : Below w.heap.size w w') : AhAt w' base AB eb l :=
  h.kept (hb.block AB h.lt.1) (hb.block eb h.lt.2)
theorem AhAt.cell {w : World} {base AB eb : Nat} {l : List OpD} (h : AhAt w base AB eb l) : w.cell? ⟨AB, 0, none⟩ = some (.map (some eb)) ∧ w.cell? ⟨AB, 10, none⟩ = some (.int .i64 (tot l)) ∧ (∀ o, w.frozen? ⟨AB, o, none⟩ = false) ∧ ∀ s : Nat, s ≤ 8 → w.cell? ⟨AB, 1 + s, none⟩ = some (.int .i64 (cnt l s)) := by
  refine ⟨?_, ?_, fun o => ?_, fun s hs => ?_⟩
  · simp [World.cell?, h.box, ahCells]
  · simp [World.cell?, h.box, ahCells]
  · simp [World.frozen?, h.box]
  · have hc : s = 0 ∨ s = 1 ∨ s = 2 ∨ s = 3 ∨ s = 4 ∨ s = 5 ∨ s = 6 ∨ s = 7 ∨ s = 8 := by omega
    rcases hc with rfl | rfl | rfl | rfl | rfl | rfl | rfl | rfl | rfl <;> simp [World.cell?, h.box, ahCells]
theorem w_fit {e : El} (h : e.ok = true) : e.w.fit := by
  by_cases hb : e.begin = true
  · rw [(begin_iff _).1 hb]; exact b0_fit
  · have := ok_parts h (by simpa using hb)
    unfold El.fit in64 El.w
    simp only
    omega
theorem AhAt.look {w : World} {base AB eb : Nat} {l : List OpD} (h : AhAt w base AB eb l) (e : El) (he : e.fit) (c : Bool) :
    (Instr.lookup 114 (.map (some eb)) (.agg #[.int .i64 e.s, .int .i64 e.q, .int .i64 e.i]) c).run Tryz.prog w = .ok (if c then .tuple #[.int .i64 (((ed l e).getD 0 : Nat) : Int), .bool (hasN l e)] else .int .i64 (((ed l e).getD 0 : Nat) : Int)) w := by
  have hl := h.map.look (t := 114) (z := .int .i64 0) Tryz.underlying114 (by kernel_rfl) e he c
  have e1 : (edV l e).getD (.int .i64 0) = .int .i64 (((ed l e).getD 0 : Nat) : Int) := by
    unfold edV
    cases ed l e <;> rfl
  have e2 : (edV l e).isSome = hasN l e := by
    unfold edV hasN
    cases ed l e <;> rfl
  rw [e1, e2] at hl
  exact hl

set_option maxRecDepth 100000 in
set_option maxHeartbeats 2000000 in
theorem tWrote_any (base AB eb : Nat) (l : List OpD) (a : Option Addr) (cap : Nat) (es : List El) (w : World) (h : AhAt w base AB eb l) (he : ElemsAt w a es) (hok : ∀ e ∈ es, e.ok = true) (hn : es.length ≤ 1000) :
    Calls Tryz.prog 131 #[.pointer (some ⟨AB, 0, none⟩), .slice a es.length cap] w (BoB (es.all (wr l)) w) := by
  have HA := Lib.hid h
  have HE := Lib.hid he
  have HOK := Lib.hid hok
  obtain ⟨n, hnn⟩ : ∃ n, es.length = n := ⟨_, rfl⟩
  have HN := Lib.hid hnn
  rw [hnn] at hn ⊢
  clear h he hok hnn
  go_enter Tryz.func131, Tryz.ntmps131
  go_wp2_with fail
  go_loopw [9] (fun s9 wr => ∃ k : Nat, s9 = .int .i64 k ∧ k ≤ n ∧ Below w.heap.size w wr ∧ ∀ j, j < k → (es[j]?.all (Go.Proofs.YthnedehihbploaaGreatDoor.wr l)) = true) (fun s9 _ => n - (RowKit.intOf s9).toNat)
  case atStart => exact ⟨0, rfl, Nat.zero_le _, Below.refl _ _, fun j hj => absurd hj (by omega)⟩
  case round =>
    obtain ⟨k, rfl, hk, hb, hall⟩ := hrel
    have HALL := Lib.hid hall
    clear hall
    by_cases hlt : k < n
    · have hkl : k < es.length := by rw [HN.out]; exact hlt
      obtain ⟨b, off, rfl, hbb, x0, x1, x2⟩ := (HE.out.below hb).cell k hkl
      have hah := HA.out.below hb
      have hoke := HOK.out es[k] (List.getElem_mem hkl)
      have HG := Lib.hid (show es[k]? = some es[k] from List.getElem?_eq_getElem hkl)
      have hb1 : Below w.heap.size w (wr.alloc (.cells #[.int .i64 es[k].s, .int .i64 es[k].q, .int .i64 es[k].i] 37)) := hb.alloc hb.size _
      have hah1 := hah.below ((Below.refl wr.heap.size wr).alloc (Nat.le_refl _) (.cells #[.int .i64 es[k].s, .int .i64 es[k].q, .int .i64 es[k].i] 37))
      have hbx := BoxE.new wr es[k]
      generalize es[k] = e at *
      have hfit := w_fit hoke
      have HWR := Lib.hid (show Go.Proofs.YthnedehihbploaaGreatDoor.wr l e = decide (e.i < (((ed l e.w).getD 0 : Nat) : Int)) from rfl)
      have hlk := fun d os => (hah1.below (below_regrown _ d os)).look e.w hfit false
      have hed : ((ed l e.w).getD 0 : Nat) ≤ 1000 ∨ True := .inr trivial
      generalize (ed l e.w).getD 0 = c at *
      obtain ⟨s, q, i⟩ := e
      unfold El.w at hlk
      simp only at x0 x1 x2 hah1 hb1 hbx hlk HWR
      have e0 := cell_regrown hbx.c0
      have e1 := cell_regrown hbx.c1
      have e2 := cell_regrown hbx.c2
      have m0 := cell_regrown hah1.cell.1
      have HB1 := Lib.hid hb1
      have hbs := hbx.lt
      have hAB := hah1.lt.1
      clear hah hah1 hbx hb1 hkl hoke hfit hed
      by_cases hc : i < (c : Int)
      · rw [decide_eq_true hc] at HWR
        have hcd : decide ((c : Int) ≤ i) = false := decide_eq_false (by omega)
        go_wp2_with fail
        generalize (wr.alloc (.cells #[.int .i64 s, .int .i64 q, .int .i64 i] 37)) = wu at *
        refine wp_region_quiet_below (by kernel_rfl) (by kernel_rfl) ?_
        repeat (first | go_big_quiet_step (exact Calls.regrown_of (tName_any _ _ _)) | quiet_step (exact Calls.regrown_of (tName_any _ _ _)))
        refine wpQuiet_nil ?_
        intro _ hw'
        obtain ⟨⟨dq, osq⟩, hw''⟩ := hw'
        subst hw''
        have HB2 := Lib.hid (HB1.out.trans ((below_regrown wu dq osq).mono HB1.out.size))
        clear e0 e1 e2 m0 hlk
        generalize Sort.grow (redrawn wu dq) osq = wv at *
        go_wp2
        go_roundw
        case rel => exact ⟨k + 1, by go_num, by omega, HB2.out, fun j hj => by
          by_cases hjk : j = k
          · rw [hjk, HG.out]; exact HWR.out
          · exact HALL.out j (by omega)⟩
        case measure => simp [RowKit.intOf]; omega
      · rw [decide_eq_false hc] at HWR
        have hcd : decide ((c : Int) ≤ i) = true := decide_eq_true (by omega)
        go_wp2_with fail
        generalize (wr.alloc (.cells #[.int .i64 s, .int .i64 q, .int .i64 i] 37)) = wu at *
        refine wp_region_quiet_below (by kernel_rfl) (by kernel_rfl) ?_
        repeat (first | go_big_quiet_step (exact Calls.regrown_of (tName_any _ _ _)) | quiet_step (exact Calls.regrown_of (tName_any _ _ _)))
        refine wpQuiet_nil ?_
        intro _ hw'
        obtain ⟨⟨dq, osq⟩, hw''⟩ := hw'
        subst hw''
        have HB2 := Lib.hid (HB1.out.trans ((below_regrown wu dq osq).mono HB1.out.size))
        clear e0 e1 e2 m0 hlk
        generalize Sort.grow (redrawn wu dq) osq = wv at *
        go_wp2
        go_ret
        refine ⟨ret_bool ?_, HB2.out⟩
        refine (Bool.eq_false_iff.2 (fun h => ?_)).symm
        rw [List.all_eq_true] at h
        have := h _ (List.mem_of_getElem? HG.out)
        rw [HWR.out] at this
        cases this
    · have h0 : k = n := by omega
      have HFIN := Lib.hid (show es.all (Go.Proofs.YthnedehihbploaaGreatDoor.wr l) = true from by
        rw [List.all_eq_true]
        intro e hm
        obtain ⟨j, hj, rfl⟩ := List.getElem_of_mem hm
        have := HALL.out j (by rw [h0, ← HN.out]; exact hj)
        rw [List.getElem?_eq_getElem hj] at this
        exact this)
      go_wp2
      go_ret
      exact ⟨ret_bool HFIN.out.symm, hb⟩
end Go.Proofs.YthnedehihbploaaGreatDoor
