/- package undo: Without, where none leans; the wakes of layer 8 -/
import Derived.Test.YtefgoelkdjendaaGreatDoorULeft
import Derived.Test.YtefgoelkdjendaaGreatDoorDTogs
import Derived.Deep.DeepCutAuto
import Derived.Lib.QuietBelow
import Derived.Deep.QuietTactic
import Derived.BigQuiet
import Derived.IntWalk
import Derived.Test.YtefgoelkdjendaaGreatDoorYNear
import Derived.Deep.CutBlock
namespace Go.Proofs.YtefgoelkdjendaaGreatDoor
open Go.RowKit Go.Lib Go.Sort

def WithPost (l : List OpD) (w : World) (e : Ending) (w' : World) : Prop := ∃ a c L, e = .returned (.tuple #[.slice a l.length c, .int .i64 0]) ∧ OpsAt w' a L ∧ OpR.os L = l ∧ l.length ≤ c ∧ Below w.heap.size w w'
set_option maxRecDepth 100000 in
set_option maxHeartbeats 2000000 in
theorem uWithout_none (a : Option Addr) (cap : Nat) (l : List OpR) (s q : Int) (w : World) (h : OpsAt w a l) (hr : rowP (OpR.os l)) (hf : (⟨s, q, 0⟩ : El).fit) (hn : hasN (OpR.os l) ⟨s, q, 0⟩ = true)
    (hno : ∀ o ∈ OpR.os l, o.kind = 1 → (⟨s, q, 0⟩ : El) ∉ needs o) : Calls Tryz.prog 7 #[.slice a l.length cap, .int .i64 s, .int .i64 q] w (WithPost (leftP ⟨s, q, 0⟩ (OpR.os l)) w) := by
  have hc := uNamed_any a cap l s q w h hr hf
  rw [hn] at hc
  have HC := Lib.hid (show Calls Tryz.prog 17 #[.slice a l.length cap, .int .i64 s, .int .i64 q] w (IntB 0 w) from hc)
  have HLE := Lib.hid (fun (wx : World) (hx : Below w.heap.size w wx) => (by
    have h1 := uLeaning_none a cap l ⟨s, q, 0⟩ wx (h.below hx) hr hf hno
    exact h1 : Calls Tryz.prog 18 #[.slice a l.length cap, .agg #[.int .i64 s, .int .i64 q, .int .i64 0]] wx (NoneP wx)))
  have HLO := Lib.hid (fun (wx : World) (hx : Below w.heap.size w wx) => (by
    have h1 := uLeft_any a cap l ⟨s, q, 0⟩ wx (h.below hx) hr
    exact h1 : Calls Tryz.prog 23 #[.slice a l.length cap, .agg #[.int .i64 s, .int .i64 q, .int .i64 0]] wx (LeftPost (leftP ⟨s, q, 0⟩ (OpR.os l)) wx)))
  unfold LeftPost at HLO
  unfold WithPost
  generalize leftP ⟨s, q, 0⟩ (OpR.os l) = R at *
  generalize l.length = n at *
  clear h hr hf hn hno hc
  go_enter Tryz.func7, Tryz.ntmps7
  go_upto_region 6 with (first
    | (go_at_call 17; refine HC.out.mono ?_; rintro x1 w1 ⟨rfl, hb1⟩; have HB1 := Lib.hid hb1; clear hb1)
    | (go_at_call 19; refine (uName_any _ _ _).mono ?_; rintro x2 w2 ⟨rfl, hb2⟩; have HB2 := Lib.hid (HB1.out.trans (hb2.mono HB1.out.size)); clear hb2)
    | (go_at_call 18; refine (HLE.out _ HB2.out).mono ?_; rintro x3 w3 ⟨rfl, hb3⟩; have HB3 := Lib.hid (HB2.out.trans (hb3.mono HB2.out.size)); clear hb3)
    | fail)
  go_wp2_with (first
    | (go_at_call 19; refine (uName_any _ _ _).mono ?_; rintro x4 w4 ⟨rfl, hb4⟩; have HB4 := Lib.hid (HB3.out.trans (hb4.mono HB3.out.size)); clear hb4)
    | (go_at_call 23; refine (HLO.out _ HB4.out).mono ?_; rintro x5 w5 ⟨a5, c5, L5, rfl, hop5, hos5, hc5, hb5⟩; have HF := Lib.hid (And.intro hop5 (And.intro hos5 (And.intro hc5 (HB4.out.trans (hb5.mono HB4.out.size))))); clear hop5 hos5 hc5 hb5)
    | fail)
  go_ret2
  exact ⟨a5, c5, L5, rfl, HF.out.1, HF.out.2.1, HF.out.2.2.1, HF.out.2.2.2⟩
theorem num8_same (n : Int) (w : World) : Calls Tryz.prog 11 #[.int .i64 n] w fun e w' => e = .returned (.int .i64 n) ∧ w' = w := by
  go_enter Tryz.func11, Tryz.ntmps11
  go_wp2
  go_ret
  exact ⟨rfl, rfl⟩
def uk1 : OpD := ⟨1, 1, 1, ⟨0, 0, 0⟩, ⟨#[97]⟩, [], 0, 0, 0⟩
def uk2 : OpD := ⟨2, 1, 2, ⟨0, 0, 0⟩, ⟨#[]⟩, [], 1, 1, 0⟩
theorem uk_row : rowP [uk1, uk2] := by
  refine ⟨by decide, fun k hk => ?_⟩
  have : k = 0 ∨ k = 1 := by simp at hk; omega
  rcases this with rfl | rfl
  · show tk [] uk1 = true
    kernel_rfl
  · show tk [uk1] uk2 = true
    kernel_rfl
theorem uk_has : hasN [uk1, uk2] ⟨1, 1, 0⟩ = true := by kernel_rfl
theorem uk_not : hasN [uk1, uk2] ⟨2, 1, 0⟩ = false := by kernel_rfl
theorem uk_left : leftP ⟨1, 1, 0⟩ [uk1, uk2] = [] := by kernel_rfl
theorem uk_no : ∀ o ∈ [uk1, uk2], o.kind = 1 → (⟨1, 1, 0⟩ : El) ∉ needs o := by
  intro o ho hk hin
  simp only [List.mem_cons, List.not_mem_nil, or_false] at ho
  rcases ho with rfl | rfl
  · have h3 := needs_own (show okOp uk1 = true from by kernel_rfl) _ hin
    cases h3
  · cases hk
theorem uk_ops (w : World) : OpsAt (w.alloc (.cells #[.int .i64 1, .int .i64 1, .int .i64 1, .int .i64 0, .int .i64 0, .int .i64 0, .string ⟨#[97]⟩, .slice none 0 0, .int .i64 0, .int .i64 0, .int .i64 0, .int .i64 2, .int .i64 1, .int .i64 2, .int .i64 0, .int .i64 0, .int .i64 0, .string ⟨#[]⟩, .slice none 0 0, .int .i64 1, .int .i64 1, .int .i64 0] 33)) (some ⟨w.heap.size, 0, none⟩) [⟨uk1, none, 0⟩, ⟨uk2, none, 0⟩] := by
  refine ⟨fun j hj => ⟨w.heap.size, 0, rfl, by simp, fun c u hu => ?_⟩, fun j hj => ?_, by decide⟩
  · have hj2 : j = 0 ∨ j = 1 := by simp at hj; omega
    have hc : c < 11 := by
      have := (List.getElem?_eq_some_iff.1 hu).1
      rcases hj2 with rfl | rfl <;> exact this
    rw [World.cell?_alloc_new, ← hu]
    have hcc : c = 0 ∨ c = 1 ∨ c = 2 ∨ c = 3 ∨ c = 4 ∨ c = 5 ∨ c = 6 ∨ c = 7 ∨ c = 8 ∨ c = 9 ∨ c = 10 := by omega
    rcases hj2 with rfl | rfl <;> rcases hcc with rfl | rfl | rfl | rfl | rfl | rfl | rfl | rfl | rfl | rfl | rfl <;> rfl
  · have hj2 : j = 0 ∨ j = 1 := by simp at hj; omega
    rcases hj2 with rfl | rfl
    · exact ⟨ElemsAt.nil _, Nat.zero_le _, (show (1 : Nat) ≤ BIG from by decide), fun _ => ⟨rfl, rfl⟩⟩
    · exact ⟨ElemsAt.nil _, Nat.zero_le _, (show (0 : Nat) ≤ BIG from by decide), fun _ => ⟨rfl, rfl⟩⟩
set_option maxRecDepth 100000 in
set_option maxHeartbeats 4000000 in
theorem wakes8_any (w : World) : Calls Tryz.prog 13 #[] w (BoB true w) := by
  have HOP := Lib.hid (fun (w0 : World) => uk_ops w0)
  have HL1 := Lib.hid (fun (g : Nat) (wx : World) (h : OpsAt wx (some ⟨g, 0, none⟩) [⟨uk1, none, 0⟩, ⟨uk2, none, 0⟩]) => (by
    have h1 := uLeans_none (some ⟨g, 0, none⟩) 2 _ 1 1 wx h uk_row (by unfold El.fit in64; simp only; omega) uk_has uk_no
    exact h1 : Calls Tryz.prog 6 #[.slice (some ⟨g, 0, none⟩) 2 2, .int .i64 1, .int .i64 1] wx (NonePair 0 wx)))
  have HL2 := Lib.hid (fun (g : Nat) (wx : World) (h : OpsAt wx (some ⟨g, 0, none⟩) [⟨uk1, none, 0⟩, ⟨uk2, none, 0⟩]) => (by
    have h1 := uLeans_not (some ⟨g, 0, none⟩) 2 _ 2 1 wx h uk_row (by unfold El.fit in64; simp only; omega) uk_not
    exact h1 : Calls Tryz.prog 6 #[.slice (some ⟨g, 0, none⟩) 2 2, .int .i64 2, .int .i64 1] wx (NonePair 3 wx)))
  have HW := Lib.hid (fun (g : Nat) (wx : World) (h : OpsAt wx (some ⟨g, 0, none⟩) [⟨uk1, none, 0⟩, ⟨uk2, none, 0⟩]) => (by
    have h1 := uWithout_none (some ⟨g, 0, none⟩) 2 _ 1 1 wx h uk_row (by unfold El.fit in64; simp only; omega) uk_has uk_no
    rw [show leftP ⟨1, 1, 0⟩ (OpR.os [⟨uk1, none, 0⟩, ⟨uk2, none, 0⟩]) = [] from uk_left] at h1
    refine h1.mono ?_
    rintro e w' ⟨a, c, L, rfl, _, _, _, hb⟩
    exact ⟨a, c, rfl, hb⟩ : Calls Tryz.prog 7 #[.slice (some ⟨g, 0, none⟩) 2 2, .int .i64 1, .int .i64 1] wx (fun e w' => ∃ a c, e = .returned (.tuple #[.slice a 0 c, .int .i64 0]) ∧ Below wx.heap.size wx w')))
  have HB0 := Lib.hid (show Below w.heap.size w (w.alloc (.cells #[.int .i64 1, .int .i64 1, .int .i64 1, .int .i64 0, .int .i64 0, .int .i64 0, .string ⟨#[97]⟩, .slice none 0 0, .int .i64 0, .int .i64 0, .int .i64 0, .int .i64 2, .int .i64 1, .int .i64 2, .int .i64 0, .int .i64 0, .int .i64 0, .string ⟨#[]⟩, .slice none 0 0, .int .i64 1, .int .i64 1, .int .i64 0] 33)) from (Below.refl _ _).alloc (Nat.le_refl _) _)
  have HO0 := Lib.hid (HOP.out w)
  clear HOP
  go_enter Tryz.func13, Tryz.ntmps13
  go_upto_region 2 with fail
  generalize w.alloc (.cells #[.int .i64 1, .int .i64 1, .int .i64 1, .int .i64 0, .int .i64 0, .int .i64 0, .string ⟨#[97]⟩, .slice none 0 0, .int .i64 0, .int .i64 0, .int .i64 0, .int .i64 2, .int .i64 1, .int .i64 2, .int .i64 0, .int .i64 0, .int .i64 0, .string ⟨#[]⟩, .slice none 0 0, .int .i64 1, .int .i64 1, .int .i64 0] 33) = w0 at *
  go_upto_region 3 with (first
    | (go_at_call 6; refine (HL1.out _ w0 HO0.out).mono ?_; rintro x1 w1 ⟨rfl, hb1⟩; have HB1 := Lib.hid hb1; clear hb1)
    | fail)
  go_upto_region 4 with (first
    | (go_at_call 7; refine (HW.out _ w1 (HO0.out.below HB1.out)).mono ?_; rintro x2 w2 ⟨a2, c2, rfl, hb2⟩; have HB2 := Lib.hid (HB1.out.trans (hb2.mono HB1.out.size)); clear hb2)
    | fail)
  go_upto_region 5 with (first
    | (go_at_call 6; refine (HL2.out _ w2 (HO0.out.below HB2.out)).mono ?_; rintro x3 w3 ⟨rfl, hb3⟩; have HB3 := Lib.hid (HB2.out.trans (hb3.mono HB2.out.size)); clear hb3)
    | fail)
  go_wp2_with (first
    | (go_at_call 11; refine (num8_same _ _).mono ?_; rintro x7 w7 ⟨rfl, h7⟩; have h7s := h7.symm; clear h7; subst h7s)
    | fail)
  go_ret
  exact ⟨rfl, HB0.out.trans (HB3.out.mono HB0.out.size)⟩
end Go.Proofs.YtefgoelkdjendaaGreatDoor
/- UndoLast: what each callee gives, in the form that the walk wants -/
namespace Go.Proofs.YtefgoelkdjendaaGreatDoor
open Go.RowKit Go.Lib Go.Sort

theorem ulast_split {D : List OpD} {m : Nat} (h : D.length = m + 1) : ∃ M o, D = M ++ [o] ∧ M.length = m ∧ D[m]? = some o := by
  have hm : m < D.length := by omega
  refine ⟨D.take m, D[m], ?_, by rw [List.length_take]; omega, List.getElem?_eq_getElem hm⟩
  have h1 := List.take_succ_eq_append_getElem hm
  rw [← h1, List.take_of_length_le (by omega)]
theorem leans_gives {a : Option Addr} {c nr : Nat} {rl : List OpR} {M : List OpD} {o : OpD} (w : World) (h : OpsAt w a rl) (hl : rl.length = nr) (hd : OpR.os rl = M ++ [o]) (hr : rowP (M ++ [o])) (hk : o.kind = 1) :
    Calls Tryz.prog 6 #[.slice a nr c, .int .i64 o.site, .int .i64 o.seq] w (NonePair 0 w) := by
  subst hl
  have hok := (tk_goes (eRow_snoc hr.2).2).1
  exact uLeans_none a c rl o.site o.seq w h (by rw [hd]; exact hr) (names_fit hok).1 (by rw [hd]; exact last_has hk) (fun x hx _ => last_needs hr.2 x (by rw [← hd]; exact hx))
theorem with_gives {a : Option Addr} {c nr m : Nat} {rl : List OpR} {M : List OpD} {o : OpD} (w : World) (h : OpsAt w a rl) (hl : rl.length = nr) (hd : OpR.os rl = M ++ [o]) (hr : rowP (M ++ [o])) (hk : o.kind = 1) (hm : M.length = m) :
    Calls Tryz.prog 7 #[.slice a nr c, .int .i64 o.site, .int .i64 o.seq] w (fun e w' => ∃ a5 c5 L5, e = .returned (.tuple #[.slice a5 m c5, .int .i64 0]) ∧ OpsAt w' a5 L5 ∧ OpR.os L5 = M ∧ Below w.heap.size w w') := by
  subst hl hm
  have hok := (tk_goes (eRow_snoc hr.2).2).1
  have h1 := uWithout_none a c rl o.site o.seq w h (by rw [hd]; exact hr) (names_fit hok).1 (by rw [hd]; exact last_has hk) (fun x hx _ => last_needs hr.2 x (by rw [← hd]; exact hx))
  rw [hd, left_last hr.2] at h1
  refine h1.mono ?_
  rintro e w' ⟨a5, c5, L5, rfl, h2, h3, _, h4⟩
  exact ⟨a5, c5, L5, rfl, h2, h3, h4⟩
theorem many_gives {a : Option Addr} {c nr : Nat} {rl : List OpR} {D : List OpD} {s : Int} (w : World) (h : OpsAt w a rl) (hl : rl.length = nr) (hd : OpR.os rl = D) :
    Calls Tryz.prog 8 #[.slice a nr c, .int .i64 s] w (IntB (cnt D s) w) := by
  subst hl hd
  exact rMany_any a c rl s w h
theorem behl_gives {a : Option Addr} {c nr : Nat} {rl : List OpR} {D : List OpD} {s q x y g : Int} (w : World) (h : OpsAt w a rl) (hl : rl.length = nr) (hd : OpR.os rl = D) (hr : rowP D) :
    Calls Tryz.prog 10 #[.slice a nr c, .agg #[.int .i64 s, .int .i64 q, .int .i64 2, .int .i64 0, .int .i64 0, .int .i64 0, .string ⟨#[]⟩, .slice none 0 0, .int .i64 x, .int .i64 y, .int .i64 g]] w (fun e w' => ∃ a5 c5 L5, e = .returned (.slice a5 (nr + 1) c5) ∧ OpsAt w' a5 L5 ∧ L5.length = nr + 1 ∧ OpR.os L5 = D ++ [togD s q x y g] ∧ Below w.heap.size w w') := by
  subst hl
  have hl40 : rl.length ≤ 40 := by have h9 := hr.1; rw [← hd, olen] at h9; exact h9
  have hg : ∀ r ∈ rl, r.o.gone.length ≤ 1000000 := fun r hr2 => by
    have h9 := (gone_ok (row_ok hr.2 r.o (by rw [← hd]; exact List.mem_map_of_mem hr2))).1
    omega
  refine (rBehind_any a c rl (togD s q x y g) none 0 w h hg (by omega) (ElemsAt.nil none) (Nat.zero_le _) (Nat.zero_le _)).mono ?_
  rintro e w' ⟨v, L2, rfl, hown, hos, hb⟩
  have hlen : L2.length = rl.length + 1 := by
    have h9 := congrArg List.length hos
    rw [os_len, List.length_append, os_len] at h9
    exact h9
  obtain ⟨a2, c2, hv, hops, hc⟩ := hown.ops (by rw [hlen]; unfold BIG; omega)
  rw [hlen] at hv
  exact ⟨a2, c2, L2, by rw [hv], hops, hlen, by rw [hos, hd], hb⟩
theorem texta_gives {a : Option Addr} {c nr : Nat} {L : List OpR} {M : List OpD} {o : OpD} {s : Int} (w : World) (h : OpsAt w a L) (hl : L.length = nr) (hd : OpR.os L = M ++ [o] ++ [togD s ((cnt (M ++ [o]) s : Int) + 1) o.site o.seq 0]) (hr : rowP (M ++ [o])) (h40 : (M ++ [o]).length + 1 ≤ 40) (hk : o.kind = 1) (hs : 1 ≤ s ∧ s ≤ 8) :
    Calls Tryz.prog 9 #[.slice a nr c] w (TextPost (docT M) 0 w) := by
  subst hl
  have hrt := tog_row hr h40 hs (last_has hk) (g := 0) (by omega)
  have h1 := dText_ok a c L w h (by rw [hd]; exact hrt)
  rw [hd, last_text hr.2 hk s] at h1
  exact h1
theorem textb_gives {a : Option Addr} {c m : Nat} {rl : List OpR} {M : List OpD} {o : OpD} (w : World) (h : OpsAt w a rl) (hd : OpR.os rl = M ++ [o]) (hm : M.length = m) (hr : rowP (M ++ [o])) :
    Calls Tryz.prog 9 #[.slice a m c] w (TextPost (docT M) 0 w) := by
  have hlen : rl.length = m + 1 := by
    have h9 := congrArg List.length hd
    rw [os_len, List.length_append, hm] at h9
    exact h9
  have ht : OpR.os (rl.take m) = M := by
    rw [← os_take, hd, ← hm, List.take_left]
  have h1 := dText_ok a c (rl.take m) w (h.take m) (by rw [ht]; have h9 := rowP_take hr m; rwa [← hm, List.take_left] at h9)
  rw [ht, show (rl.take m).length = m from by rw [List.length_take]; omega] at h1
  exact h1
theorem eql_gives {a a5 : Option Addr} {c c5 m : Nat} {rl L5 : List OpR} {M : List OpD} {o : OpD} (w : World) (h : OpsAt w a rl) (hd : OpR.os rl = M ++ [o]) (hm : M.length = m) (hr : rowP (M ++ [o])) (h5 : OpsAt w a5 L5) (hd5 : OpR.os L5 = M) :
    Calls Tryz.prog 12 #[.slice a5 m c5, .slice a m c] w (BoB true w) := by
  have hlen : rl.length = m + 1 := by
    have h9 := congrArg List.length hd
    rw [os_len, List.length_append, hm] at h9
    exact h9
  have ht : OpR.os (rl.take m) = M := by
    rw [← os_take, hd, ← hm, List.take_left]
  have hl5 : L5.length = m := by rw [← hm, ← hd5, os_len]
  have hm40 : m ≤ 40 := by have := hr.1; rw [List.length_append, hm] at this; omega
  have hg : ∀ r ∈ L5, r.o.gone.length ≤ 1000000 := fun r hr2 => by
    have h9 := (gone_ok (row_ok (eRow_snoc hr.2).1 r.o (by rw [← hd5]; exact List.mem_map_of_mem hr2))).1
    omega
  have h1 := EqOps_yes a5 a c5 c L5 (rl.take m) w h5 (h.take m) (by rw [hd5, ht]) hg (by omega)
  rw [hl5, show (rl.take m).length = m from by rw [List.length_take]; omega] at h1
  exact h1
end Go.Proofs.YtefgoelkdjendaaGreatDoor
/- UndoLast: regions as theorems of their own -/
namespace Go.Proofs.YtefgoelkdjendaaGreatDoor
open Go.RowKit Go.Lib Go.Sort

noncomputable def regLa (n : Nat) : Code := ((Tryz.f3.body.bind (uRegOf n)).getD .skip)
set_option maxRecDepth 100000 in
set_option maxHeartbeats 8000000 in
theorem la_r7 {u0 u1 u2 u3 u5 u6 u7 u8 u9 u10 u11 u12 u13 u14 u15 u16 u17 u18 u19 u20 u21 u22 u23 u24 u25 u26 u27 u28 u29 u30 u31 u32 u33 u34 u35 u36 u37 u38 u39 u40 u41 u42 u43 u44 u45 u46 u47 u48 u49 u50 u51 u52 u53 u54 u55 u56 u57 u58 u59 u60 u61 u62 u63 u64 u65 u66 u67 u68 u69 u70 u71 u72 u73 u74 u75 u76 u77 u78 u79 u80 u81 u82 u83 u84 u85 u86 u87 u88 u89 u90 u91 u92 u93 u94 u95 u96 u97 u98 u99 u100 u101 u102 u103 u104 u105 u106 u107 u108 u109 u110 u111 u112 u113 u114 u115 u116 u117 u118 u119 u120 u121 u122 u123 u124 u125 u126 u127 u128 u129 u130 u131 u132 u133 u134 u135 u136 u137 u138 u139 u140 u141 u142 u143 u144 u145 u146 u147 u148 : Value}
    {b2 off2 nr rc m : Nat} {kind : Int} {b : Bool} (w : World)
    (HRR : RowKit.Hid (Calls Tryz.prog 5 #[.slice (some ⟨b2, off2, none⟩) nr rc] w (fun e w' => e = .returned (.bool true) ∧ Below w.heap.size w w')))
    (HD : RowKit.Hid (∀ wx : World, Below w.heap.size w wx → wx.cell? ⟨b2, off2 + m * 11 + 2, none⟩ = some (.int .i64 kind) ∧ b2 < wx.heap.size))
    (hm : nr = m + 1) (h40 : nr < 40) (hb : (!decide (kind = 1)) = b)
    {K : Act → World → Prop} {Q : Exit → Act → World → Prop} (hK : ∀ (v33 v34 v35 v36 v37 v38 v39 v40 v41 v42 v43 v44 v45 v46 v47 v48 v49 v50 v51 v52 v53 v54 : Value) (wx : World), Below w.heap.size w wx → K ⟨#[u0, u1, u2, u3, .slice (some ⟨b2, off2, none⟩) nr rc, u5, u6, u7, u8, u9, u10, u11, u12, u13, u14, u15, u16, u17, u18, u19, u20, u21, u22, u23, u24, u25, u26, u27, u28, u29, u30, u31, u32, v33, v34, v35, v36, v37, v38, v39, v40, v41, v42, v43, v44, v45, v46, v47, v48, v49, v50, v51, v52, v53, v54, .bool b, u56, u57, u58, u59, u60, u61, u62, u63, u64, u65, u66, u67, u68, u69, u70, u71, u72, u73, u74, u75, u76, u77, u78, u79, u80, u81, u82, u83, u84, u85, u86, u87, u88, u89, u90, u91, u92, u93, u94, u95, u96, u97, u98, u99, u100, u101, u102, u103, u104, u105, u106, u107, u108, u109, u110, u111, u112, u113, u114, u115, u116, u117, u118, u119, u120, u121, u122, u123, u124, u125, u126, u127, u128, u129, u130, u131, u132, u133, u134, u135, u136, u137, u138, u139, u140, u141, u142, u143, u144, u145, u146, u147, u148], []⟩ wx) :
    Code.wp Tryz.prog (regLa 7) (Exit.then K Q) ⟨#[u0, u1, u2, u3, .slice (some ⟨b2, off2, none⟩) nr rc, u5, u6, u7, u8, u9, u10, u11, u12, u13, u14, u15, u16, u17, u18, u19, u20, u21, u22, u23, u24, u25, u26, u27, u28, u29, u30, u31, u32, u33, u34, u35, u36, u37, u38, u39, u40, u41, u42, u43, u44, u45, u46, u47, u48, u49, u50, u51, u52, u53, u54, u55, u56, u57, u58, u59, u60, u61, u62, u63, u64, u65, u66, u67, u68, u69, u70, u71, u72, u73, u74, u75, u76, u77, u78, u79, u80, u81, u82, u83, u84, u85, u86, u87, u88, u89, u90, u91, u92, u93, u94, u95, u96, u97, u98, u99, u100, u101, u102, u103, u104, u105, u106, u107, u108, u109, u110, u111, u112, u113, u114, u115, u116, u117, u118, u119, u120, u121, u122, u123, u124, u125, u126, u127, u128, u129, u130, u131, u132, u133, u134, u135, u136, u137, u138, u139, u140, u141, u142, u143, u144, u145, u146, u147, u148], []⟩ w := by
  have HK := Lib.hid hK
  clear hK
  have HSUB : (nr : Int) - 1 = (m : Int) := by omega
  have f0 : decide ((nr : Int) = 0) = false := decide_eq_false (by omega)
  have f1 : decide ((40 : Int) ≤ (nr : Int)) = false := decide_eq_false (by omega)
  have g0 : ¬ ((nr : Int) = 0) := by omega
  have g1 : ¬ ((40 : Int) ≤ (nr : Int)) := by omega
  have g2 : (m : Int) < (nr : Int) := by omega
  have g3 : (nr : Int) < 40 := by omega
  have g4 : (0 : Int) ≤ (m : Int) := by omega
  have f2 : ((nr : Int) == 0) = false := by rw [beq_eq_false_iff_ne]; omega
  clear hm h40
  conv => arg 2; whnf
  by_cases hk : kind = 1
  · subst hk
    have hbb : b = false := by rw [← hb]; rfl
    subst hbb
    clear hb
    go_wp2_with (first
      | (go_at_call 5; refine HRR.out.mono ?_; rintro e1 w1 ⟨rfl, hb1⟩; obtain ⟨y2, yl⟩ := HD.out w1 hb1)
      | fail)
    exact HK.out _ _ _ _ _ _ _ _ _ _ _ _ _ _ _ _ _ _ _ _ _ _ _ hb1
  · have hbb : b = true := by rw [← hb, decide_eq_false hk]; rfl
    subst hbb
    clear hb
    have f3 : (kind == 1) = false := by rw [beq_eq_false_iff_ne]; exact hk
    have f4 : decide (kind = 1) = false := decide_eq_false hk
    have f5 : (kind != 1) = true := by rw [bne_iff_ne]; exact hk
    have f6 : (!decide (kind = 1)) = true := by rw [f4]; rfl
    go_wp2_with (first
      | (go_at_call 5; refine HRR.out.mono ?_; rintro e1 w1 ⟨rfl, hb1⟩; obtain ⟨y2, yl⟩ := HD.out w1 hb1)
      | fail)
    exact HK.out _ _ _ _ _ _ _ _ _ _ _ _ _ _ _ _ _ _ _ _ _ _ _ hb1

set_option maxRecDepth 100000 in
set_option maxHeartbeats 8000000 in
theorem la_r15 {u0 u1 u2 u3 u5 u10 u15 u16 u17 u18 u19 u20 u21 u22 u23 u24 u25 u26 u27 u28 u29 u30 u31 u32 u33 u34 u35 u36 u37 u38 u39 u40 u41 u42 u43 u44 u45 u46 u47 u48 u49 u50 u51 u52 u53 u54 u55 u56 u57 u58 u59 u60 u61 u62 u63 u64 u65 u66 u67 u68 u69 u70 u71 u72 u73 u74 u75 u76 u77 u78 u79 u80 u81 u82 u83 u84 u85 u86 u87 u88 u89 u90 u91 u92 u93 u94 u95 u96 u97 u98 u99 u100 u101 u102 u103 u104 u105 u106 u107 u108 u109 u110 u111 u112 u113 u114 u115 u116 u117 u118 u119 u120 u121 u122 u123 u124 u125 u126 u127 u128 u129 u130 u131 u132 u133 u134 u135 u136 u137 u138 u139 u140 u141 u142 u143 u144 u145 u146 u147 u148 : Value}
    {b2 off2 nr rc m c5 : Nat} {a5 : Option Addr} {tx : List UInt8} (w : World)
    (HEQ : RowKit.Hid (Calls Tryz.prog 12 #[.slice a5 m c5, .slice (some ⟨b2, off2, none⟩) m rc] w (BoB true w)))
    (hm : nr = m + 1) (h40 : nr < 40) (hrc : nr ≤ rc)
    {K : Act → World → Prop} {Q : Exit → Act → World → Prop} (hK : ∀ (v110 v111 v112 v113 v114 v115 v116 v117 v118 v119 v120 v121 v122 v123 v124 v125 v126 v127 v128 v129 v130 v131 v132 v133 v134 v135 v136 v137 v138 v139 v140 v141 v142 v143 v144 v145 v146 : Value) (wx : World), Below w.heap.size w wx → K ⟨#[u0, u1, u2, u3, .slice (some ⟨b2, off2, none⟩) nr rc, u5, .slice none 0 0, .int .i64 0, .slice a5 m c5, .int .i64 0, u10, S tx, .int .i64 0, S tx, .int .i64 0, u15, u16, u17, u18, u19, u20, u21, u22, u23, u24, u25, u26, u27, u28, u29, u30, u31, u32, u33, u34, u35, u36, u37, u38, u39, u40, u41, u42, u43, u44, u45, u46, u47, u48, u49, u50, u51, u52, u53, u54, u55, u56, u57, u58, u59, u60, u61, u62, u63, u64, u65, u66, u67, u68, u69, u70, u71, u72, u73, u74, u75, u76, u77, u78, u79, u80, u81, u82, u83, u84, u85, u86, u87, u88, u89, u90, u91, u92, u93, u94, u95, u96, u97, u98, u99, u100, u101, u102, u103, u104, u105, u106, u107, u108, u109, v110, v111, v112, v113, v114, v115, v116, v117, v118, v119, v120, v121, v122, v123, v124, v125, v126, v127, v128, v129, v130, v131, v132, v133, v134, v135, v136, v137, v138, v139, v140, v141, v142, v143, v144, v145, v146, .bool false, u148], []⟩ wx) :
    Code.wp Tryz.prog (regLa 15) (Exit.then K Q) ⟨#[u0, u1, u2, u3, .slice (some ⟨b2, off2, none⟩) nr rc, u5, .slice none 0 0, .int .i64 0, .slice a5 m c5, .int .i64 0, u10, S tx, .int .i64 0, S tx, .int .i64 0, u15, u16, u17, u18, u19, u20, u21, u22, u23, u24, u25, u26, u27, u28, u29, u30, u31, u32, u33, u34, u35, u36, u37, u38, u39, u40, u41, u42, u43, u44, u45, u46, u47, u48, u49, u50, u51, u52, u53, u54, u55, u56, u57, u58, u59, u60, u61, u62, u63, u64, u65, u66, u67, u68, u69, u70, u71, u72, u73, u74, u75, u76, u77, u78, u79, u80, u81, u82, u83, u84, u85, u86, u87, u88, u89, u90, u91, u92, u93, u94, u95, u96, u97, u98, u99, u100, u101, u102, u103, u104, u105, u106, u107, u108, u109, u110, u111, u112, u113, u114, u115, u116, u117, u118, u119, u120, u121, u122, u123, u124, u125, u126, u127, u128, u129, u130, u131, u132, u133, u134, u135, u136, u137, u138, u139, u140, u141, u142, u143, u144, u145, u146, u147, u148], []⟩ w := by
  have HK := Lib.hid hK
  clear hK
  unfold BoB at HEQ
  have HSUB : (nr : Int) - 1 = (m : Int) := by omega
  have g2 : (m : Int) < (nr : Int) := by omega
  have g3 : (nr : Int) < 40 := by omega
  have g4 : (0 : Int) ≤ (m : Int) := by omega
  have g5 : (m : Int) ≤ (rc : Int) := by omega
  have g6 : m ≤ rc := by omega
  clear hm h40
  conv => arg 2; whnf
  go_wp2_with (first
    | (go_at_call 11; refine (num8_same _ _).mono ?_; rintro xn wn ⟨rfl, hnn⟩; have hns := hnn.symm; clear hnn; subst hns)
    | (go_at_call 12; refine HEQ.out.mono ?_; rintro e1 w1 ⟨rfl, hb1⟩)
    | fail)
  exact HK.out _ _ _ _ _ _ _ _ _ _ _ _ _ _ _ _ _ _ _ _ _ _ _ _ _ _ _ _ _ _ _ _ _ _ _ _ _ _ hb1
end Go.Proofs.YtefgoelkdjendaaGreatDoor
/- UndoLast: the walk -/
namespace Go.Proofs.YtefgoelkdjendaaGreatDoor
open Go.RowKit Go.Lib Go.Sort

set_option maxRecDepth 100000 in
set_option maxHeartbeats 32000000 in
theorem undoLast_walk (p : AskD) (W : World) (h : AskAt W p) (hT : Tabs W) : Calls Tryz.prog 3 #[p.v] W (BoB true W) := by
  have HHV := Lib.hid (fun wx (hx : Below W.heap.size W wx) => Heavy_light p wx (h.below hx))
  have HX := Lib.hid (BoxA.new W p)
  have hb0 : Below W.heap.size W (W.alloc p.obj) := (Below.refl _ _).alloc (Nat.le_refl _) _
  have HB0 := Lib.hid hb0
  have HRW := Lib.hid h.l
  have hl3 := h.l.len
  have HWK := Lib.hid wakes8_any
  have HTB := Lib.hid (fun wx (hx : Below W.heap.size W wx) => hT.next hx)
  clear h hb0 hT
  unfold AskD.v at HHV ⊢
  generalize hLP : Light p = LP at HHV
  have HLP := Lib.hid (show LP → Light p from fun h => by rw [hLP]; exact h)
  clear hLP
  unfold Light at HLP
  obtain ⟨lr, le, lo, ln, ar, ae, ao, an, cr, ce, co, cn⟩ := p
  unfold AskD.obj at HX HB0
  simp only at HHV HX HB0 HRW hl3 HLP ⊢
  have hbi := big_is
  obtain ⟨n0, hn0⟩ : ∃ n, lr.length = n := ⟨_, rfl⟩
  have HL0 := Lib.hid hn0
  have h0a : (n0 : Int) ≤ 140737488351232 := by omega
  rw [hn0] at HHV HX HB0 ⊢
  clear hl3 hbi hn0
  generalize hn2 : le.length = n2 at *
  generalize hn1 : lo.length = n1 at *
  generalize hn3 : ln.length = n3 at *
  have HL2 := Lib.hid hn2
  have HL1 := Lib.hid hn1
  have HL3 := Lib.hid hn3
  clear hn1 hn2 hn3
  go_enter Tryz.func3, Tryz.ntmps3
  go_wp2_with (first | (go_at_call 4; refine (HHV.out _ HB0.out).mono ?_; rintro x1 w1 ⟨b1, rfl, hlp, hb1⟩; have HPP := Lib.hid hlp; have HB1 := Lib.hid (HB0.out.trans (hb1.mono HB0.out.size)); have HA1 := Lib.hid (HX.out.next hb1 HX.out.lt); clear hb1 hlp; cases b1) | fail)
  rotate_left
  · go_wp2_with fail
    go_ret
    exact ⟨rfl, HB1.out⟩
  have HLT := Lib.hid (HLP.out (HPP.out (by simp)))
  clear HLP HPP
  go_wp2_with fail
  clear HHV
  have HXX := Lib.hid (fun (wx : World) (hx : Below w1.heap.size w1 wx) => And.intro ((hx.cell (p := ⟨W.heap.size, 0, none⟩) HA1.out.lt).trans HA1.out.c0) (And.intro ((hx.cell (p := ⟨W.heap.size, 1, none⟩) HA1.out.lt).trans HA1.out.c1) (And.intro ((hx.cell (p := ⟨W.heap.size, 2, none⟩) HA1.out.lt).trans HA1.out.c2) (And.intro ((hx.cell (p := ⟨W.heap.size, 3, none⟩) HA1.out.lt).trans HA1.out.c3) (And.intro (Nat.lt_of_lt_of_le HA1.out.lt hx.size) (HB1.out.trans (hx.mono HB1.out.size)))))))
  simp only [HL0.out, HL1.out, HL2.out, HL3.out] at HXX
  go_loopw [3] (fun s3 wr => ∃ i : Nat, s3 = .int .i64 i ∧ i ≤ n0 ∧ Below w1.heap.size w1 wr) (fun s3 _ => n0 - (RowKit.intOf s3).toNat)
  case atStart => exact ⟨0, rfl, Nat.zero_le _, Below.refl _ _⟩
  case round =>
    obtain ⟨i, rfl, hi, hb⟩ := hrel
    obtain ⟨q0, q1, q2, q3, hq0, hbW⟩ := HXX.out _ hb
    have HB := Lib.hid hb
    have HBW := Lib.hid hbW
    by_cases hlt : i < n0
    · by_cases h4 : (i : Int) < 4
      · have hil : i < lr.length := by rw [HL0.out]; exact hlt
        obtain ⟨b, off, rfl, hbb, cW⟩ := HRW.out.cell i hil
        have hro := HRW.out.row i hil
        have hlr := light_row (HLT.out.2.2.2 i hil)
        generalize lr[i] = r at *
        clear hil
        obtain ⟨rl, ra, rc⟩ := r
        simp only at cW hro hlr
        have HSZ := Lib.hid (show ∀ q ∈ OpR.os rl, q.text.size ≤ 60000 from fun q hq => by
          obtain ⟨r2, h2, h3⟩ := List.mem_map.1 hq
          rw [← h3]
          have := (hlr.2 r2 h2).1
          omega)
        have HRO := Lib.hid (fun (wx : World) (hx : Below W.heap.size W wx) => hro.1.below hx)
        have HGN := Lib.hid (show ∀ L : List OpR, OpR.os L = OpR.os rl → ∀ r ∈ L, r.o.gone.length ≤ 1000000 from fun L hL r hr => by
          have h1 : r.o ∈ OpR.os rl := by rw [← hL]; exact List.mem_map_of_mem hr
          obtain ⟨r2, h2, h3⟩ := List.mem_map.1 h1
          rw [← h3]
          have := (hlr.2 r2 h2).2
          omega)
        obtain ⟨nr, hnr⟩ : ∃ n, rl.length = n := ⟨_, rfl⟩
        have HNR := Lib.hid hnr
        have HCAP : RowKit.Hid (nr ≤ rc) := Lib.hid (by rw [← hnr]; exact hro.2)
        rw [hnr] at cW
        have HCW := Lib.hid (fun (wx : World) (hx : Below W.heap.size W wx) => And.intro ((hx.cell (p := ⟨b, off + i, none⟩) hbb).trans cW) (Nat.lt_of_lt_of_le hbb hx.size))
        obtain ⟨cr0, hbr⟩ := HCW.out _ hbW
        clear hnr hro hb hbW cW HRW hlr
        have HRR := Lib.hid (fun (wx : World) (hx : Below W.heap.size W wx) => (show Calls Tryz.prog 5 #[.slice ra nr rc] wx (BoB (rowB (OpR.os rl)) wx) from (by
          have h9 := rRow_any ra rc rl wx (HTB.out _ hx) (fun r hr => HSZ.out r.o (List.mem_map_of_mem hr)) (HRO.out _ hx) (by rw [HNR.out]; exact HCAP.out)
          rw [HNR.out] at h9
          exact h9)))
        have HDL := Lib.hid (show (OpR.os rl).length = nr from by rw [olen]; exact HNR.out)
        have hi4 : (i : Int) < (n0 : Int) := by omega
        by_cases hrow : rowP (OpR.os rl)
        · rw [show rowB (OpR.os rl) = true from (rowB_iff _).2 hrow] at HRR
          unfold BoB at HRR
          have hn40 : nr ≤ 40 := by have h9 := hrow.1; rw [HDL.out] at h9; exact h9
          by_cases hz : nr = 0
          · as_aux_lemma =>
            -- @A
            subst hz
            clear hrow
            go_wp2_with (first
              | (go_at_call 5; refine (HRR.out wr HBW.out).mono ?_; rintro x4 w4 ⟨rfl, hb4⟩; have HB4 := Lib.hid (HB.out.trans (hb4.mono HB.out.size)); clear hb4)
              | fail)
            go_roundw
            case rel => exact ⟨i + 1, by go_num, by omega, HB4.out⟩
            case measure => simp [RowKit.intOf]; omega
            -- @A end
          · by_cases h40 : nr = 40
            · as_aux_lemma =>
              -- @B
              subst h40
              clear hrow
              go_wp2_with (first
                | (go_at_call 5; refine (HRR.out wr HBW.out).mono ?_; rintro x4 w4 ⟨rfl, hb4⟩; have HB4 := Lib.hid (HB.out.trans (hb4.mono HB.out.size)); clear hb4)
                | fail)
              go_roundw
              case rel => exact ⟨i + 1, by go_num, by omega, HB4.out⟩
              case measure => simp [RowKit.intOf]; omega
              -- @B end
            · obtain ⟨m, hm⟩ : ∃ m, nr = m + 1 := ⟨nr - 1, by omega⟩
              have hml : m < rl.length := by rw [HNR.out]; omega
              have HSUB : (nr : Int) - 1 = (m : Int) := by omega
              obtain ⟨b2, off2, hra2, hb2, d0, d1, d2, d3, d4, d5, d6, d7, d8, d9, da⟩ := (HRO.out _ (Below.refl _ _)).cells m hml
              subst hra2
              have HD := Lib.hid (fun (wx : World) (hx : Below W.heap.size W wx) => And.intro ((hx.cell (p := ⟨b2, off2 + m * 11, none⟩) hb2).trans d0) (And.intro ((hx.cell (p := ⟨b2, off2 + m * 11 + 1, none⟩) hb2).trans d1) (And.intro ((hx.cell (p := ⟨b2, off2 + m * 11 + 2, none⟩) hb2).trans d2) (And.intro ((hx.cell (p := ⟨b2, off2 + m * 11 + 3, none⟩) hb2).trans d3) (And.intro ((hx.cell (p := ⟨b2, off2 + m * 11 + 4, none⟩) hb2).trans d4) (And.intro ((hx.cell (p := ⟨b2, off2 + m * 11 + 5, none⟩) hb2).trans d5) (And.intro ((hx.cell (p := ⟨b2, off2 + m * 11 + 6, none⟩) hb2).trans d6) (And.intro ((hx.cell (p := ⟨b2, off2 + m * 11 + 7, none⟩) hb2).trans d7) (And.intro ((hx.cell (p := ⟨b2, off2 + m * 11 + 8, none⟩) hb2).trans d8) (And.intro ((hx.cell (p := ⟨b2, off2 + m * 11 + 9, none⟩) hb2).trans d9) (And.intro ((hx.cell (p := ⟨b2, off2 + m * 11 + 10, none⟩) hb2).trans da) (Nat.lt_of_lt_of_le hb2 hx.size))))))))))))
              have hos := os_get hml
              obtain ⟨M, o, hMo, hMl, hget⟩ := ulast_split (D := OpR.os rl) (m := m) (by rw [HDL.out, hm])
              have ho : o = rl[m].o := Option.some.inj (hget.symm.trans hos)
              subst ho
              have HMM := Lib.hid hm
              have HMO := Lib.hid hMo
              have HML := Lib.hid hMl
              have HROW := Lib.hid (show rowP (M ++ [rl[m].o]) from by rw [← hMo]; exact hrow)
              have f0 : decide ((nr : Int) = 0) = false := decide_eq_false (by omega)
              have f1 : decide ((40 : Int) ≤ (nr : Int)) = false := decide_eq_false (by omega)
              have g0 : ¬ ((nr : Int) = 0) := by omega
              have g1 : ¬ ((40 : Int) ≤ (nr : Int)) := by omega
              have g2 : (m : Int) < (nr : Int) := by omega
              clear hm hos hMo hMl hget hrow d0 d1 d2 d3 d4 d5 d6 d7 d8 d9 da
              by_cases hk : rl[m].o.kind = 1
              · as_aux_lemma =>
                -- @E
                have HLE := Lib.hid (fun (wx : World) (hx : Below W.heap.size W wx) => leans_gives (c := rc) wx (HRO.out _ hx) HNR.out HMO.out HROW.out hk)
                have HWI := Lib.hid (fun (wx : World) (hx : Below W.heap.size W wx) => with_gives (c := rc) wx (HRO.out _ hx) HNR.out HMO.out HROW.out hk HML.out)
                have HMA := Lib.hid (fun (s : Int) (wx : World) (hx : Below W.heap.size W wx) => many_gives (s := s) (c := rc) wx (HRO.out _ hx) HNR.out HMO.out)
                have HBE := Lib.hid (fun (s q x y g : Int) (wx : World) (hx : Below W.heap.size W wx) => behl_gives (c := rc) (s := s) (q := q) (x := x) (y := y) (g := g) wx (HRO.out _ hx) HNR.out HMO.out HROW.out)
                have HTA := Lib.hid (fun (s : Int) (hs : 1 ≤ s ∧ s ≤ 8) (a5 : Option Addr) (c5 : Nat) (L5 : List OpR) (wx : World) (h5 : OpsAt wx a5 L5) (hl5 : L5.length = nr + 1) hos5 => texta_gives (c := c5) wx h5 hl5 hos5 HROW.out (by rw [List.length_append, HML.out]; show m + 1 + 1 ≤ 40; omega) hk hs)
                have HTB := Lib.hid (fun (wx : World) (hx : Below W.heap.size W wx) => textb_gives (c := rc) wx (HRO.out _ hx) HMO.out HML.out HROW.out)
                have HEQ := Lib.hid (fun (a5 : Option Addr) (c5 : Nat) (L5 : List OpR) (wx : World) (hx : Below W.heap.size W wx) (h5 : OpsAt wx a5 L5) (hos5 : OpR.os L5 = M) => eql_gives (c := rc) (c5 := c5) wx (HRO.out _ hx) HMO.out HML.out HROW.out h5 hos5)
                have hsq := okOp_name (tk_goes (eRow_snoc HROW.out.2).2).1
                have HCNT := Lib.hid (fun s => cnt_le_len (M ++ [rl[m].o]) s)
                have HMLN := Lib.hid (show (M ++ [rl[m].o]).length ≤ 40 from by rw [List.length_append, HML.out]; show m + 1 ≤ 40; omega)
                have HBN := Lib.hid (fun (wx : World) => BoxO.new wx rl[m].o rl[m].a rl[m].cap)
                generalize OpR.os rl = D0 at *
                generalize rl[m] = r at *
                obtain ⟨⟨site, seq, kind, ⟨es, eq, ei⟩, text, gone, of, num, gen⟩, ga, gc⟩ := r
                unfold OpD.obj at HBN
                simp only at HD hk HLE HWI HMA HBE HTA HTB HEQ hsq HCNT HMLN HBN HMO HROW
                subst hk
                clear HMO hml HNR HDL HSZ HRO HGN
                unfold NonePair at HLE
                have HMA1 := Lib.hid (fun (wx : World) (hx : Below W.heap.size W wx) => HMA.out (1 + (i : Int)) wx hx)
                have HBE1 := Lib.hid (fun (wx : World) (hx : Below W.heap.size W wx) => HBE.out (1 + (i : Int)) ((cnt (M ++ [(⟨site, seq, 1, ⟨es, eq, ei⟩, text, gone, of, num, gen⟩ : OpD)]) (1 + (i : Int)) : Int) + 1) site seq 0 wx hx)
                have HTA1 := Lib.hid (fun a5 c5 L5 wx h5 hl5 hos5 => HTA.out (1 + (i : Int)) ⟨by omega, by omega⟩ a5 c5 L5 wx h5 hl5 hos5)
                have hcn := Nat.le_trans (HCNT.out (1 + (i : Int))) HMLN.out
                clear HMA HBE HTA HCNT HMLN
                generalize hcc : cnt (M ++ [(⟨site, seq, 1, ⟨es, eq, ei⟩, text, gone, of, num, gen⟩ : OpD)]) (1 + (i : Int)) = cn at *
                clear hcc
                unfold IntB at HMA1
                unfold TextPost at HTA1 HTB
                generalize docT M = tx at *
                have g5 : (m : Int) ≤ (rc : Int) := by have h9 := HCAP.out; omega
                have g6 : m ≤ rc := by have h9 := HCAP.out; omega
                go_upto_region 7 with fail
                refine la_r7 wr (b := false) (Lib.hid (HRR.out wr HBW.out)) (Lib.hid (fun (wx : World) (hx : Below wr.heap.size wr wx) => (by obtain ⟨_, _, e2, _, _, _, _, _, _, _, _, el⟩ := HD.out wx (HBW.out.trans (hx.mono HBW.out.size)); exact ⟨e2, el⟩))) HMM.out (by omega) rfl ?_
                intro v33 v34 v35 v36 v37 v38 v39 v40 v41 v42 v43 v44 v45 v46 v47 v48 v49 v50 v51 v52 v53 v54 w4 hb4
                have HB4 := Lib.hid (HB.out.trans (hb4.mono HB.out.size))
                have HBW4 := Lib.hid (HBW.out.trans (hb4.mono HBW.out.size))
                clear hb4 HRR
                obtain ⟨d0, d1, d2, d3, d4, d5, d6, d7, d8, d9, da, dl⟩ := HD.out w4 HBW4.out
                have HX5 := Lib.hid (HBN.out w4)
                go_upto_region 9 with fail
                have HBW5 := Lib.hid (HBW4.out.alloc HBW4.out.size (.cells #[.int .i64 site, .int .i64 seq, .int .i64 1, .int .i64 es, .int .i64 eq, .int .i64 ei, .string text, .slice ga gone.length gc, .int .i64 of, .int .i64 num, .int .i64 gen] 33))
                have HB5 := Lib.hid (HB4.out.alloc HB4.out.size (.cells #[.int .i64 site, .int .i64 seq, .int .i64 1, .int .i64 es, .int .i64 eq, .int .i64 ei, .string text, .slice ga gone.length gc, .int .i64 of, .int .i64 num, .int .i64 gen] 33))
                clear d0 d1 d2 d3 d4 d5 d6 d7 d8 d9 da dl
                generalize hw5 : w4.alloc (.cells #[.int .i64 site, .int .i64 seq, .int .i64 1, .int .i64 es, .int .i64 eq, .int .i64 ei, .string text, .slice ga gone.length gc, .int .i64 of, .int .i64 num, .int .i64 gen] 33) = w5 at *
                clear hw5
                obtain ⟨b5, hb5⟩ : ∃ b, w4.heap.size = b := ⟨_, rfl⟩
                rw [hb5] at HX5 ⊢
                clear hb5
                have p0 := HX5.out.c0
                have p1 := HX5.out.c1
                have pl := HX5.out.lt
                simp only at p0 p1
                go_upto_region 10 with (first
                  | (go_at_call 6; refine (HLE.out w5 HBW5.out).mono ?_; rintro x6 w6 ⟨rfl, hb6⟩; have HB56 := Lib.hid hb6; clear hb6)
                  | fail)
                have HB6 := Lib.hid (HB5.out.trans (HB56.out.mono HB5.out.size))
                have HBW6 := Lib.hid (HBW5.out.trans (HB56.out.mono HBW5.out.size))
                have HX6 := Lib.hid (HX5.out.step HB56.out)
                clear p0 p1 pl HX5 HB56 HLE
                have p0 := HX6.out.c0
                have p1 := HX6.out.c1
                have pl := HX6.out.lt
                simp only at p0 p1
                go_upto_region 11 with (first
                  | (go_at_call 7; refine (HWI.out w6 HBW6.out).mono ?_; rintro x7 w7 ⟨a7, c7, L7, rfl, hop7, hos7, hb7⟩; have HB67 := Lib.hid hb7; have HOP7 := Lib.hid hop7; have HOS7 := Lib.hid hos7; clear hb7 hop7 hos7)
                  | fail)
                have HB7 := Lib.hid (HB6.out.trans (HB67.out.mono HB6.out.size))
                have HBW7 := Lib.hid (HBW6.out.trans (HB67.out.mono HBW6.out.size))
                have HX7 := Lib.hid (HX6.out.step HB67.out)
                clear p0 p1 pl HX6 HB67 HWI
                have p0 := HX7.out.c0
                have p1 := HX7.out.c1
                have pl := HX7.out.lt
                simp only at p0 p1
                have hi4c : (i : Int) < 4 := h4
                have hrem : ((i : Int)).tmod 8 = (i : Int) := by rw [Int.tmod_eq_emod_of_nonneg (by omega)]; omega
                go_upto_region 12 with fail
                clear p0 p1 pl HX7
                have hq8 := heap_alloc_new w7 (.cells #[.int .i64 (1 + (i : Int)), .int .i64 0, .int .i64 2, .int .i64 0, .int .i64 0, .int .i64 0, .string ⟨#[]⟩, .slice none 0 0, .int .i64 site, .int .i64 seq, .int .i64 0] 33)
                have HBW8 := Lib.hid (HBW7.out.alloc HBW7.out.size (.cells #[.int .i64 (1 + (i : Int)), .int .i64 0, .int .i64 2, .int .i64 0, .int .i64 0, .int .i64 0, .string ⟨#[]⟩, .slice none 0 0, .int .i64 site, .int .i64 seq, .int .i64 0] 33))
                have HB78 := Lib.hid ((Below.refl w7.heap.size w7).alloc (Nat.le_refl _) (.cells #[.int .i64 (1 + (i : Int)), .int .i64 0, .int .i64 2, .int .i64 0, .int .i64 0, .int .i64 0, .string ⟨#[]⟩, .slice none 0 0, .int .i64 site, .int .i64 seq, .int .i64 0] 33))
                have hb8g : W.heap.size ≤ w7.heap.size := HBW7.out.size
                have hb8l : w7.heap.size < (w7.alloc (.cells #[.int .i64 (1 + (i : Int)), .int .i64 0, .int .i64 2, .int .i64 0, .int .i64 0, .int .i64 0, .string ⟨#[]⟩, .slice none 0 0, .int .i64 site, .int .i64 seq, .int .i64 0] 33)).heap.size := (Array.getElem?_eq_some_iff.1 hq8).1
                have hw18 : w1.heap.size ≤ w7.heap.size := HB7.out.size
                have HB8 := Lib.hid (HB7.out.alloc HB7.out.size (.cells #[.int .i64 (1 + (i : Int)), .int .i64 0, .int .i64 2, .int .i64 0, .int .i64 0, .int .i64 0, .string ⟨#[]⟩, .slice none 0 0, .int .i64 site, .int .i64 seq, .int .i64 0] 33))
                generalize w7.alloc (.cells #[.int .i64 (1 + (i : Int)), .int .i64 0, .int .i64 2, .int .i64 0, .int .i64 0, .int .i64 0, .string ⟨#[]⟩, .slice none 0 0, .int .i64 site, .int .i64 seq, .int .i64 0] 33) = w8 at *
                obtain ⟨b8, hb8⟩ : ∃ b, w7.heap.size = b := ⟨_, rfl⟩
                have HB8E := Lib.hid hb8
                rw [hb8] at hq8 hb8g hb8l hw18 ⊢
                clear hb8 HB7 HBW7 HB6 HBW6
                obtain ⟨k0, k1, k2, k3, k4, k5, k6, k7, k8, k9, ka, kf, kl⟩ := ucells11 hq8
                go_upto_region 13 with (first
                  | (go_at_call 8; refine (HMA1.out w8 HBW8.out).mono ?_; rintro x9 w9 ⟨rfl, hb9⟩; have hq9 := (hb9.block b8 hb8l).trans hq8; obtain ⟨n0', n1', n2', n3', n4', n5', n6', n7', n8', n9', na', nf', nl'⟩ := ucells11 hq9; have HB89 := Lib.hid hb9; clear hb9)
                  | fail)
                have hq10 := heap_setCell_same w9 b8 1 _ 33 (.int .i64 ((cn : Int) + 1)) hq9
                have HBW10 := Lib.hid ((HBW8.out.trans (HB89.out.mono HBW8.out.size)).setCell (p := ⟨b8, 1, none⟩) hb8g (.int .i64 ((cn : Int) + 1)))
                have HB10 := Lib.hid ((HB8.out.trans (HB89.out.mono HB8.out.size)).setCell (p := ⟨b8, 1, none⟩) hw18 (.int .i64 ((cn : Int) + 1)))
                have HOP10 := Lib.hid (HOP7.out.below ((HB78.out.trans (HB89.out.mono HB78.out.size)).setCell (p := ⟨b8, 1, none⟩) (by rw [HB8E.out]; exact Nat.le_refl _) (.int .i64 ((cn : Int) + 1))))
                clear HOP7 HB78 HB8E HB8 HBW8 HB89
                clear k0 k1 k2 k3 k4 k5 k6 k7 k8 k9 ka kf kl n0' n1' n2' n3' n4' n5' n6' n7' n8' n9' na' nf' nl' HMA1
                simp only [List.setIfInBounds_toArray, List.set_cons_succ, List.set_cons_zero] at hq10
                generalize w9.setCell ⟨b8, 1, none⟩ (.int .i64 ((cn : Int) + 1)) = w10 at *
                clear hq8 hq9 hb8l hb8g hw18
                obtain ⟨k0, k1, k2, k3, k4, k5, k6, k7, k8, k9, ka, kf, kl⟩ := ucells11 hq10
                go_upto_region 14 with (first
                  | (go_at_call 10; refine (HBE1.out w10 HBW10.out).mono ?_; rintro x11 w11 ⟨a11, c11, L11, rfl, hop11, hl11, hos11, hb11⟩; have HT11 := Lib.hid (HTA1.out a11 c11 L11 w11 hop11 hl11 hos11); have HB11 := Lib.hid hb11; clear hop11 hl11 hos11 hb11)
                  | (go_at_call 9; refine HT11.out.mono ?_; rintro x12 w12 ⟨rfl, hb12⟩; have HB12 := Lib.hid (HB11.out.trans (hb12.mono HB11.out.size)); clear hb12)
                  | fail)
                have HBW12 := Lib.hid (HBW10.out.trans (HB12.out.mono HBW10.out.size))
                clear k0 k1 k2 k3 k4 k5 k6 k7 k8 k9 ka kf kl hq10 HBE1 HTA1 HT11 HB11
                go_upto_region 15 with (first
                  | (go_at_call 9; refine (HTB.out w12 HBW12.out).mono ?_; rintro x13 w13 ⟨rfl, hb13⟩; have HB13 := Lib.hid (HB12.out.trans (hb13.mono HB12.out.size)); clear hb13)
                  | fail)
                have HBW13 := Lib.hid (HBW10.out.trans (HB13.out.mono HBW10.out.size))
                refine la_r15 w13 (Lib.hid (HEQ.out a7 c7 L7 w13 HBW13.out (HOP10.out.below HB13.out) HOS7.out)) HMM.out (by omega) HCAP.out ?_
                intro v110 v111 v112 v113 v114 v115 v116 v117 v118 v119 v120 v121 v122 v123 v124 v125 v126 v127 v128 v129 v130 v131 v132 v133 v134 v135 v136 v137 v138 v139 v140 v141 v142 v143 v144 v145 v146 w14 hb14
                have HB14 := Lib.hid (HB10.out.trans ((HB13.out.trans (hb14.mono HB13.out.size)).mono HB10.out.size))
                clear hb14
                go_wp2_with fail
                go_roundw
                case rel => exact ⟨i + 1, by go_num, by omega, HB14.out⟩
                case measure => simp [RowKit.intOf]; omega
                -- @E end
              · as_aux_lemma =>
                -- @F
                generalize OpR.os rl = D0 at *
                generalize rl[m] = r at *
                obtain ⟨⟨site, seq, kind, ⟨es, eq, ei⟩, text, gone, of, num, gen⟩, ga, gc⟩ := r
                simp only at HD hk HMO HROW
                clear HMO HROW hml HNR HDL HSZ HRO HGN
                go_upto_region 7 with fail
                refine la_r7 wr (b := true) (Lib.hid (HRR.out wr HBW.out)) (Lib.hid (fun (wx : World) (hx : Below wr.heap.size wr wx) => (by obtain ⟨_, _, e2, _, _, _, _, _, _, _, _, el⟩ := HD.out wx (HBW.out.trans (hx.mono HBW.out.size)); exact ⟨e2, el⟩))) HMM.out (by omega) (by rw [decide_eq_false hk]; rfl) ?_
                intro v33 v34 v35 v36 v37 v38 v39 v40 v41 v42 v43 v44 v45 v46 v47 v48 v49 v50 v51 v52 v53 v54 w4 hb4
                have HB4 := Lib.hid (HB.out.trans (hb4.mono HB.out.size))
                clear hb4 HRR
                go_wp2_with fail
                go_roundw
                case rel => exact ⟨i + 1, by go_num, by omega, HB4.out⟩
                case measure => simp [RowKit.intOf]; omega
                -- @F end
        · as_aux_lemma =>
          -- @C
          rw [show rowB (OpR.os rl) = false from by cases h : rowB (OpR.os rl) with | false => rfl | true => exact absurd ((rowB_iff _).1 h) hrow] at HRR
          unfold BoB at HRR
          clear hrow
          go_wp2_with (first
            | (go_at_call 5; refine (HRR.out wr HBW.out).mono ?_; rintro x4 w4 ⟨rfl, hb4⟩; have HB4 := Lib.hid (HB.out.trans (hb4.mono HB.out.size)); clear hb4)
            | fail)
          go_roundw
          case rel => exact ⟨i + 1, by go_num, by omega, HB4.out⟩
          case measure => simp [RowKit.intOf]; omega
          -- @C end
      · have hd4 : decide ((i : Int) < 4) = false := decide_eq_false h4
        go_wp2_with (first | (go_at_call 13; refine (HWK.out _).mono ?_; rintro x2 w2 ⟨rfl, hb2⟩; have HB2 := Lib.hid (HBW.out.trans (hb2.mono HBW.out.size)); clear hb2) | fail)
        go_ret
        exact ⟨rfl, HB2.out⟩
    · have hd4 : decide ((i : Int) < (n0 : Int)) = false := decide_eq_false (by omega)
      go_wp2_with (first | (go_at_call 13; refine (HWK.out _).mono ?_; rintro x2 w2 ⟨rfl, hb2⟩; have HB2 := Lib.hid (HBW.out.trans (hb2.mono HBW.out.size)); clear hb2) | fail)
      go_ret
      exact ⟨rfl, HB2.out⟩
end Go.Proofs.YtefgoelkdjendaaGreatDoor
